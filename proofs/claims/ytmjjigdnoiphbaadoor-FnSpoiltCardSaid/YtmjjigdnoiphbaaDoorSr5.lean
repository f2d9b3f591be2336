/-
  impl: visit, and the closures of the search.
-/
import Derived.Test.YtmjjigdnoiphbaaDoorSr4
namespace Go.Proofs.YtmjjigdnoiphbaaDoor
open Go.RowKit Go.Deep Go.Maps
set_option linter.unusedVariables false

set_option maxRecDepth 8000 in
set_option maxHeartbeats 8000000 in
theorem visit_any {st : St} {w0 : World} {sb mb : Nat} {a1 a2 a3 : Option Addr} {q1 q2 q3 : Nat} {w : World} {tv : Value} {vals : List Value} {S : List Task} {kn : Kn} (h : Srch st w0 sb mb (.slice a1 st.1.length q1) (.slice a2 st.2.1.length q2) (.slice a3 st.2.2.length q3) w tv vals S kn)
    (hst : StateAt w0 (.agg #[.slice a1 st.1.length q1, .slice a2 st.2.1.length q2, .slice a3 st.2.2.length q3]) st) (hcap : CapSt w0 (.agg #[.slice a1 st.1.length q1, .slice a2 st.2.1.length q2, .slice a3 st.2.2.length q3]) st.2.1.length) (hr : RightSt st) {d : Pr} (hd : PV st d) (hl : vals.length ≤ 500) :
    Calls Tryd.prog 65 #[.pointer (some ⟨sb, 0, none⟩), pv d] w fun e w' => (∃ u, e = .returned u) ∧ ∃ kn' S', RunR st (d, none) kn S kn' S' ∧ SOut st w0 sb mb (.slice a1 st.1.length q1) (.slice a2 st.2.1.length q2) (.slice a3 st.2.2.length q3) w tv S' kn' w' := by
  have HST := hide hst
  have HCAP := hide hcap
  have HR := hide hr
  have HD := hide hd
  have HH := hide h
  have hsl : sb < w.heap.size := (Array.getElem?_eq_some_iff.1 h.var).1
  clear h hst hcap hr hd
  unfold pv pc5
  go_enter Tryd.func65, Tryd.ntmps65
  go_wp2_with fail
  obtain ⟨V, hV⟩ : ∃ V, V = w.alloc (.cells #[.int .i8 (d 0), .int .i8 (d 1), .int .i8 (d 2), .int .i8 (d 3), .int .i8 (d 4)] 61) := ⟨_, rfl⟩
  rw [← hV]
  have hbV : Below w.heap.size w V := by rw [hV]; exact Joins.below_alloc1 _ _
  have vP : V.heap[w.heap.size]? = some (.cells #[.int .i8 (d 0), .int .i8 (d 1), .int .i8 (d 2), .int .i8 (d 3), .int .i8 (d 4)] 61 (0, 0)) := by rw [hV]; exact heap_alloc_new _ _
  have hsV := HH.out.below hbV
  obtain ⟨p0, p1, p2, p3, p4⟩ := cells5 vP
  obtain ⟨c0, c1, c2, c3, c4⟩ := cellsS hsV.var
  have hlook : ∀ k, (Instr.lookup 111 (.map (some mb)) (.agg #[.int .i8 (d 0), .int .i8 (d 1), .int .i8 (d 2), .int .i8 (d 3), .int .i8 (d 4)]) false).run Tryd.prog (V.drewN k) = .ok (.int .i64 (kn d)) (V.drewN k) := fun k => (hsV.known.kept (w' := V.drewN k) ((Joins.below_draws V.heap.size V k).block mb hsV.known.lt)).look HR.out.so HD.out
  have HSV := hide hsV
  have HVP := hide vP
  have HBV := hide hbV
  clear hV hbV vP hsV
  by_cases hk : kn d = 0
  · have hkb : (kn d != 0) = false := by simp [hk]
    have HK := hide hk
    obtain ⟨kd, hkd⟩ : ∃ kd, kn d = kd := ⟨_, rfl⟩
    simp only [hkd] at hlook hkb
    clear hk hkd
    go_quiet (fail)
    go_wp2_with fail
    have hbQ := Joins.below_draws V.heap.size V nq
    have HS1 := hide (HSV.out.below hbQ)
    have HP1 := hide (blockLater hbQ HVP.out)
    have HB1 : Hid (Below w.heap.size w (V.drewN nq)) := below_tail HBV.out hbQ
    clear hbQ p0 p1 p2 p3 p4 c0 c1 c2 c3 c4 hlook
    generalize V.drewN nq = W1 at *
    have HSM : Hid (same5 d (endP st) = allLeft st d) := by
      have h1 := same5_iff HR.out.so HD.out (PV.endP st)
      have h2 := allLeft_iff HD.out
      show same5 d (endP st) = allLeft st d
      rw [Bool.eq_iff_iff, h1, h2]
      exact eq_comm
    obtain ⟨p0, p1, p2, p3, p4⟩ := cells5 HP1.out
    obtain ⟨c0, c1, c2, c3, c4⟩ := cellsS HS1.out.var
    obtain ⟨f0, f1, f2, f3, f4⟩ := cellsE HS1.out.var
    have heq := eqPr' d (endP st)
    unfold pc5 at heq
    obtain ⟨sm, hsm⟩ : ∃ sm, same5 d (endP st) = sm := ⟨_, rfl⟩
    simp only [hsm] at heq
    rw [hsm] at HSM
    clear hsm
    generalize endP st = ep at heq f0 f1 f2 f3 f4
    cases sm with
    | true =>
      have HALL := hide HSM.out.symm
      go_quiet (fail)
      go_wp2_with fail
      have hb2 := Joins.below_draws W1.heap.size W1 nq
      have HS2 := hide (HS1.out.below hb2)
      have hP2 := blockLater hb2 HP1.out
      have HB2 : Hid (Below w.heap.size w (W1.drewN nq)) := below_tail HB1.out hb2
      clear hb2 p0 p1 p2 p3 p4 c0 c1 c2 c3 c4 f0 f1 f2 f3 f4 heq
      generalize W1.drewN nq = w2 at *
      obtain ⟨p0, p1, p2, p3, p4⟩ := cells5 hP2
      obtain ⟨c0, c1, c2, c3, c4⟩ := cellsS HS2.out.var
      clear hP2
      have hsd : Srch st w0 sb mb (.slice a1 st.1.length q1) (.slice a2 st.2.1.length q2) (.slice a3 st.2.2.length q3) w2.drew tv vals S kn := HS2.out.below (Joins.below_draws _ _ 1)
      obtain ⟨w5, hput, hkn5, hg5⟩ := hsd.known.put HR.out.so HD.out (x := 2) (Or.inr rfl)
      have hput' : (Instr.mapUpdate 111 (.map (some mb)) (.agg #[.int .i8 (d 0), .int .i8 (d 1), .int .i8 (d 2), .int .i8 (d 3), .int .i8 (d 4)]) (.int .i64 2)).run Tryd.prog w2.drew = .ok () w5 := hput
      obtain ⟨hs5, hc5⟩ := hsd.put hkn5 hg5
      have HS5 := hide hs5
      have HC5 := hide hc5
      clear hput hkn5 hg5 hsd hs5 hc5
      go_region
      go_wp2_with fail
      first | go_end0 | (refine bodyPost_ret (results_none rfl _ _ _) rfl ?_)
      exact ⟨⟨_, rfl⟩, _, S, Or.inr (Or.inl ⟨HK.out, HALL.out, rfl, rfl⟩), SOut.trans (w' := w2.drew) (tv' := tv) (Chg.of_below HB2.out.drew) (fun q e => Or.inl e) ⟨tv, vals, HS5.out, HC5.out, fun q e => Or.inl e⟩⟩
    | false =>
      have HALL := hide HSM.out.symm
      go_quiet (fail)
      go_wp2_with fail
      have hb2 := Joins.below_draws W1.heap.size W1 nq
      have HS2 := hide (HS1.out.below hb2)
      have hP2 := blockLater hb2 HP1.out
      have HB2 : Hid (Below w.heap.size w (W1.drewN nq)) := below_tail HB1.out hb2
      clear hb2 p0 p1 p2 p3 p4 c0 c1 c2 c3 c4 f0 f1 f2 f3 f4 heq
      generalize W1.drewN nq = w2 at *
      obtain ⟨p0, p1, p2, p3, p4⟩ := cells5 hP2
      obtain ⟨c0, c1, c2, c3, c4⟩ := cellsS HS2.out.var
      clear hP2
      refine (try_any HS2.out HST.out HCAP.out HR.out HD.out 0 (Nat.zero_le _) hl).mono ?_
      rintro e w3 ⟨⟨u, rfl⟩, kn', S', hT, hO⟩
      go_wp2_with fail
      first | go_end0 | (refine bodyPost_ret (results_none rfl _ _ _) rfl ?_)
      exact ⟨⟨_, rfl⟩, kn', S', Or.inr (Or.inr ⟨HK.out, HALL.out, hT⟩), SOut.trans (Chg.of_below HB2.out) (fun q e => Or.inl e) hO⟩
  · have hkb : (kn d != 0) = true := by simp [hk]
    have HK := hide hk
    obtain ⟨kd, hkd⟩ : ∃ kd, kn d = kd := ⟨_, rfl⟩
    simp only [hkd] at hlook hkb
    clear hk hkd
    go_quiet (fail)
    go_wp2_with fail
    have hbQ := Joins.below_draws V.heap.size V nq
    first | go_end0 | (refine bodyPost_ret (results_none rfl _ _ _) rfl ?_)
    exact ⟨⟨_, rfl⟩, kn, S, Or.inl ⟨HK.out, rfl, rfl⟩, SOut.trans (Chg.of_below (below_tail HBV.out hbQ)) (fun q e => Or.inl e) (SOut.refl (HSV.out.below hbQ))⟩

theorem cell1 {w : World} {b : Nat} {x : Value} {t : TypeId} (h : w.heap[b]? = some (.cells #[x] t (0, 0))) : w.cell? ⟨b, 0, none⟩ = some x := by rw [cell_of_row w b 0 _ t (0, 0) h]; rfl

/-- what is asked of a task's progress -/
def TaskOk (st : St) (tk : Task) : Prop :=
  match tk.2 with
  | none => PV st tk.1
  | some m => PV st tk.1 ∧ m < st.2.1.length ∧ PV st (bump tk.1 m)

set_option maxRecDepth 8000 in
set_option maxHeartbeats 8000000 in
theorem visitTask_any {st : St} {w0 : World} {sb mb : Nat} {a1 a2 a3 : Option Addr} {q1 q2 q3 : Nat} {w : World} {tv : Value} {vals : List Value} {S : List Task} {kn : Kn} (h : Srch st w0 sb mb (.slice a1 st.1.length q1) (.slice a2 st.2.1.length q2) (.slice a3 st.2.2.length q3) w tv vals S kn)
    (hst : StateAt w0 (.agg #[.slice a1 st.1.length q1, .slice a2 st.2.1.length q2, .slice a3 st.2.2.length q3]) st) (hcap : CapSt w0 (.agg #[.slice a1 st.1.length q1, .slice a2 st.2.1.length q2, .slice a3 st.2.2.length q3]) st.2.1.length) (hr : RightSt st) {d : Pr} (hd : PV st d) (hl : vals.length ≤ 500)
    {fn b1 b2 : Nat} (hfn : fn = 64 ∨ fn = 114) (h1 : w.heap[b1]? = some (.cells #[.pointer (some ⟨sb, 0, none⟩)] 55 (0, 0))) (h2 : w.heap[b2]? = some (.cells (pc5 d) 61 (0, 0))) :
    Calls Tryd.prog fn #[.pointer (some ⟨b1, 0, none⟩), .pointer (some ⟨b2, 0, none⟩)] w fun e w' => (∃ u, e = .returned u) ∧ ∃ kn' S', RunR st (d, none) kn S kn' S' ∧ SOut st w0 sb mb (.slice a1 st.1.length q1) (.slice a2 st.2.1.length q2) (.slice a3 st.2.2.length q3) w tv S' kn' w' := by
  have HV := hide (visit_any h hst hcap hr hd hl)
  have f0 := cell1 h1
  obtain ⟨p0, p1, p2, p3, p4⟩ := cells5 h2
  clear h hst hcap hr hd h1 h2
  rcases hfn with rfl | rfl
  · go_enter Tryd.func64, Tryd.ntmps64
    go_wp2_with fail
    refine HV.out.mono ?_
    rintro e w2 ⟨⟨u, rfl⟩, hx⟩
    go_wp2_with fail
    first | go_end0 | (refine bodyPost_ret (results_none rfl _ _ _) rfl ?_)
    exact ⟨⟨_, rfl⟩, hx⟩
  · go_enter Tryd.func114, Tryd.ntmps114
    go_wp2_with fail
    refine HV.out.mono ?_
    rintro e w2 ⟨⟨u, rfl⟩, hx⟩
    go_wp2_with fail
    first | go_end0 | (refine bodyPost_ret (results_none rfl _ _ _) rfl ?_)
    exact ⟨⟨_, rfl⟩, hx⟩

set_option maxRecDepth 8000 in
set_option maxHeartbeats 8000000 in
theorem afterTask_any {st : St} {w0 : World} {sb mb : Nat} {a1 a2 a3 : Option Addr} {q1 q2 q3 : Nat} {w : World} {tv : Value} {vals : List Value} {S : List Task} {kn : Kn} (h : Srch st w0 sb mb (.slice a1 st.1.length q1) (.slice a2 st.2.1.length q2) (.slice a3 st.2.2.length q3) w tv vals S kn)
    (hst : StateAt w0 (.agg #[.slice a1 st.1.length q1, .slice a2 st.2.1.length q2, .slice a3 st.2.2.length q3]) st) (hcap : CapSt w0 (.agg #[.slice a1 st.1.length q1, .slice a2 st.2.1.length q2, .slice a3 st.2.2.length q3]) st.2.1.length) (hr : RightSt st) {d : Pr} {m : Nat} (hd : PV st d) (hm : m < st.2.1.length) (hd2 : PV st (bump d m)) (hl : vals.length ≤ 500)
    {b1 b2 b3 b4 : Nat} (h1 : w.heap[b1]? = some (.cells #[.pointer (some ⟨sb, 0, none⟩)] 55 (0, 0))) (h2 : w.heap[b2]? = some (.cells (pc5 (bump d m)) 61 (0, 0))) (h3 : w.heap[b3]? = some (.cells (pc5 d) 61 (0, 0))) (h4 : w.heap[b4]? = some (.cells #[.int .i64 (m : Int)] 3 (0, 0))) :
    Calls Tryd.prog 113 #[.pointer (some ⟨b1, 0, none⟩), .pointer (some ⟨b2, 0, none⟩), .pointer (some ⟨b3, 0, none⟩), .pointer (some ⟨b4, 0, none⟩)] w fun e w' => (∃ u, e = .returned u) ∧ ∃ kn' S', RunR st (d, some m) kn S kn' S' ∧ SOut st w0 sb mb (.slice a1 st.1.length q1) (.slice a2 st.2.1.length q2) (.slice a3 st.2.2.length q3) w tv S' kn' w' := by
  have HH := hide h
  have HST := hide hst
  have HCAP := hide hcap
  have HR := hide hr
  have HD := hide hd
  have H1 := hide h1
  have H3 := hide h3
  have H4 := hide h4
  have f0 := cell1 h1
  obtain ⟨p0, p1, p2, p3, p4⟩ := cells5 h2
  obtain ⟨c0, c1, c2, c3, c4⟩ := cellsS h.var
  obtain ⟨l1, l2, l3, l4⟩ := hr.lens
  have hlook : ∀ k, (Instr.lookup 111 (.map (some mb)) (.agg #[.int .i8 (bump d m 0), .int .i8 (bump d m 1), .int .i8 (bump d m 2), .int .i8 (bump d m 3), .int .i8 (bump d m 4)]) false).run Tryd.prog (w.drewN k) = .ok (.int .i64 (kn (bump d m))) (w.drewN k) := fun k => (h.known.kept (w' := w.drewN k) ((Joins.below_draws w.heap.size w k).block mb h.known.lt)).look hr.so hd2
  obtain ⟨kd, hkd⟩ : ∃ kd, kn (bump d m) = kd := ⟨_, rfl⟩
  simp only [hkd] at hlook
  have HKD := hide hkd
  clear h hst hcap hr hd h1 h2 h3 h4 hd2 hkd l4
  obtain ⟨de, hde⟩ : ∃ de, bump d m = de := ⟨_, rfl⟩
  simp only [hde] at hlook p0 p1 p2 p3 p4
  clear hde
  by_cases hk : kd = 2
  · have hkb : (kd == 2) = true := by simp [hk]
    have HK := hide hk
    clear hk
    go_enter Tryd.func113, Tryd.ntmps113
    go_wp2_with fail
    go_quiet (fail)
    go_wp2_with fail
    have hbQ := Joins.below_draws w.heap.size w nq
    have HS1 := hide (HH.out.below hbQ)
    have h31 := blockLater hbQ H3.out
    have h11 := blockLater hbQ H1.out
    have HB1 := hide hbQ
    clear hbQ p0 p1 p2 p3 p4 c0 c1 c2 c3 c4 hlook f0
    generalize w.drewN nq = W1 at *
    have f0 := cell1 h11
    obtain ⟨p0, p1, p2, p3, p4⟩ := cells5 h31
    obtain ⟨c0, c1, c2, c3, c4⟩ := cellsS HS1.out.var
    have hsd : Srch st w0 sb mb (.slice a1 st.1.length q1) (.slice a2 st.2.1.length q2) (.slice a3 st.2.2.length q3) W1.drew tv vals S kn := HS1.out.below (Joins.below_draws _ _ 1)
    obtain ⟨w5, hput, hkn5, hg5⟩ := hsd.known.put HR.out.so HD.out (x := 2) (Or.inr rfl)
    have hput' : (Instr.mapUpdate 111 (.map (some mb)) (.agg #[.int .i8 (d 0), .int .i8 (d 1), .int .i8 (d 2), .int .i8 (d 3), .int .i8 (d 4)]) (.int .i64 2)).run Tryd.prog W1.drew = .ok () w5 := hput
    obtain ⟨hs5, hc5⟩ := hsd.put hkn5 hg5
    have HS5 := hide hs5
    have HC5 := hide hc5
    clear hput hkn5 hg5 hsd hs5 hc5 h31 h11
    go_region
    go_wp2_with fail
    first | go_end0 | (refine bodyPost_ret (results_none rfl _ _ _) rfl ?_)
    exact ⟨⟨_, rfl⟩, _, S, Or.inl ⟨HKD.out.trans HK.out, rfl, rfl⟩, SOut.trans (w' := W1.drew) (tv' := tv) (Chg.of_below HB1.out.drew) (fun q e => Or.inl e) ⟨tv, vals, HS5.out, HC5.out, fun q e => Or.inl e⟩⟩
  · have hkb : (kd == 2) = false := by simp [hk]
    have HK := hide hk
    have m0 := cell1 H4.out
    obtain ⟨r0, r1, r2, r3, r4⟩ := cells5 H3.out
    clear hk
    go_enter Tryd.func113, Tryd.ntmps113
    go_wp2_with fail
    go_quiet (fail)
    go_wp2_with fail
    have hbQ := Joins.below_draws w.heap.size w nq
    have ht := try_any (HH.out.below hbQ) HST.out HCAP.out HR.out HD.out (m + 1) hm hl
    refine Calls.mono (show Calls Tryd.prog 102 #[.pointer (some ⟨sb, 0, none⟩), pv d, .int .i64 ((m : Int) + 1)] (w.drewN nq) _ from ht) ?_
    rintro e w3 ⟨⟨u, rfl⟩, kn', S', hT, hO⟩
    go_wp2_with fail
    first | go_end0 | (refine bodyPost_ret (results_none rfl _ _ _) rfl ?_)
    exact ⟨⟨_, rfl⟩, kn', S', Or.inr ⟨fun e => HK.out (HKD.out.symm.trans e), hT⟩, SOut.trans (Chg.of_below hbQ) (fun q e => Or.inl e) hO⟩
end Go.Proofs.YtmjjigdnoiphbaaDoor

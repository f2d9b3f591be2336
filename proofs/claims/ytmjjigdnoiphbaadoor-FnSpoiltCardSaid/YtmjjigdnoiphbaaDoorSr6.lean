/-
  impl: leadsHome, newSearch.
-/
import Derived.Test.YtmjjigdnoiphbaaDoorSr5
namespace Go.Proofs.YtmjjigdnoiphbaaDoor
open Go.RowKit Go.Deep Go.Maps
set_option linter.unusedVariables false

theorem Awaits.len {st : St} {d0 : Pr} : ∀ {S : List Task} {d : Pr}, Awaits st d0 S d → S.length + restR st d = restR st d0
  | [], d, h => by rw [show d = d0 from h]; simp
  | t :: S, d, h => by
    obtain ⟨⟨m, _, rfl, h3, h4, h5, _⟩, h2⟩ := h
    have := Awaits.len h2
    have := restR_bump h3.ok h4 (canP_left h5)
    simp only [List.length_cons]
    omega
theorem SInv.len {st : St} (hs : SoSt st) {d0 : Pr} (hd : PV st d0) {kn : Kn} {S : List Task} (h : SInv st d0 kn S) : S.length ≤ 46 := by
  have h45 : restR st d0 ≤ 45 := rem_le (hs.behind hd.ok)
  rcases h.form with ⟨d, _, ha, _⟩ | ⟨d, S0, rfl, _, ha⟩
  · have := ha.len
    omega
  · have := ha.len
    simp only [List.length_cons]
    omega
theorem SInv.taskOk {st : St} {d0 : Pr} {kn : Kn} {tk : Task} {S : List Task} (h : SInv st d0 kn (tk :: S)) : TaskOk st tk := by
  unfold TaskOk
  rcases h.form with ⟨d, _, ha, _⟩ | ⟨d, S0, e, hd, _⟩
  · obtain ⟨⟨m, e1, _, h3, h4, h5, _⟩, _⟩ := ha
    rw [e1]
    exact ⟨h3, h4, h3.bump h4 (canP_left h5)⟩
  · simp only [List.cons.injEq] at e
    rw [e.1]
    exact hd
theorem ownsRow_form {w : World} {B : Nat} {e : TypeId} {tv : Value} {vals : List Value} (h : w.ownsRow B e 1 tv vals.length vals) : ∃ a cap, tv = .slice a vals.length cap := by
  rcases h.2 with ⟨h1, h2⟩ | ⟨g, cap, cur, h1, _⟩
  · exact ⟨none, 0, by simp [h1, h2]⟩
  · exact ⟨_, cap, h1⟩
/-- any task that is on the stack, run -/
theorem task_any {st : St} {w0 : World} {sb mb : Nat} {a1 a2 a3 : Option Addr} {q1 q2 q3 : Nat} {w : World} {tv : Value} {vals : List Value} {S : List Task} {kn : Kn} (h : Srch st w0 sb mb (.slice a1 st.1.length q1) (.slice a2 st.2.1.length q2) (.slice a3 st.2.2.length q3) w tv vals S kn)
    (hst : StateAt w0 (.agg #[.slice a1 st.1.length q1, .slice a2 st.2.1.length q2, .slice a3 st.2.2.length q3]) st) (hcap : CapSt w0 (.agg #[.slice a1 st.1.length q1, .slice a2 st.2.1.length q2, .slice a3 st.2.2.length q3]) st.2.1.length) (hr : RightSt st) (hl : vals.length ≤ 500) {v : Value} {tk : Task} (ht : TaskV w sb (badB sb mb tv) v tk) (hk : TaskOk st tk) :
    ∃ fn caps, v = .func (.func fn) #[] caps ∧ (fn = 64 ∨ fn = 114 ∨ fn = 113) ∧ Calls Tryd.prog fn caps w fun e w' => (∃ u, e = .returned u) ∧ ∃ kn' S', RunR st tk kn S kn' S' ∧ SOut st w0 sb mb (.slice a1 st.1.length q1) (.slice a2 st.2.1.length q2) (.slice a3 st.2.2.length q3) w tv S' kn' w' := by
  obtain ⟨d, om⟩ := tk
  cases om with
  | none =>
    obtain ⟨fn, b1, b2, hfn, rfl, h1, h2, _, _⟩ := ht
    exact ⟨fn, _, rfl, hfn.imp id Or.inl, visitTask_any h hst hcap hr hk hl hfn h1 h2⟩
  | some m =>
    obtain ⟨b1, b2, b3, b4, rfl, h1, h2, h3, h4, _⟩ := ht
    exact ⟨_, _, rfl, Or.inr (Or.inr rfl), afterTask_any h hst hcap hr hk.1 hk.2.1 hk.2.2 hl h1 h2 h3 h4⟩

set_option maxRecDepth 8000 in
set_option maxHeartbeats 8000000 in
theorem leadsHome_any {st : St} {w0 : World} {sb mb : Nat} {a1 a2 a3 : Option Addr} {q1 q2 q3 : Nat} {w : World} {tv0 : Value} {vals0 : List Value} {kn0 : Kn} (h : Srch st w0 sb mb (.slice a1 st.1.length q1) (.slice a2 st.2.1.length q2) (.slice a3 st.2.2.length q3) w tv0 vals0 [] kn0)
    (hst : StateAt w0 (.agg #[.slice a1 st.1.length q1, .slice a2 st.2.1.length q2, .slice a3 st.2.2.length q3]) st) (hcap : CapSt w0 (.agg #[.slice a1 st.1.length q1, .slice a2 st.2.1.length q2, .slice a3 st.2.2.length q3]) st.2.1.length) (hr : RightSt st) (hsd : Sound st kn0) {d : Pr} (hd : PV st d) :
    Calls Tryd.prog 29 #[.pointer (some ⟨sb, 0, none⟩), pv d] w fun e w' => e = .returned (.bool (decide (0 ≤ val (behindSt st d)))) ∧ ∃ kn', Sound st kn' ∧ SOut st w0 sb mb (.slice a1 st.1.length q1) (.slice a2 st.2.1.length q2) (.slice a3 st.2.2.length q3) w tv0 [] kn' w' := by
  have HST := hide hst
  have HCAP := hide hcap
  have HR := hide hr
  have HD := hide hd
  have HH := hide h
  have HSD := hide hsd
  have hsl : sb < w.heap.size := (Array.getElem?_eq_some_iff.1 h.var).1
  have hml : mb < w.heap.size := h.known.lt
  have HTL : Hid (∀ q, tv0.ownBlock = some q → q < w.heap.size) := fun q e => (ownBlock_lt h.row e).2
  have hv0 : vals0.length = 0 := h.len
  clear h hst hcap hr hd hsd
  have hmf : ∀ (fn : Fn) (first cap : Array Value) (w : World), (Instr.makeFunc fn first cap).run Tryd.prog w = .ok (.func fn first cap) w := fun _ _ _ _ => rfl
  unfold pv pc5
  go_enter Tryd.func29, Tryd.ntmps29
  go_wp2_with fail
  obtain ⟨V, hV⟩ : ∃ V, V = (w.alloc (.cells #[.pointer (some ⟨sb, 0, none⟩)] 55)).alloc (.cells #[.int .i8 (d 0), .int .i8 (d 1), .int .i8 (d 2), .int .i8 (d 3), .int .i8 (d 4)] 61) := ⟨_, rfl⟩
  obtain ⟨bf, hbf⟩ : ∃ bf, bf = w.heap.size := ⟨_, rfl⟩
  rw [← hV, ← hbf]
  have hbV : Below w.heap.size w V := by rw [hV]; exact Joins.below_alloc2 _ _ _
  have vF : V.heap[bf]? = some (.cells #[.pointer (some ⟨sb, 0, none⟩)] 55 (0, 0)) := by rw [hV, hbf]; exact blockLater (Joins.below_alloc1 _ _) (heap_alloc_new _ _)
  have vP : V.heap[bf + 1]? = some (.cells #[.int .i8 (d 0), .int .i8 (d 1), .int .i8 (d 2), .int .i8 (d 3), .int .i8 (d 4)] 61 (0, 0)) := by rw [hV, hbf]; exact heap_alloc2_new _ _ _
  have HBF := hide hbf
  have HSV := hide (HH.out.below hbV)
  have HCV : Hid (Chg (badB sb mb tv0) w V) := Chg.of_below hbV
  have HVF := hide vF
  have HVP := hide vP
  have hV2 : bf + 1 < V.heap.size := (Array.getElem?_eq_some_iff.1 vP).1
  have hsb : sb < bf := by omega
  have hmb : mb < bf := by omega
  have hnb : Hid (∀ q, bf ≤ q → ¬ badB sb mb tv0 q) := fun q hq e => by
    rcases e with e | e | e
    · omega
    · omega
    · have := HTL.out q e
      omega
  clear hV hbf hbV vF vP
  refine (push_any HSV.out (tk := (d, none)) ⟨_, bf, bf + 1, Or.inl rfl, rfl, HVF.out, HVP.out, hnb.out _ (by omega), hnb.out _ (by omega)⟩ (by omega)).mono ?_
  rintro e w1 ⟨⟨u1, rfl⟩, ⟨tv1, vals1, hs1, hc1, hq1⟩⟩
  have HF1 : Hid (w1.heap[bf]? = some (.cells #[.pointer (some ⟨sb, 0, none⟩)] 55 (0, 0))) := (hc1.block bf (by omega) (hnb.out _ (by omega))).trans HVF.out
  have HP1 : Hid (w1.heap[bf + 1]? = some (.cells #[.int .i8 (d 0), .int .i8 (d 1), .int .i8 (d 2), .int .i8 (d 3), .int .i8 (d 4)] 61 (0, 0))) := (hc1.block (bf + 1) hV2 (hnb.out _ (by omega))).trans HVP.out
  have HT1 : Hid (∀ q, tv1.ownBlock = some q → q < bf ∨ bf + 1 < q) := fun q e => by
    rcases hq1 q e with e | e
    · have := HTL.out q e
      have := HBF.out
      omega
    · omega
  have HO1 : Hid (Chg (badB sb mb tv0) w w1 ∧ ∀ q, tv1.ownBlock = some q → tv0.ownBlock = some q ∨ w.heap.size ≤ q) := by
    obtain ⟨_, _, _, hc, hq⟩ := (SOut.trans (tv := tv0) (tv' := tv0) HCV.out (fun q e => Or.inl e) ⟨tv1, vals1, hs1, hc1, hq1⟩ : SOut st w0 sb mb _ _ _ w tv0 _ _ w1).ex
    exact ⟨hc, fun q e => by
      rcases hq1 q e with e | e
      · exact Or.inl e
      · exact Or.inr (Nat.le_trans HCV.out.size e)⟩
  have HS1 := hide hs1
  have HI1 : Hid (SInv st d kn0 [(d, none)]) := ⟨HSD.out, Or.inr ⟨d, [], rfl, HD.out, rfl⟩⟩
  clear hs1 hc1 hq1 HVF HVP HSV HCV
  go_wp2_with fail
  go_loopg [8] (measS st [(d, none)]) (fun gk _ wr => ∃ tv vals S kn, Srch st w0 sb mb (.slice a1 st.1.length q1) (.slice a2 st.2.1.length q2) (.slice a3 st.2.2.length q3) wr tv vals S kn ∧ SInv st d kn S ∧ measS st S = gk ∧ wr.heap[bf]? = some (.cells #[.pointer (some ⟨sb, 0, none⟩)] 55 (0, 0)) ∧ wr.heap[bf + 1]? = some (.cells #[.int .i8 (d 0), .int .i8 (d 1), .int .i8 (d 2), .int .i8 (d 3), .int .i8 (d 4)] 61 (0, 0)) ∧ (∀ q, tv.ownBlock = some q → q < bf ∨ bf + 1 < q) ∧ Chg (badB sb mb tv0) w wr ∧ ∀ q, tv.ownBlock = some q → tv0.ownBlock = some q ∨ w.heap.size ≤ q)
  case atStart => exact ⟨tv1, vals1, [(d, none)], kn0, HS1.out, HI1.out, rfl, HF1.out, HP1.out, HT1.out, HO1.out.1, HO1.out.2⟩
  case round =>
    obtain ⟨tv, vals, S, kn, hs, hi, hme, hF, hP, hT, hO, hQ⟩ := hrel
    have hl46 := hi.len HR.out.so HD.out
    have hvl := hs.len
    obtain ⟨ta, tc, rfl⟩ := ownsRow_form hs.row
    have f0 := cell1 hF
    obtain ⟨c0, c1, c2, c3, c4⟩ := cellsS hs.var
    obtain ⟨p0, p1, p2, p3, p4⟩ := cells5 hP
    have HS := hide hs
    have HI := hide hi
    have HME := hide hme
    have HF := hide hF
    have HP := hide hP
    have HT := hide hT
    have HO := hide hO
    have HQ := hide hQ
    have HVL := hide hvl
    have hb2 : bf + 1 < wr.heap.size := (Array.getElem?_eq_some_iff.1 hP).1
    cases S with
    | nil =>
      have hlook : ∀ k, (Instr.lookup 111 (.map (some mb)) (.agg #[.int .i8 (d 0), .int .i8 (d 1), .int .i8 (d 2), .int .i8 (d 3), .int .i8 (d 4)]) false).run Tryd.prog (wr.drewN k) = .ok (.int .i64 (kn d)) (wr.drewN k) := fun k => (hs.known.kept (w' := wr.drewN k) ((Joins.below_draws wr.heap.size wr k).block mb hs.known.lt)).look HR.out.so HD.out
      have hdone := (search_done hi).1
      have HDN : Hid ((kn d == 2) = decide (0 ≤ val (behindSt st d))) := by
        show _ = _
        rw [Bool.eq_iff_iff]
        simp only [beq_iff_eq, decide_eq_true_eq]
        exact hdone
      have HSND := hide hi.sound
      have hz : vals.length = 0 := hvl
      clear hs hi hme hF hP hT hO hQ hdone hvl
      rw [hz] at c4
      obtain ⟨kd, hkd⟩ : ∃ kd, kn d = kd := ⟨_, rfl⟩
      simp only [hkd] at hlook
      rw [hkd] at HDN
      clear hkd hz
      go_wp2_with fail
      go_quiet (fail)
      go_wp2_with fail
      go_ret
      have hbQ := Joins.below_draws wr.heap.size wr nq
      exact ⟨by rw [← HDN.out]; rfl, kn, HSND.out, ⟨_, vals, HS.out.below hbQ, HO.out.trans (Chg.of_below hbQ), HQ.out⟩⟩
    | cons tk S' =>
      have hpos : 0 < vals.length := by rw [hvl]; simp
      have hv5 : vals.length ≤ 500 := by rw [hvl]; omega
      clear hs hi hme hF hP hT hO hQ hvl
      go_wp2_with fail
      refine (pop_any HS.out (by omega)).mono ?_
      rintro e w2 ⟨v, tv2, rfl, ht2, ⟨vals2, _, hs2⟩, hc2, hq2⟩
      have hlen2 : vals2.length ≤ 500 := by
        have h1 := hs2.len
        have h2 : S'.length + 1 ≤ 46 := hl46
        omega
      obtain ⟨fn, caps, rfl, hfn, hrun⟩ := task_any hs2 HST.out HCAP.out HR.out hlen2 ht2 HI.out.taskOk
      have HRUN := hide hrun
      have HC2 := hide hc2
      have HQ2 := hide hq2
      clear hrun hs2 hc2 hq2 ht2 f0 c0 c1 c2 c3 c4 p0 p1 p2 p3 p4
      rcases hfn with rfl | rfl | rfl
      all_goals
        go_wp2_with fail
        refine HRUN.out.mono ?_
        rintro e w3 ⟨⟨u3, rfl⟩, kn3, S3, hR3, ⟨tv3, vals3, hs3, hc3, hq3⟩⟩
        go_wp2_with fail
        obtain ⟨hi3, hm3⟩ := run_inv HR.out.so HI.out hR3
        go_roundg (measS st S3)
        case measure => rw [← HME.out]; exact hm3
        case rel =>
          have hnb2 : ∀ q, q = bf ∨ q = bf + 1 → ¬ badB sb mb (.slice ta vals.length tc) q := fun q hq e => by
            rcases e with e | e | e
            · omega
            · omega
            · have := HT.out q e
              omega
          have hnb3 : ∀ q, q = bf ∨ q = bf + 1 → ¬ badB sb mb tv2 q := fun q hq e => by
            rcases e with e | e | e
            · omega
            · omega
            · rcases HQ2.out q e with e | e
              · have := HT.out q e
                omega
              · omega
          have hsz2 := HC2.out.size
          refine ⟨tv3, vals3, S3, kn3, hs3, hi3, rfl, ?_, ?_, fun q e => ?_, ?_, fun q e => ?_⟩
          · rw [hc3.block bf (by omega) (hnb3 _ (Or.inl rfl)), HC2.out.block bf (by omega) (hnb2 _ (Or.inl rfl))]; exact HF.out
          · rw [hc3.block (bf + 1) (by omega) (hnb3 _ (Or.inr rfl)), HC2.out.block (bf + 1) (by omega) (hnb2 _ (Or.inr rfl))]; exact HP.out
          · rcases hq3 q e with e | e
            · rcases HQ2.out q e with e | e
              · exact HT.out q e
              · omega
            · omega
          · exact (SOut.trans HO.out HQ.out (SOut.trans HC2.out HQ2.out ⟨tv3, vals3, hs3, hc3, hq3⟩)).ex.choose_spec.choose_spec.2.1
          · rcases hq3 q e with e | e
            · rcases HQ2.out q e with e | e
              · exact HQ.out q e
              · exact Or.inr (Nat.le_trans HO.out.size e)
            · exact Or.inr (Nat.le_trans HO.out.size (Nat.le_trans hsz2 e))
end Go.Proofs.YtmjjigdnoiphbaaDoor

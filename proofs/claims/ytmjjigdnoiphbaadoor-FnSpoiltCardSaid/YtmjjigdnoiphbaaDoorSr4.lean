/-
  impl: try.
-/
import Derived.Test.YtmjjigdnoiphbaaDoorSr3
import Derived.Deep.LoopGhost
import Derived.Deep.RegionHeld3
namespace Go.Proofs.YtmjjigdnoiphbaaDoor
open Go.RowKit Go.Deep Go.Maps
set_option linter.unusedVariables false

theorem Srch.put {st : St} {w0 : World} {sb mb : Nat} {r t n : Value} {w w' : World} {tv : Value} {vals : List Value} {S : List Task} {kn kn' : Kn} (h : Srch st w0 sb mb r t n w tv vals S kn) (hk : KnownAt st w' mb kn') (hg : w.grownBy w' (some mb)) : Srch st w0 sb mb r t n w' tv vals S kn' ∧ Chg (badB sb mb tv) w w' := by
  have hsame : ∀ q, q < w.heap.size → q ≠ mb → w'.heap[q]? = w.heap[q]? := fun q hq hne => hg.block q hq (fun e => hne (by cases e; rfl))
  have hsl : sb < w.heap.size := (Array.getElem?_eq_some_iff.1 h.var).1
  refine ⟨⟨(hsame sb hsl (fun e => h.ne e.symm)).trans h.var, ownsRow_keep h.row (fun q hq => hsame q (ownBlock_lt h.row hq).2 (h.apart q hq).2), TasksV.keep (fun q hq hn => ⟨hsame q hq (fun e => hn (Or.inr (Or.inl e))), hn⟩) h.tasks, hk, h.ne, h.apart, h.lo, h.old.grown hg h.old.size (fun q e => by cases e; exact h.lo.2)⟩, ⟨hg.os, hg.tape, hg.output, hg.size, fun q hq hn => hsame q hq (fun e => hn (Or.inr (Or.inl e)))⟩⟩
theorem Srch.len {st : St} {w0 : World} {sb mb : Nat} {r t n : Value} {w : World} {tv : Value} {vals : List Value} {S : List Task} {kn : Kn} (h : Srch st w0 sb mb r t n w tv vals S kn) : vals.length = S.length := by
  have := TasksV.len h.tasks
  simpa using this

set_option maxRecDepth 8000 in
set_option maxHeartbeats 16000000 in
theorem try_any {st : St} {w0 : World} {sb mb : Nat} {a1 a2 a3 : Option Addr} {q1 q2 q3 : Nat} {w : World} {tv : Value} {vals : List Value} {S : List Task} {kn : Kn} (h : Srch st w0 sb mb (.slice a1 st.1.length q1) (.slice a2 st.2.1.length q2) (.slice a3 st.2.2.length q3) w tv vals S kn)
    (hst : StateAt w0 (.agg #[.slice a1 st.1.length q1, .slice a2 st.2.1.length q2, .slice a3 st.2.2.length q3]) st) (hcap : CapSt w0 (.agg #[.slice a1 st.1.length q1, .slice a2 st.2.1.length q2, .slice a3 st.2.2.length q3]) st.2.1.length) (hr : RightSt st) {d : Pr} (hd : PV st d) (m : Nat) (hm : m ≤ st.2.1.length) (hl : vals.length ≤ 500) :
    Calls Tryd.prog 102 #[.pointer (some ⟨sb, 0, none⟩), pv d, .int .i64 m] w fun e w' => (∃ u, e = .returned u) ∧ ∃ kn' S', TryR st d m kn S kn' S' ∧ SOut st w0 sb mb (.slice a1 st.1.length q1) (.slice a2 st.2.1.length q2) (.slice a3 st.2.2.length q3) w tv S' kn' w' := by
  have HST := hide hst
  have HCAP := hide hcap
  have HR := hide hr
  have HD := hide hd
  have HH := hide h
  have hsl : sb < w.heap.size := (Array.getElem?_eq_some_iff.1 h.var).1
  have hml : mb < w.heap.size := h.known.lt
  obtain ⟨l1, l2, l3, l4⟩ := hr.lens
  clear h hst hcap hr hd l4
  unfold pv pc5
  go_enter Tryd.func102, Tryd.ntmps102
  go_wp2_with fail
  obtain ⟨V, hV⟩ : ∃ V, V = ((w.alloc (.cells #[.pointer (some ⟨sb, 0, none⟩)] 55)).alloc (.cells #[.int .i8 (d 0), .int .i8 (d 1), .int .i8 (d 2), .int .i8 (d 3), .int .i8 (d 4)] 61)).alloc (.cells #[.int .i64 (m : Int)] 3) := ⟨_, rfl⟩
  obtain ⟨bf, hbf⟩ : ∃ bf, bf = w.heap.size := ⟨_, rfl⟩
  rw [← hV, ← hbf]
  have hbV : Below w.heap.size w V := by rw [hV]; exact Joins.below_alloc3 _ _ _ _
  have vF : V.heap[bf]? = some (.cells #[.pointer (some ⟨sb, 0, none⟩)] 55 (0, 0)) := by rw [hV, hbf]; exact blockLater (Joins.below_alloc2 _ _ _) (heap_alloc_new _ _)
  have vP : V.heap[bf + 1]? = some (.cells #[.int .i8 (d 0), .int .i8 (d 1), .int .i8 (d 2), .int .i8 (d 3), .int .i8 (d 4)] 61 (0, 0)) := by rw [hV, hbf]; exact blockLater (Joins.below_alloc1 _ _) (heap_alloc2_new _ _ _)
  have vM : V.heap[bf + 1 + 1]? = some (.cells #[.int .i64 (m : Int)] 3 (0, 0)) := by
    rw [hV, hbf]
    have := heap_alloc_new ((w.alloc (.cells #[.pointer (some ⟨sb, 0, none⟩)] 55)).alloc (.cells #[.int .i8 (d 0), .int .i8 (d 1), .int .i8 (d 2), .int .i8 (d 3), .int .i8 (d 4)] 61)) (.cells #[.int .i64 (m : Int)] 3)
    simpa using this
  have HSV := hide (HH.out.below hbV)
  have HVF := hide vF
  have HVP := hide vP
  have HVM := hide vM
  have HBV := hide hbV
  have HBF := hide hbf
  have hs1 : sb < bf := by omega
  have hm1 : mb < bf := by omega
  clear hV hbf hbV vF vP vM
  go_loopg [7] (st.2.1.length - m) (fun gk _ wr => ∃ m', m ≤ m' ∧ m' + gk = st.2.1.length ∧ (∀ j, m ≤ j → j < m' → canP st d j = false) ∧ wr.heap[bf]? = some (.cells #[.pointer (some ⟨sb, 0, none⟩)] 55 (0, 0)) ∧ wr.heap[bf + 1]? = some (.cells #[.int .i8 (d 0), .int .i8 (d 1), .int .i8 (d 2), .int .i8 (d 3), .int .i8 (d 4)] 61 (0, 0)) ∧ wr.heap[bf + 1 + 1]? = some (.cells #[.int .i64 (m' : Int)] 3 (0, 0)) ∧ Below bf w wr)
  case atStart => exact ⟨m, Nat.le_refl _, by omega, fun j h1 h2 => by omega, HVF.out, HVP.out, HVM.out, by rw [HBF.out]; exact HBV.out⟩
  case round =>
    obtain ⟨m', h1, h2, h3, hF, hP, hM, hb⟩ := hrel
    have hb' : Below w.heap.size w wr := by rw [← HBF.out]; exact hb
    have hsr := HH.out.below hb'
    have f0 : wr.cell? ⟨bf, 0, none⟩ = some (.pointer (some ⟨sb, 0, none⟩)) := by rw [cell_of_row wr bf 0 _ _ (0, 0) hF]; rfl
    have m0 : wr.cell? ⟨bf + 1 + 1, 0, none⟩ = some (.int .i64 (m' : Int)) := by rw [cell_of_row wr (bf + 1 + 1) 0 _ _ (0, 0) hM]; rfl
    have mf : wr.frozen? ⟨bf + 1 + 1, 0, none⟩ = false := frozen_of_row wr _ 0 _ _ hM
    obtain ⟨p0, p1, p2, p3, p4⟩ := cells5 hP
    obtain ⟨c0, c1, c2, c3, c4⟩ := cellsS hsr.var
    have hm3 : bf + 1 + 1 < wr.heap.size := (Array.getElem?_eq_some_iff.1 hM).1
    have H3 := hide h3
    have HF := hide hF
    have HP := hide hP
    have HM := hide hM
    have HB := hide hb
    have HSR := hide hsr
    have HSTR := hide (HST.out.below (HSR.out.old))
    have HCPR := hide (CapSt.below HCAP.out HST.out HSR.out.old)
    clear h3 hF hP hM hb hb' hsr
    by_cases hlt : m' < st.2.1.length
    · have hlI : (m' : Int) < (st.2.1.length : Int) := by omega
      have hlb : decide ((m' : Int) < (st.2.1.length : Int)) = true := by simp; omega
      cases hcan : canP st d m'
      all_goals
        have HCAN := hide hcan
        clear hcan
        go_wp2_with fail
        go_region_held3 (fun w' => w'.cell? ⟨bf, 0, none⟩ = some (.pointer (some ⟨sb, 0, none⟩)) ∧ w'.cell? ⟨bf + 1 + 1, 0, none⟩ = some (.int .i64 (m' : Int)) ∧ w'.cell? ⟨bf + 1, 0, none⟩ = some (.int .i8 (d 0)) ∧ w'.cell? ⟨bf + 1, 1, none⟩ = some (.int .i8 (d 1)) ∧ w'.cell? ⟨bf + 1, 2, none⟩ = some (.int .i8 (d 2)) ∧ w'.cell? ⟨bf + 1, 3, none⟩ = some (.int .i8 (d 3)) ∧ w'.cell? ⟨bf + 1, 4, none⟩ = some (.int .i8 (d 4)) ∧ w'.cell? ⟨sb, 0, none⟩ = some (.slice a1 st.1.length q1) ∧ w'.cell? ⟨sb, 1, none⟩ = some (.slice a2 st.2.1.length q2) ∧ w'.cell? ⟨sb, 2, none⟩ = some (.slice a3 st.2.2.length q3))
          (first | (exact ⟨cell_later hb2 (by exact f0), cell_later hb2 (by exact m0), cell_later hb2 (by exact p0), cell_later hb2 (by exact p1), cell_later hb2 (by exact p2), cell_later hb2 (by exact p3), cell_later hb2 (by exact p4), cell_later hb2 (by exact c0), cell_later hb2 (by exact c1), cell_later hb2 (by exact c2)⟩) | go_keep)
          (first | (go_at_call 53; refine (canMove_any _ st d m' _ (StateAt.below HSTR.out (Joins.below_draws _ _ 1)) (CapSt.below HCPR.out HSTR.out (Joins.below_draws _ _ 1)) HR.out HD.out.ok hlt).mono ?_; rw [HCAN.out]; rintro e w2 ⟨rfl, hb2⟩))
      · have hb2' : Below wr.heap.size wr w2 := below_tail (Joins.below_draws _ _ 1) hb2
        have HM2 := hide (blockLater hb2' HM.out)
        have HP2 := hide (blockLater hb2' HP.out)
        have HF2 := hide (blockLater hb2' HF.out)
        have HB2 : Hid (Below bf w w2) := HB.out.trans (hb2'.mono (by omega))
        have mm : w2.cell? ⟨bf + 1 + 1, 0, none⟩ = some (.int .i64 (m' : Int)) := by rw [cell_of_row w2 (bf + 1 + 1) 0 _ _ (0, 0) HM2.out]; rfl
        have mmf : w2.frozen? ⟨bf + 1 + 1, 0, none⟩ = false := frozen_of_row w2 _ 0 _ _ HM2.out
        rename_i hh
        clear hh hb2 hb2' f0 m0 mf p0 p1 p2 p3 p4 c0 c1 c2 c3 c4
        go_wp2_with fail
        go_roundg (st.2.1.length - (m' + 1))
        case measure => omega
        case rel =>
          refine ⟨m' + 1, by omega, by omega, fun j g1 g2 => ?_, (Below.heap_setCell _ _ _ _ (by simp; omega)).trans HF2.out, (Below.heap_setCell _ _ _ _ (by simp)).trans HP2.out, ?_, HB2.out.setCell (p := ⟨bf + 1 + 1, 0, none⟩) (by simp; omega) _⟩
          · by_cases e : j = m'
            · subst e; exact HCAN.out
            · exact H3.out j g1 (by omega)
          · have := Joins.block_setCell (i := 0) HM2.out (.int .i64 ((m' : Int) + 1))
            simpa using this
      · have hb2' : Below wr.heap.size wr w2 := below_tail (Joins.below_draws _ _ 1) hb2
        have HM2 := hide (blockLater hb2' HM.out)
        have HP2 := hide (blockLater hb2' HP.out)
        have HF2 := hide (blockLater hb2' HF.out)
        have HB2 : Hid (Below bf w w2) := HB.out.trans (hb2'.mono (by omega))
        have HS2 := hide (HSR.out.below hb2')
        have mm : w2.cell? ⟨bf + 1 + 1, 0, none⟩ = some (.int .i64 (m' : Int)) := by rw [cell_of_row w2 (bf + 1 + 1) 0 _ _ (0, 0) HM2.out]; rfl
        have ff : w2.cell? ⟨bf, 0, none⟩ = some (.pointer (some ⟨sb, 0, none⟩)) := by rw [cell_of_row w2 bf 0 _ _ (0, 0) HF2.out]; rfl
        obtain ⟨e0, e1, e2, e3, e4⟩ := cells5 HP2.out
        obtain ⟨g0, g1, g2, g3, g4⟩ := cellsS HS2.out.var
        have hneb : ((m' : Int) == (st.2.1.length : Int)) = false := by rw [beq_eq_false_iff_ne]; omega
        rename_i hh
        clear hh hb2 hb2' f0 m0 mf p0 p1 p2 p3 p4 c0 c1 c2 c3 c4
        have hw2s : bf + 1 + 1 < w2.heap.size := (Array.getElem?_eq_some_iff.1 HM2.out).1
        have htvb : Hid (∀ q, tv.ownBlock = some q → q < bf) := fun q e => by rw [HBF.out]; exact (ownBlock_lt HH.out.row e).2
        have hvl : vals.length = S.length := HH.out.len
        go_wp2_with fail
        go_quiet (fail)
        go_wp2_with fail
        refine (pmoved_any d m' _ (by omega) (HD.out.lt HR.out.so m')).mono ?_
        rintro e w3 ⟨rfl, hb3⟩
        have hb23 : Below w2.heap.size w2 w3 := below_tail (Joins.below_draws _ _ nq) hb3
        have ff3 : w3.cell? ⟨bf, 0, none⟩ = some (.pointer (some ⟨sb, 0, none⟩)) := cell_later hb23 ff
        have hw3s : bf + 1 + 1 < w3.heap.size := Nat.lt_of_lt_of_le hw2s hb23.size
        have hbf3 : bf < w3.heap.size := by omega
        have HM3 := hide (blockLater hb23 HM2.out)
        have HP3 := hide (blockLater hb23 HP2.out)
        have HF3 := hide (blockLater hb23 HF2.out)
        have HS3 := hide (HS2.out.below hb23)
        have HB3 : Hid (Below bf w w3) := HB2.out.trans (hb23.mono (by omega))
        clear hb3 hb23 mm ff e0 e1 e2 e3 e4 g0 g1 g2 g3 g4
        have hmf : ∀ (fn : Fn) (first cap : Array Value) (w : World), (Instr.makeFunc fn first cap).run Tryd.prog w = .ok (.func fn first cap) w := fun _ _ _ _ => rfl
        unfold pv pc5
        generalize hde : bump d m' = de at *
        have HDE := hide hde
        clear hde
        go_wp2_with fail
        obtain ⟨V3, hV3⟩ : ∃ V3, V3 = w3.alloc (.cells #[.int .i8 (de 0), .int .i8 (de 1), .int .i8 (de 2), .int .i8 (de 3), .int .i8 (de 4)] 61) := ⟨_, rfl⟩
        rw [← hV3]
        have hbV3 : Below w3.heap.size w3 V3 := by rw [hV3]; exact Joins.below_alloc1 _ _
        have HN3 : Hid (V3.heap[w3.heap.size]? = some (.cells (pc5 de) 61 (0, 0))) := by rw [hV3]; exact heap_alloc_new _ _
        have HMV := hide (blockLater hbV3 HM3.out)
        have HPV := hide (blockLater hbV3 HP3.out)
        have HFV := hide (blockLater hbV3 HF3.out)
        have HSV3 := hide (HS3.out.below hbV3)
        have HBV3 : Hid (Below bf w V3) := HB3.out.trans (hbV3.mono (by omega))
        have hV3s : w3.heap.size < V3.heap.size := (Array.getElem?_eq_some_iff.1 HN3.out).1
        have hnb : Hid (∀ q, bf ≤ q → ¬ badB sb mb tv q) := fun q hq e => by
          rcases e with e | e | e
          · omega
          · omega
          · have := htvb.out q e
            omega
        clear hV3 hbV3
        refine (push_any HSV3.out (tk := (d, some m')) ⟨bf, w3.heap.size, bf + 1, bf + 1 + 1, rfl, HFV.out, by rw [HDE.out]; exact HN3.out, HPV.out, HMV.out, hnb.out _ (by omega), hnb.out _ (by omega), hnb.out _ (by omega), hnb.out _ (by omega)⟩ (by omega)).mono ?_
        rintro e w4 ⟨⟨u4, rfl⟩, ⟨tv4, vals4, hs4, hc4, hq4⟩⟩
        have HF4 : Hid (w4.heap[bf]? = some (.cells #[.pointer (some ⟨sb, 0, none⟩)] 55 (0, 0))) := (hc4.block bf (by omega) (hnb.out _ (by omega))).trans HFV.out
        have HN4 : Hid (w4.heap[w3.heap.size]? = some (.cells (pc5 de) 61 (0, 0))) := (hc4.block w3.heap.size hV3s (hnb.out _ (by omega))).trans HN3.out
        have ff4 : w4.cell? ⟨bf, 0, none⟩ = some (.pointer (some ⟨sb, 0, none⟩)) := by rw [cell_of_row w4 bf 0 _ _ (0, 0) HF4.out]; rfl
        have hnb4 : Hid (∀ q, bf ≤ q → q < V3.heap.size → ¬ badB sb mb tv4 q) := fun q hq hq2 e => by
          rcases e with e | e | e
          · omega
          · omega
          · rcases hq4 q e with e | e
            · have := htvb.out q e
              omega
            · omega
        have HS4 := hide hs4
        have HC4 := hide hc4
        have HQ4 := hide hq4
        have hvl4 : vals4.length = S.length + 1 := by rw [hs4.len]; rfl
        clear hs4 hc4 hq4
        go_wp2_with fail
        refine (push_any HS4.out (tk := (bump d m', none)) ⟨_, bf, w3.heap.size, Or.inr rfl, rfl, HF4.out, by rw [HDE.out]; exact HN4.out, hnb4.out _ (by omega) (by omega), hnb4.out _ (by omega) (by omega)⟩ (by omega)).mono ?_
        rintro e w5 ⟨⟨u5, rfl⟩, ho5⟩
        go_wp2_with fail
        first | go_end0 | (refine bodyPost_ret (results_none rfl _ _ _) rfl ?_)
        exact ⟨⟨_, rfl⟩, kn, _, ⟨m', h1, by omega, H3.out, Or.inr ⟨hlt, HCAN.out, rfl, rfl⟩⟩, SOut.trans (Chg.of_below (by rw [← HBF.out]; exact HBV3.out)) (fun q e => Or.inl e) (SOut.trans HC4.out HQ4.out ho5)⟩
    · obtain rfl : m' = st.2.1.length := by omega
      have hlb : decide ((st.2.1.length : Int) < (st.2.1.length : Int)) = false := by simp
      have heq : ((st.2.1.length : Int) == (st.2.1.length : Int)) = true := by simp
      go_wp2_with fail
      go_quiet (fail)
      go_wp2_with fail
      have hbQ := Joins.below_draws wr.heap.size wr nq
      have hsr1 := HSR.out.below hbQ
      have hP1 := blockLater hbQ HP.out
      have hF1 := blockLater hbQ HF.out
      have hM1 := blockLater hbQ HM.out
      have HB1 : Hid (Below bf w (wr.drewN nq)) := HB.out.trans (hbQ.mono (by omega))
      clear f0 m0 mf p0 p1 p2 p3 p4 c0 c1 c2 c3 c4 hbQ
      generalize wr.drewN nq = W1 at *
      have f0 : W1.cell? ⟨bf, 0, none⟩ = some (.pointer (some ⟨sb, 0, none⟩)) := by rw [cell_of_row W1 bf 0 _ _ (0, 0) hF1]; rfl
      have m0 : W1.cell? ⟨bf + 1 + 1, 0, none⟩ = some (.int .i64 (st.2.1.length : Int)) := by rw [cell_of_row W1 (bf + 1 + 1) 0 _ _ (0, 0) hM1]; rfl
      obtain ⟨p0, p1, p2, p3, p4⟩ := cells5 hP1
      obtain ⟨c0, c1, c2, c3, c4⟩ := cellsS hsr1.var
      have HS1 := hide hsr1
      have HP1 := hide hP1
      have HF1 := hide hF1
      have hW1s : bf + 1 + 1 < W1.heap.size := (Array.getElem?_eq_some_iff.1 hM1).1
      clear hsr1 hP1 hF1 hM1
      go_quiet (fail)
      go_wp2_with fail
      have hbQ := Joins.below_draws W1.heap.size W1 nq
      have hsr2 := HS1.out.below hbQ
      have hP2 := blockLater hbQ HP1.out
      have hF2 := blockLater hbQ HF1.out
      have HB2 : Hid (Below bf w (W1.drewN nq)) := HB1.out.trans (hbQ.mono (by omega))
      clear f0 m0 p0 p1 p2 p3 p4 c0 c1 c2 c3 c4 hbQ
      generalize W1.drewN nq = W2 at *
      have f0 : W2.cell? ⟨bf, 0, none⟩ = some (.pointer (some ⟨sb, 0, none⟩)) := by rw [cell_of_row W2 bf 0 _ _ (0, 0) hF2]; rfl
      obtain ⟨p0, p1, p2, p3, p4⟩ := cells5 hP2
      obtain ⟨c0, c1, c2, c3, c4⟩ := cellsS hsr2.var
      have hsd : Srch st w0 sb mb (.slice a1 st.1.length q1) (.slice a2 st.2.1.length q2) (.slice a3 st.2.2.length q3) W2.drew tv vals S kn := hsr2.below (Joins.below_draws _ _ 1)
      obtain ⟨w5, hput, hkn5, hg5⟩ := hsd.known.put HR.out.so HD.out (x := 1) (Or.inl rfl)
      have hput' : (Instr.mapUpdate 111 (.map (some mb)) (.agg #[.int .i8 (d 0), .int .i8 (d 1), .int .i8 (d 2), .int .i8 (d 3), .int .i8 (d 4)]) (.int .i64 1)).run Tryd.prog W2.drew = .ok () w5 := hput
      obtain ⟨hs5, hc5⟩ := hsd.put hkn5 hg5
      have HS5 := hide hs5
      have HC5 := hide hc5
      clear hput hkn5 hg5 hsd hsr2 hP2 hF2 hs5 hc5
      go_region
      go_wp2_with fail
      first | go_end0 | (refine bodyPost_ret (results_none rfl _ _ _) rfl ?_)
      refine ⟨⟨_, rfl⟩, _, S, ⟨st.2.1.length, h1, Nat.le_refl _, H3.out, Or.inl ⟨rfl, rfl, rfl⟩⟩, SOut.trans (w' := W2.drew) (tv' := tv) ?_ (fun q e => Or.inl e) ⟨tv, vals, HS5.out, HC5.out, fun q e => Or.inl e⟩⟩
      refine Chg.of_below ?_
      rw [← HBF.out]
      exact HB2.out.drew
end Go.Proofs.YtmjjigdnoiphbaaDoor

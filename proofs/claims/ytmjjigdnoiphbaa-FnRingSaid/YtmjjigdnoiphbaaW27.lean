/-
  spec.Step.
-/
import Derived.Test.YtmjjigdnoiphbaaW26
namespace Go.Proofs.Ytmjjigdnoiphbaa
open Go.RowKit Go.Deep
set_option linter.unusedVariables false

theorem RightSt.small {st : St} (h : RightSt st) : SmallSt st := by
  obtain ⟨l1, l2, l3, l4⟩ := h.lens
  exact ⟨by omega, by omega, by omega, fun i hi => by have := (h.train i hi).2.2.1; omega⟩

theorem l1step_any (v : Value) (st : St) (m : Nat) (w : World) (h : StateAt w v st) (hs : SmallSt st) (hm : m < st.2.1.length) (hn : st.2.2.length = st.2.1.length) :
    Calls Try.prog 51 #[v, .int .i64 m] w fun e w' => ∃ r, e = .returned r ∧ (∀ w'', Chg (fun q => q < w.heap.size) w' w'' → StateAt w'' r (stepSt st m)) ∧ Below w.heap.size w w' := by
  by_cases e : (tPath st.2.1 m).length = 0
  · exact l1step_out v st m w h hs hm hn e
  · exact l1step_go v st m w h hs hm hn e

theorem nilAt (w : World) : StateAt w (.agg #[.slice none 0 0, .slice none 0 0, .slice none 0 0]) ([], [], []) := (nilL_own w).at

set_option maxHeartbeats 1000000 in
theorem specStep_any (v : Value) (st : St) (x : Int) (w : World) (h : StateAt w v st) :
    Calls Try.prog 17 #[v, .int .i64 x] w fun e w' => ∃ r, e = .returned r ∧ StateAt w' r (stepF st x) ∧ Below w.heap.size w w' := by
  have HS := hide h
  obtain ⟨a1, q1, a2, q2, a3, q3, rfl⟩ := h.form
  clear h
  go_enter Try.func17, Try.ntmps17
  go_wp2_with fail
  refine (specStateOk_any _ st _ (HS.out.below (Joins.below_alloc2 _ _ _))).mono ?_
  rintro e w1 ⟨rfl, hb1⟩
  have c0 : w1.cell? ⟨w.heap.size, 0, none⟩ = some (.slice a1 st.1.length q1) := cell_later hb1 (by simp)
  have c1 : w1.cell? ⟨w.heap.size, 1, none⟩ = some (.slice a2 st.2.1.length q2) := cell_later hb1 (by simp)
  have c2 : w1.cell? ⟨w.heap.size, 2, none⟩ = some (.slice a3 st.2.2.length q3) := cell_later hb1 (by simp)
  have hd : w1.heap[w.heap.size + 1]? = some (.cells #[.slice none 0 0, .slice none 0 0, .slice none 0 0] 26 (0, 0)) := (hb1.block (w.heap.size + 1) (by simp)).trans (heap_alloc2_new _ _ _)
  have HB1 := hide (below_tail (Joins.below_alloc2 w (.cells #[.slice a1 st.1.length q1, .slice a2 st.2.1.length q2, .slice a3 st.2.2.length q3] 26) (.cells #[.slice none 0 0, .slice none 0 0, .slice none 0 0] 26)) hb1)
  have HD1 := hide hd
  obtain ⟨v0, v1, v2, vf⟩ := block3 hd
  have vf0 := vf 0
  have vf1 := vf 1
  have vf2 := vf 2
  clear hb1 hd vf
  by_cases hok : stOk st = 0
  · have HR := hide (right_of_ok hok)
    have hokb : (stOk st != 0) = false := by simp [hok]
    obtain ⟨l1, l2, l3, l4⟩ := HR.out.lens
    have HL4 := hide l4
    have hn5 : Hid (st.2.2.length ≤ 4611686018427387904) := show _ ≤ _ by omega
    clear l4
    have HF : Hid (stepF st x = bif (decide (nameIx st.2.2 x < st.2.2.length) && canB st (nameIx st.2.2 x)) then stepSt st (nameIx st.2.2 x) else ([], [], [])) := by simp [stepF, hok, Hid]
    clear hok
    generalize stOk st = code at *
    go_wp2_with fail
    refine (l1name_any _ st x _ (HS.out.below HB1.out) hn5.out).mono ?_
    rintro e w2 ⟨rfl, hb2⟩
    have d0 := cell_later hb2 c0
    have d1 := cell_later hb2 c1
    have d2 := cell_later hb2 c2
    have HD2 := hide ((hb2.block _ (Array.getElem?_eq_some_iff.1 HD1.out).1).trans HD1.out)
    have HB2 := hide (below_tail HB1.out hb2)
    obtain ⟨u0, u1, u2, uf⟩ := block3 HD2.out
    have uf0 := uf 0
    have uf1 := uf 1
    have uf2 := uf 2
    clear hb2 c0 c1 c2 v0 v1 v2 vf0 vf1 vf2 uf
    by_cases hix : nameIx st.2.2 x < st.2.2.length
    · have hres : nameRes st.2.2 x = (nameIx st.2.2 x : Int) := if_pos hix
      rw [hres]
      clear hres
      generalize nameIx st.2.2 x = k at *
      have hkt : k < st.2.1.length := by have := HL4.out; omega
      have hkd : decide ((k : Int) < 0) = false := by simp
      cases hcan : canB st k with
      | false =>
        have HF2 := hide (show stepF st x = ([], [], []) by rw [HF.out]; simp [hcan])
        have HCAN := hide hcan
        clear hcan
        go_wp2_with fail
        refine (l1can_any _ st k _ (HS.out.below HB2.out) HR.out hkt).mono ?_
        rintro e w3 ⟨rfl, hb3⟩
        rw [HCAN.out]
        obtain ⟨v0, v1, v2, vf⟩ := block3 ((hb3.block _ (Array.getElem?_eq_some_iff.1 HD2.out).1).trans HD2.out)
        have vf0 := vf 0
        have vf1 := vf 1
        have vf2 := vf 2
        have HB3 := hide (below_tail HB2.out hb3)
        clear hb3 vf u0 u1 u2 uf0 uf1 uf2
        go_wp2_with fail
        refine bodyPost_ret (v := .agg #[.slice none 0 0, .slice none 0 0, .slice none 0 0]) (by simp [results, Try.results17, go_sem, v0, v1, v2]) rfl ⟨_, rfl, by rw [HF2.out]; exact nilAt _, ?_⟩
        exact ((HB3.out.setCell (by simp) _).setCell (by simp) _).setCell (by simp) _
      | true =>
        have HF2 := hide (show stepF st x = stepSt st k by rw [HF.out]; simp [hcan, hix])
        have HCAN := hide hcan
        clear hcan
        go_wp2_with fail
        refine (l1can_any _ st k _ (HS.out.below HB2.out) HR.out hkt).mono ?_
        rintro e w3 ⟨rfl, hb3⟩
        rw [HCAN.out]
        replace d0 := cell_later hb3 d0
        replace d1 := cell_later hb3 d1
        replace d2 := cell_later hb3 d2
        have HB3 := hide (below_tail HB2.out hb3)
        have HD3 := hide ((hb3.block _ (Array.getElem?_eq_some_iff.1 HD2.out).1).trans HD2.out)
        clear hb3 u0 u1 u2 uf0 uf1 uf2
        go_wp2_with fail
        refine (l1step_any _ st k _ (HS.out.below HB3.out) HR.out.small hkt HL4.out).mono ?_
        rintro e w4 ⟨r, rfl, hr, hb4⟩
        obtain ⟨p1, o1, p2, o2, p3, o3, rfl⟩ := (hr _ (Chg.refl _ _)).form
        obtain ⟨v0, v1, v2, vf⟩ := block3 ((hb4.block _ (Array.getElem?_eq_some_iff.1 HD3.out).1).trans HD3.out)
        have vf0 := vf 0
        have vf1 := vf 1
        have vf2 := vf 2
        have hz3 := (Array.getElem?_eq_some_iff.1 HD3.out).1
        have HB4 := hide (below_tail HB3.out hb4)
        have HR4 := hide hr
        have HH4 := hide hb4
        have HZ3 := hide hz3
        clear hb4 hr vf hz3
        go_wp2_with fail
        have hc4 : Chg (fun q => q = w.heap.size + 1) w4 (((w4.setCell ⟨w.heap.size + 1, 0, none⟩ (.slice p1 (stepSt st k).1.length o1)).setCell ⟨w.heap.size + 1, 1, none⟩ (.slice p2 (stepSt st k).2.1.length o2)).setCell ⟨w.heap.size + 1, 2, none⟩ (.slice p3 (stepSt st k).2.2.length o3)) :=
          Chg.setCell (F := fun q => q = w.heap.size + 1) (Chg.setCell (F := fun q => q = w.heap.size + 1) (Chg.setCell (F := fun q => q = w.heap.size + 1) (Chg.refl _ _) rfl _) rfl _) rfl _
        have hh4 := (HH4.out.block _ (Array.getElem?_eq_some_iff.1 HD3.out).1).trans HD3.out
        have hvar := block3_set2 (block3_set1 (block3_set0 hh4 (.slice p1 (stepSt st k).1.length o1)) (.slice p2 (stepSt st k).2.1.length o2)) (.slice p3 (stepSt st k).2.2.length o3)
        obtain ⟨r0, r1, r2, _⟩ := block3 hvar
        refine bodyPost_ret (v := .agg #[.slice p1 (stepSt st k).1.length o1, .slice p2 (stepSt st k).2.1.length o2, .slice p3 (stepSt st k).2.2.length o3]) (by simp [results, Try.results17, go_sem, r0, r1, r2]) rfl ⟨_, rfl, by rw [HF2.out]; exact HR4.out _ (hc4.mono (fun q e => by have := HZ3.out; omega)), ?_⟩
        exact ((HB4.out.setCell (by simp) _).setCell (by simp) _).setCell (by simp) _
    · have hres : nameRes st.2.2 x = -1 := if_neg hix
      rw [hres]
      have HF2 := hide (show stepF st x = ([], [], []) by rw [HF.out]; simp [hix])
      clear hres hix
      go_wp2_with fail
      refine bodyPost_ret (v := .agg #[.slice none 0 0, .slice none 0 0, .slice none 0 0]) (by simp [results, Try.results17, go_sem, u0, u1, u2]) rfl ⟨_, rfl, by rw [HF2.out]; exact nilAt _, ?_⟩
      exact ((HB2.out.setCell (by simp) _).setCell (by simp) _).setCell (by simp) _
  · have hokb : (stOk st != 0) = true := by simp [hok]
    have HF2 := hide (show stepF st x = ([], [], []) by simp [stepF, hok])
    clear hok
    generalize stOk st = code at *
    go_wp2_with fail
    refine bodyPost_ret (v := .agg #[.slice none 0 0, .slice none 0 0, .slice none 0 0]) (by simp [results, Try.results17, go_sem, v0, v1, v2]) rfl ⟨_, rfl, by rw [HF2.out]; exact nilAt _, ?_⟩
    exact ((HB1.out.setCell (by simp) _).setCell (by simp) _).setCell (by simp) _
end Go.Proofs.Ytmjjigdnoiphbaa

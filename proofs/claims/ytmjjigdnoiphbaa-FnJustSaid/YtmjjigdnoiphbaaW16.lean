/-
  laws.FnExactFree: the walk.
-/
import Derived.Test.YtmjjigdnoiphbaaW15
namespace Go.Proofs.Ytmjjigdnoiphbaa
open Go.RowKit Go.Deep
set_option linter.unusedVariables false

set_option maxHeartbeats 4000000 in
theorem fnExactFree_walk (v : Value) (st : St) (x : Int) (w : World) (h : ArgSt w v st) :
    Calls Try.prog 9 #[v, .int .i64 x] w fun e w' => e = .returned (.bool true) ∧ Below w.heap.size w w' := by
  have HA := hide h
  obtain ⟨a1, q1, a2, q2, a3, q3, rfl⟩ := h.at_.form
  clear h
  go_enter Try.func9, Try.ntmps9
  go_wp2_with fail
  obtain ⟨U, hU⟩ : ∃ U, U = w.alloc (.cells #[.slice a1 st.1.length q1, .slice a2 st.2.1.length q2, .slice a3 st.2.2.length q3] 45) := ⟨_, rfl⟩
  rw [← hU]
  have c0 : U.cell? ⟨w.heap.size, 0, none⟩ = some (.slice a1 st.1.length q1) := by rw [hU]; simp
  have c1 : U.cell? ⟨w.heap.size, 1, none⟩ = some (.slice a2 st.2.1.length q2) := by rw [hU]; simp
  have c2 : U.cell? ⟨w.heap.size, 2, none⟩ = some (.slice a3 st.2.2.length q3) := by rw [hU]; simp
  have hbU : Below w.heap.size w U := by rw [hU]; exact Joins.below_alloc1 _ _
  clear hU
  refine (szState_arg _ st _ (HA.out.at_.below hbU) HA.out).mono ?_
  rintro e w1 ⟨r, rfl, hr, hb1⟩
  have d0 := cell_later hb1 c0
  have d1 := cell_later hb1 c1
  have d2 := cell_later hb1 c2
  have HB1 := hide (below_tail hbU hb1)
  clear hb1 hbU c0 c1 c2
  by_cases hneg : r < 0
  · go_wp2_with fail
    go_ret
    exact ⟨rfl, HB1.out⟩
  · rcases hr with hr | ⟨hr0, hsm⟩
    · exact absurd hr hneg
    have HSM := hide hsm
    clear hsm
    go_wp2_with fail
    refine (toState_small _ st _ (HA.out.at_.below HB1.out) HSM.out).mono ?_
    rintro e w2 ⟨rfl, hm2, hz2, hb2⟩
    have e0 := cell_later hb2 d0
    have e1 := cell_later hb2 d1
    have e2 := cell_later hb2 d2
    have HB2 := hide (below_tail HB1.out hb2)
    clear hz2 hb2 d0 d1 d2
    have HM2 := hide hm2
    clear hm2
    go_wp2_with fail
    refine (specFree_any _ st x _ HM2.out.at).mono ?_
    rintro e w3 ⟨rfl, hb3⟩
    replace e0 := cell_later hb3 e0
    replace e1 := cell_later hb3 e1
    replace e2 := cell_later hb3 e2
    have HB3 := hide (below_tail HB2.out hb3)
    clear hb3 HM2
    go_wp2_with fail
    refine (toState_small _ st _ (HA.out.at_.below HB3.out) HSM.out).mono ?_
    rintro e w4 ⟨rfl, hm4, hz4, hb4⟩
    replace e0 := cell_later hb4 e0
    replace e1 := cell_later hb4 e1
    replace e2 := cell_later hb4 e2
    have HB4 := hide (below_tail HB3.out hb4)
    have HM4 := hide hm4
    have hne : w.heap.size < w4.heap.size := World.block_lt_of_cell? _ _ e0
    clear hb4 hm4 hz4
    generalize w3.heap.size = s4 at *
    unfold stVal
    go_wp2_with fail
    obtain ⟨V, hV⟩ : ∃ V, V = w4.alloc (.cells #[.slice (some ⟨s4 + 3, 0, none⟩) st.1.length st.1.length, .slice (some ⟨s4 + 4, 0, none⟩) st.2.1.length st.2.1.length, .slice (some ⟨s4 + 5 + 4 * st.2.1.length, 0, none⟩) st.2.2.length st.2.2.length] 26) := ⟨_, rfl⟩
    rw [← hV]
    have x0 : V.cell? ⟨w4.heap.size, 0, none⟩ = some (.slice (some ⟨s4 + 3, 0, none⟩) st.1.length st.1.length) := by rw [hV]; simp
    have x1 : V.cell? ⟨w4.heap.size, 1, none⟩ = some (.slice (some ⟨s4 + 4, 0, none⟩) st.2.1.length st.2.1.length) := by rw [hV]; simp
    have x2 : V.cell? ⟨w4.heap.size, 2, none⟩ = some (.slice (some ⟨s4 + 5 + 4 * st.2.1.length, 0, none⟩) st.2.2.length st.2.2.length) := by rw [hV]; simp
    have hbV : Below w4.heap.size w4 V := by rw [hV]; exact Joins.below_alloc1 _ _
    clear hV
    replace e0 := cell_later hbV e0
    replace e1 := cell_later hbV e1
    replace e2 := cell_later hbV e2
    have HBV := hide (below_tail HB4.out hbV)
    have HMV := hide (HM4.out.below hbV)
    clear hbV HM4 HB4 hne
    refine (implFree_any _ st x _ HMV.out.at (fun i hi => by have := HSM.out.pl i hi; omega)).mono ?_
    rintro e w5 ⟨rfl, hb5⟩
    have hcmp : (freeF st x != freeF st x) = false := by simp
    generalize freeF st x = code at *
    replace e0 := cell_later hb5 e0
    replace e1 := cell_later hb5 e1
    replace e2 := cell_later hb5 e2
    replace x0 := cell_later hb5 x0
    replace x1 := cell_later hb5 x1
    replace x2 := cell_later hb5 x2
    have HB5 := hide (below_tail HBV.out hb5)
    have HM5 := hide (HMV.out.below hb5)
    clear hb5 HMV HBV
    go_wp2_with fail
    go_region_held3 (fun w' => w'.cell? ⟨w.heap.size, 0, none⟩ = some (.slice a1 st.1.length q1) ∧ w'.cell? ⟨w.heap.size, 1, none⟩ = some (.slice a2 st.2.1.length q2) ∧ w'.cell? ⟨w.heap.size, 2, none⟩ = some (.slice a3 st.2.2.length q3) ∧ w'.cell? ⟨w4.heap.size, 0, none⟩ = some (.slice (some ⟨s4 + 3, 0, none⟩) st.1.length st.1.length) ∧ w'.cell? ⟨w4.heap.size, 1, none⟩ = some (.slice (some ⟨s4 + 4, 0, none⟩) st.2.1.length st.2.1.length) ∧ w'.cell? ⟨w4.heap.size, 2, none⟩ = some (.slice (some ⟨s4 + 5 + 4 * st.2.1.length, 0, none⟩) st.2.2.length st.2.2.length))
      (first | (exact ⟨cell_later hb7 (cell_later hb6 (by exact e0)), cell_later hb7 (cell_later hb6 (by exact e1)), cell_later hb7 (cell_later hb6 (by exact e2)), cell_later hb7 (cell_later hb6 (by exact x0)), cell_later hb7 (cell_later hb6 (by exact x1)), cell_later hb7 (cell_later hb6 (by exact x2))⟩) | (exact ⟨cell_later hb6 (by exact e0), cell_later hb6 (by exact e1), cell_later hb6 (by exact e2), cell_later hb6 (by exact x0), cell_later hb6 (by exact x1), cell_later hb6 (by exact x2)⟩) | go_keep)
      (first | (go_at_call 34; refine (toState_small _ st _ ?_ HSM.out).mono ?_; exact (HA.out.at_.below HB5.out.drew); rintro e w6 ⟨rfl, hm6, hz6, hb6⟩) | (go_at_call 36; refine (eqState_small _ _ st _ ?_ ?_ HSM.out).mono ?_; exact (HM5.out.below (below_tail (Joins.below_draws _ _ 1) hb6)).at; exact hm6.at; rintro e w7 ⟨rfl, hb7⟩))
    all_goals
      have HB7 := hide (below_tail (below_tail HB5.out.drew hb6) hb7)
      clear hb6 hb7 hm6 hz6
      go_wp2_with fail
      go_ret
      exact ⟨rfl, HB7.out⟩
end Go.Proofs.Ytmjjigdnoiphbaa

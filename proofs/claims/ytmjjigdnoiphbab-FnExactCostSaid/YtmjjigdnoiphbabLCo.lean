/-
  Law Cost.
-/
import Derived.Test.YtmjjigdnoiphbabW20
import Derived.Test.YtmjjigdnoiphbabCo1
import Derived.Test.YtmjjigdnoiphbabCo2
namespace Go.Proofs.Ytmjjigdnoiphbab
open Go.RowKit Go.Deep
set_option linter.unusedVariables false

theorem ints_row {w : World} {b : Nat} {xs : List Int} (h : w.rowIs b 3 xs.length (fun i => .int .i64 (el xs i))) : IntsAt w (.slice (some ⟨b, 0, none⟩) xs.length xs.length) xs := intsAt_row h

set_option maxHeartbeats 4000000 in
theorem fnExactCost_walk (v mv : Value) (st : St) (ms : List Int) (w : World) (h : ArgSt w v st) (hm : IntsAt w mv ms) (hml : ms.length ≤ 9223372036854775807) :
    Calls Try.prog 9 #[v, mv] w fun e w' => e = .returned (.bool true) ∧ Below w.heap.size w w' := by
  have HA := hide h
  have HM := hide hm
  obtain ⟨a1, q1, a2, q2, a3, q3, rfl⟩ := h.at_.form
  obtain ⟨am, qm, rfl, -⟩ := hm
  clear h
  go_enter Try.func9, Try.ntmps9
  by_cases hbig : (ms.length : Int) > 1048576
  · go_wp2_with fail
    go_ret
    exact ⟨rfl, Joins.below_alloc1 _ _⟩
  have hms : ms.length ≤ 1048576 := by omega
  go_wp2_with fail
  obtain ⟨U, hU⟩ : ∃ U, U = w.alloc (.cells #[.slice a1 st.1.length q1, .slice a2 st.2.1.length q2, .slice a3 st.2.2.length q3] 25) := ⟨_, rfl⟩
  rw [← hU]
  have c0 : U.cell? ⟨w.heap.size, 0, none⟩ = some (.slice a1 st.1.length q1) := by rw [hU]; simp
  have c1 : U.cell? ⟨w.heap.size, 1, none⟩ = some (.slice a2 st.2.1.length q2) := by rw [hU]; simp
  have c2 : U.cell? ⟨w.heap.size, 2, none⟩ = some (.slice a3 st.2.2.length q3) := by rw [hU]; simp
  have hbU : Below w.heap.size w U := by rw [hU]; exact Joins.below_alloc1 _ _
  clear hU
  refine (szState_arg _ st _ (HA.out.at_.below hbU) HA.out).mono ?_
  rintro e w1 ⟨r, rfl, hr, hb1⟩
  have d0 := cell_later hb1 c0
  have d1 := cell_later hb1 c1
  have d2 := cell_later hb1 c2
  have HB1 := hide (below_tail hbU hb1)
  clear hb1 hbU c0 c1 c2
  by_cases hneg : r < 0
  · go_wp2_with fail
    go_ret
    exact ⟨rfl, HB1.out⟩
  · rcases hr with hr | ⟨hr0, hsm⟩
    · exact absurd hr hneg
    have HSM := hide hsm
    clear hsm
    go_wp2_with fail
    refine (toState_small _ st _ (HA.out.at_.below HB1.out) HSM.out).mono ?_
    rintro e w2 ⟨rfl, hm2, hz2, hb2⟩
    have e0 := cell_later hb2 d0
    have e1 := cell_later hb2 d1
    have e2 := cell_later hb2 d2
    have HB2 := hide (below_tail HB1.out hb2)
    clear hz2 hb2 d0 d1 d2
    have HM2 := hide hm2
    clear hm2
    generalize w1.heap.size = s2 at *
    unfold stVal
    go_wp2_with fail
    refine (toIntS_any _ ms _ (HM.out.below HB2.out) hms).mono ?_
    rintro e w2b ⟨rfl, hm2b, hz2b, hb2b⟩
    replace e0 := cell_later hb2b e0
    replace e1 := cell_later hb2b e1
    replace e2 := cell_later hb2b e2
    have HB2b := hide (below_tail HB2.out hb2b)
    have HM2b := hide (HM2.out.below hb2b)
    have HI2b := hide (ints_row hm2b)
    clear hz2b hb2b hm2b HM2
    generalize w2.heap.size = s2b at *
    go_wp2_with fail
    refine (specCost_any _ _ st ms _ HM2b.out.at HI2b.out (by omega)).mono ?_
    rintro e w3 ⟨rfl, hb3⟩
    replace e0 := cell_later hb3 e0
    replace e1 := cell_later hb3 e1
    replace e2 := cell_later hb3 e2
    have HB3 := hide (below_tail HB2b.out hb3)
    clear hb3 HM2b HI2b
    go_wp2_with fail
    refine (toState_small _ st _ (HA.out.at_.below HB3.out) HSM.out).mono ?_
    rintro e w4 ⟨rfl, hm4, hz4, hb4⟩
    replace e0 := cell_later hb4 e0
    replace e1 := cell_later hb4 e1
    replace e2 := cell_later hb4 e2
    have HB4 := hide (below_tail HB3.out hb4)
    have HM4 := hide hm4
    have hne : w.heap.size < w4.heap.size := World.block_lt_of_cell? _ _ e0
    clear hb4 hm4 hz4
    generalize w3.heap.size = s4 at *
    unfold stVal
    go_wp2_with fail
    obtain ⟨V, hV⟩ : ∃ V, V = w4.alloc (.cells #[.slice (some ⟨s4 + 3, 0, none⟩) st.1.length st.1.length, .slice (some ⟨s4 + 4, 0, none⟩) st.2.1.length st.2.1.length, .slice (some ⟨s4 + 5 + 4 * st.2.1.length, 0, none⟩) st.2.2.length st.2.2.length] 30) := ⟨_, rfl⟩
    rw [← hV]
    have x0 : V.cell? ⟨w4.heap.size, 0, none⟩ = some (.slice (some ⟨s4 + 3, 0, none⟩) st.1.length st.1.length) := by rw [hV]; simp
    have x1 : V.cell? ⟨w4.heap.size, 1, none⟩ = some (.slice (some ⟨s4 + 4, 0, none⟩) st.2.1.length st.2.1.length) := by rw [hV]; simp
    have x2 : V.cell? ⟨w4.heap.size, 2, none⟩ = some (.slice (some ⟨s4 + 5 + 4 * st.2.1.length, 0, none⟩) st.2.2.length st.2.2.length) := by rw [hV]; simp
    have hbV : Below w4.heap.size w4 V := by rw [hV]; exact Joins.below_alloc1 _ _
    clear hV
    replace e0 := cell_later hbV e0
    replace e1 := cell_later hbV e1
    replace e2 := cell_later hbV e2
    have HBV := hide (below_tail HB4.out hbV)
    have HMV := hide (HM4.out.below hbV)
    clear hbV HM4 HB4 hne
    refine (toIntS_any _ ms _ (HM.out.below HBV.out) hms).mono ?_
    rintro e w4b ⟨rfl, hm4b, hz4b, hb4b⟩
    replace e0 := cell_later hb4b e0
    replace e1 := cell_later hb4b e1
    replace e2 := cell_later hb4b e2
    replace x0 := cell_later hb4b x0
    replace x1 := cell_later hb4b x1
    replace x2 := cell_later hb4b x2
    have HB4b := hide (below_tail HBV.out hb4b)
    have HM4b := hide (HMV.out.below hb4b)
    have HC4b := hide (HMV.out.below hb4b).cap
    have HI4b := hide (ints_row hm4b)
    clear hz4b hb4b hm4b HMV HBV
    generalize V.heap.size = s4b at *
    unfold stVal at HC4b
    go_wp2_with fail
    refine (implCost_any _ _ st ms _ HM4b.out.at HC4b.out (fun i hi => by have := HSM.out.pl i hi; omega) HI4b.out (by omega)).mono ?_
    rintro e w5 ⟨rfl, hb5⟩
    have hcmp : (costF st ms != costF st ms) = false := by simp
    generalize costF st ms = code at *
    replace e0 := cell_later hb5 e0
    replace e1 := cell_later hb5 e1
    replace e2 := cell_later hb5 e2
    replace x0 := cell_later hb5 x0
    replace x1 := cell_later hb5 x1
    replace x2 := cell_later hb5 x2
    have HB5 := hide (below_tail HB4b.out hb5)
    have HM5 := hide (HM4b.out.below hb5)
    have HI5 := hide (HI4b.out.below hb5)
    clear hb5 HM4b HB4b HI4b HC4b
    go_wp2_with fail
    go_region_held3 (fun w' => w'.cell? ⟨w.heap.size, 0, none⟩ = some (.slice a1 st.1.length q1) ∧ w'.cell? ⟨w.heap.size, 1, none⟩ = some (.slice a2 st.2.1.length q2) ∧ w'.cell? ⟨w.heap.size, 2, none⟩ = some (.slice a3 st.2.2.length q3) ∧ w'.cell? ⟨w4.heap.size, 0, none⟩ = some (.slice (some ⟨s4 + 3, 0, none⟩) st.1.length st.1.length) ∧ w'.cell? ⟨w4.heap.size, 1, none⟩ = some (.slice (some ⟨s4 + 4, 0, none⟩) st.2.1.length st.2.1.length) ∧ w'.cell? ⟨w4.heap.size, 2, none⟩ = some (.slice (some ⟨s4 + 5 + 4 * st.2.1.length, 0, none⟩) st.2.2.length st.2.2.length))
      (first | (exact ⟨cell_later hb7 (cell_later hb6 (by exact e0)), cell_later hb7 (cell_later hb6 (by exact e1)), cell_later hb7 (cell_later hb6 (by exact e2)), cell_later hb7 (cell_later hb6 (by exact x0)), cell_later hb7 (cell_later hb6 (by exact x1)), cell_later hb7 (cell_later hb6 (by exact x2))⟩) | (exact ⟨cell_later hb6 (by exact e0), cell_later hb6 (by exact e1), cell_later hb6 (by exact e2), cell_later hb6 (by exact x0), cell_later hb6 (by exact x1), cell_later hb6 (by exact x2)⟩) | go_keep)
      (first | (go_at_call 12; refine (toState_small _ st _ ?_ HSM.out).mono ?_; exact (HA.out.at_.below HB5.out.drew); rintro e w6 ⟨rfl, hm6, hz6, hb6⟩) | (go_at_call 14; refine (eqState_small _ _ st _ ?_ ?_ HSM.out).mono ?_; exact (HM5.out.below (below_tail (Joins.below_draws _ _ 1) hb6)).at; exact hm6.at; rintro e w7 ⟨rfl, hb7⟩))
    all_goals
      have hb67 := below_tail (below_tail (Joins.below_draws w5.heap.size w5 1) hb6) hb7
      have HB7 := hide (below_tail HB5.out hb67)
      have HI7 := hide (HI5.out.below hb67)
      clear hb6 hb7 hm6 hz6 hb67 e0 e1 e2 x0 x1 x2
      go_wp2_with fail
      refine (toIntS_any _ ms _ (HM.out.below HB7.out) hms).mono ?_
      rintro e w8 ⟨rfl, hm8, hz8, hb8⟩
      have HB8 := hide (below_tail HB7.out hb8)
      have HI8 := hide (HI7.out.below hb8)
      have HJ8 := hide (ints_row hm8)
      clear hm8 hz8 hb8
      go_wp2_with fail
      refine (eqIntS_true _ _ ms _ HI8.out HJ8.out (by omega)).mono ?_
      rintro e w9 ⟨rfl, hb9⟩
      have HB9 := hide (below_tail HB8.out hb9)
      clear hb9
      go_wp2_with fail
      go_ret
      exact ⟨rfl, HB9.out⟩
end Go.Proofs.Ytmjjigdnoiphbab

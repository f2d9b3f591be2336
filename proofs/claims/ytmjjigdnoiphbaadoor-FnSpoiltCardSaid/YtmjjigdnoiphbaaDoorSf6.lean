/-
  spec: Safe, Allowed.
-/
import Derived.Test.YtmjjigdnoiphbaaDoorSf5
namespace Go.Proofs.YtmjjigdnoiphbaaDoor
open Go.RowKit Go.Deep
set_option linter.unusedVariables false

/-- Safe -/
def safeF (st : St) : Bool := decide (stOk st = 0) && decide (0 ≤ val st)
def allowUp (st : St) : Nat → List Int
  | 0 => []
  | k + 1 => allowUp st k ++ (bif canB st k && decide (0 ≤ val (stepSt st k)) then [el st.2.2 k] else [])
/-- Allowed -/
def allowedF (st : St) : List Int := bif decide (stOk st = 0) then allowUp st st.2.2.length else []
theorem allowUp_le (st : St) : ∀ k, (allowUp st k).length ≤ k
  | 0 => Nat.le_refl _
  | k + 1 => by have := allowUp_le st k; simp only [allowUp, List.length_append]; cases (canB st k && decide (0 ≤ val (stepSt st k))) <;> simp <;> omega
theorem allowedF_le (st : St) : (allowedF st).length ≤ 5 := by
  unfold allowedF
  by_cases h : stOk st = 0
  · have := (right_of_ok h).lens
    have h2 := allowUp_le st st.2.2.length
    simp [h]; omega
  · simp [h]

set_option maxRecDepth 4000 in
set_option maxHeartbeats 4000000 in
theorem specSafe_any (v : Value) (st : St) (w : World) (h : StateAt w v st) :
    Calls Tryd.prog 23 #[v] w fun e w' => e = .returned (.bool (safeF st)) ∧ Below w.heap.size w w' := by
  have HS := hide h
  obtain ⟨a1, q1, a2, q2, a3, q3, rfl⟩ := h.form
  clear h
  go_enter Tryd.func23, Tryd.ntmps23
  go_wp2_with fail
  obtain ⟨V, hV⟩ : ∃ V, V = w.alloc (.cells #[.slice a1 st.1.length q1, .slice a2 st.2.1.length q2, .slice a3 st.2.2.length q3] 26) := ⟨_, rfl⟩
  rw [← hV]
  have hbV : Below w.heap.size w V := by rw [hV]; exact Joins.below_alloc1 _ _
  have c0 : V.cell? ⟨w.heap.size, 0, none⟩ = some (.slice a1 st.1.length q1) := by rw [hV]; simp
  have c1 : V.cell? ⟨w.heap.size, 1, none⟩ = some (.slice a2 st.2.1.length q2) := by rw [hV]; simp
  have c2 : V.cell? ⟨w.heap.size, 2, none⟩ = some (.slice a3 st.2.2.length q3) := by rw [hV]; simp
  have HBV := hide hbV
  clear hV hbV
  by_cases hok : stOk st = 0
  · have HR := hide (right_of_ok hok)
    have HP := hide (behind_pz HR.out.lens.2.2.2)
    have hokb : (stOk st == 0) = true := by simp [hok]
    have HF := hide (show safeF st = decide (0 ≤ val st) by simp [safeF, hok])
    clear hok
    have HS1 := hide (HS.out.below HBV.out)
    have HOKC : Hid (∀ w', StateAt w' (.agg #[.slice a1 st.1.length q1, .slice a2 st.2.1.length q2, .slice a3 st.2.2.length q3]) st → Calls Tryd.prog 12 #[.agg #[.slice a1 st.1.length q1, .slice a2 st.2.1.length q2, .slice a3 st.2.2.length q3]] w' fun e w'' => e = .returned (.int .i64 (stOk st)) ∧ Below w'.heap.size w' w'') := fun w' h' => specStateOk_any _ st w' h'
    generalize stOk st = code at *
    generalize hvv : val st = vv at *
    have HVV := hide hvv
    clear hvv
    cases hd : decide (0 ≤ vv)
    all_goals
      rw [hd] at HF
      go_region_with (first | (go_at_call 12; refine (HOKC.out _ (HS1.out.below (Joins.below_draws _ _ 1))).mono ?_; rintro e w1 ⟨rfl, hb1⟩; have d0 := cell_later hb1 (by exact c0); have d1 := cell_later hb1 (by exact c1); have d2 := cell_later hb1 (by exact c2)) | (go_at_call 61; refine (l2new_any _ st _ (HS1.out.below (below_tail (Joins.below_draws _ _ 1) hb1)) HR.out).mono ?_; rintro e w2 ⟨tb, cb, mb, pv', nv, rfl, ht, hcb, hmb, hb2⟩; have f0 := cell_later hb2 d0; have f1 := cell_later hb2 d1; have f2 := cell_later hb2 d2) | (go_at_call 62; refine (value_any st w1.heap.size tb cb mb pv' nv HR.out _ pz _ w2 _ _ (pz_ok st) rfl (fun w' hw' => by rw [HP.out]; exact (HS1.out.below (below_tail (Joins.below_draws _ _ 1) hb1)).below (hb2.trans (hw'.below hb2.size (fun k hk e => by rcases e with e | e <;> omega)))) ht).mono ?_; rw [HP.out, HVV.out]; rintro e w3 ⟨rfl, -, hc3⟩))
      all_goals
        have HB3 : Hid (Below w.heap.size w w3) := (below_tail (below_tail (below_tail HBV.out (Joins.below_draws _ _ 1)) hb1) hb2).trans (hc3.below (by have g1 := HBV.out.size; have g2 : V.heap.size ≤ w1.heap.size := hb1.size; have g3 := hb2.size; omega) (fun k hk e => by have g1 := HBV.out.size; have g2 : V.heap.size ≤ w1.heap.size := hb1.size; rcases e with e | e <;> omega))
        clear hb1 hb2 hc3 ht
        go_wp2_with fail
        go_ret
        exact ⟨by rw [HF.out]; rfl, HB3.out⟩
  · have hokb : (stOk st == 0) = false := by simp [hok]
    have HF := hide (show safeF st = false by simp [safeF, hok])
    clear hok
    have HS1 := hide (HS.out.below HBV.out)
    have HOKC : Hid (∀ w', StateAt w' (.agg #[.slice a1 st.1.length q1, .slice a2 st.2.1.length q2, .slice a3 st.2.2.length q3]) st → Calls Tryd.prog 12 #[.agg #[.slice a1 st.1.length q1, .slice a2 st.2.1.length q2, .slice a3 st.2.2.length q3]] w' fun e w'' => e = .returned (.int .i64 (stOk st)) ∧ Below w'.heap.size w' w'') := fun w' h' => specStateOk_any _ st w' h'
    generalize stOk st = code at *
    go_region_with (first | (go_at_call 12; refine (HOKC.out _ (HS1.out.below (Joins.below_draws _ _ 1))).mono ?_; rintro e w1 ⟨rfl, hb1⟩))
    all_goals
      have HB1 := hide (below_tail HBV.out (below_tail (Joins.below_draws _ _ 1) hb1))
      clear hb1
      go_wp2_with fail
      go_ret
      exact ⟨by rw [HF.out]; rfl, HB1.out⟩
end Go.Proofs.YtmjjigdnoiphbaaDoor

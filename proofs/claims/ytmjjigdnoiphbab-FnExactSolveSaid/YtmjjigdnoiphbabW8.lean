/-
  spec.StateOk.
-/
import Derived.Test.YtmjjigdnoiphbabW7
namespace Go.Proofs.Ytmjjigdnoiphbab
open Go.RowKit Go.Deep
set_option linter.unusedVariables false

theorem stOk1 {st : St} (h : sizesB st = false) : stOk st = 1 := by simp [stOk, h]
theorem stOk2 {st : St} (h : sizesB st = true) (h2 : roomsB st.1 = false) : stOk st = 2 := by simp [stOk, h, h2]
theorem stOk3 {st : St} (h : sizesB st = true) (h2 : roomsB st.1 = true) (h3 : trainsB st.1.length st.2.1 = false) : stOk st = 3 := by simp [stOk, h, h2, h3]
theorem stOk4 {st : St} (h : sizesB st = true) (h2 : roomsB st.1 = true) (h3 : trainsB st.1.length st.2.1 = true) (h4 : namesB st.2.2 = false) : stOk st = 4 := by simp [stOk, h, h2, h3, h4]
theorem stOk5 {st : St} (h : sizesB st = true) (h2 : roomsB st.1 = true) (h3 : trainsB st.1.length st.2.1 = true) (h4 : namesB st.2.2 = true) (h5 : fitsB st.1 st.2.1 = false) : stOk st = 5 := by simp [stOk, h, h2, h3, h4, h5]
theorem stOk0 {st : St} (h : sizesB st = true) (h2 : roomsB st.1 = true) (h3 : trainsB st.1.length st.2.1 = true) (h4 : namesB st.2.2 = true) (h5 : fitsB st.1 st.2.1 = true) : stOk st = 0 := by simp [stOk, h, h2, h3, h4, h5]

set_option maxHeartbeats 800000 in
theorem specStateOk_no (v : Value) (st : St) (w : World) (h : StateAt w v st) (hs : sizesB st = false) :
    Calls Try.prog 37 #[v] w fun e w' => e = .returned (.int .i64 1) ∧ Below w.heap.size w w' := by
  obtain ⟨vr, vt, vn, rfl, hR, hT, hN⟩ := h
  obtain ⟨rs, ts, ns⟩ := st
  obtain ⟨ar, cr, rfl, _⟩ := hR
  obtain ⟨an, cn, rfl, _⟩ := hN
  obtain ⟨a, cap, rfl, _⟩ := hT
  simp only [sizesB] at *
  by_cases h1 : inR rs.length 1 40 = true
  · by_cases h2 : ts.length ≤ 5
    · have h3 : ((ns.length : Int) != (ts.length : Int)) = true := by simp [h1, h2] at hs; simp; omega
      clear hs
      generalize ts.length = nt at *
      generalize ns.length = nn at *
      go_enter Try.func37, Try.ntmps37
      go_wp2_with (go_at_call 61; refine (l1in_any _ _ _ _).mono ?_; rintro e w' ⟨rfl, rfl⟩)
      go_ret
      exact ⟨rfl, Joins.below_alloc1 _ _⟩
    · have h2' : 5 < (ts.length : Int) := by omega
      clear hs
      go_enter Try.func37, Try.ntmps37
      go_wp2_with (go_at_call 61; refine (l1in_any _ _ _ _).mono ?_; rintro e w' ⟨rfl, rfl⟩)
      go_ret
      exact ⟨rfl, Joins.below_alloc1 _ _⟩
  · have h1' : inR rs.length 1 40 = false := by simpa using h1
    clear hs h1
    go_enter Try.func37, Try.ntmps37
    go_wp2_with (go_at_call 61; refine (l1in_any _ _ _ _).mono ?_; rintro e w' ⟨rfl, rfl⟩)
    go_ret
    exact ⟨rfl, Joins.below_alloc1 _ _⟩
end Go.Proofs.Ytmjjigdnoiphbab

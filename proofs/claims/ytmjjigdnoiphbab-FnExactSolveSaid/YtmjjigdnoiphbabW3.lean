/-
  szTrain, szTrainS, szState.
-/
import Derived.Test.YtmjjigdnoiphbabW2
namespace Go.Proofs.Ytmjjigdnoiphbab
open Go.RowKit Go.Deep
set_option linter.unusedVariables false

theorem szIntS_yes (a : Option Addr) (len cap : Nat) (left : Int) (w : World) (hl : len ≤ 9223372036854775807) (h1 : left ≤ 1048576) (h : (len : Int) ≤ left) :
    Calls Try.prog 35 #[.slice a len cap, .int .i64 left] w fun e w' => e = .returned (.int .i64 (left - len)) ∧ w' = w :=
  (szIntS_any a len cap left w hl (by omega) h1).mono fun e w' ⟨he, hw⟩ => ⟨by rw [he, if_neg (by omega)], hw⟩

theorem szIntS_no (a : Option Addr) (len cap : Nat) (left : Int) (w : World) (hl : len ≤ 9223372036854775807) (h0 : 0 ≤ left) (h1 : left ≤ 1048576) (h : left < len) :
    Calls Try.prog 35 #[.slice a len cap, .int .i64 left] w fun e w' => e = .returned (.int .i64 (-1)) ∧ w' = w :=
  (szIntS_any a len cap left w hl h0 h1).mono fun e w' ⟨he, hw⟩ => ⟨by rw [he, if_pos (by omega)], hw⟩

theorem szTrain_yes (x y : Int) (a : Option Addr) (len cap : Nat) (left : Int) (w : World) (hl : len ≤ 9223372036854775807) (h1 : left ≤ 1048576) (h : (len : Int) ≤ left) :
    Calls Try.prog 60 #[.agg #[.int .i64 x, .slice a len cap, .int .i64 y], .int .i64 left] w fun e w' => e = .returned (.int .i64 (left - len)) ∧ Below w.heap.size w w' := by
  go_enter Try.func60, Try.ntmps60
  go_wp2_with (go_at_call 35; refine (szIntS_yes _ _ _ _ _ hl h1 h).mono ?_; rintro e w' ⟨rfl, rfl⟩)
  go_ret
  exact ⟨rfl, Joins.below_alloc1 _ _⟩

theorem szTrain_no (x y : Int) (a : Option Addr) (len cap : Nat) (left : Int) (w : World) (hl : len ≤ 9223372036854775807) (h0 : 0 ≤ left) (h1 : left ≤ 1048576) (h : left < len) :
    Calls Try.prog 60 #[.agg #[.int .i64 x, .slice a len cap, .int .i64 y], .int .i64 left] w fun e w' => e = .returned (.int .i64 (-1)) ∧ Below w.heap.size w w' := by
  go_enter Try.func60, Try.ntmps60
  go_wp2_with (go_at_call 35; refine (szIntS_no _ _ _ _ _ hl h0 h1 h).mono ?_; rintro e w' ⟨rfl, rfl⟩)
  go_ret
  exact ⟨rfl, Joins.below_alloc1 _ _⟩

set_option maxHeartbeats 800000 in
theorem szTrainS_any (v : Value) (ts : List Tr) (left : Int) (w : World) (h : TrainsAt w v ts) (hl : ts.length ≤ 9223372036854775807) (hp : ∀ i, i < ts.length → (tPath ts i).length ≤ 9223372036854775807) (h0 : 0 ≤ left) (h1 : left ≤ 1048576) :
    Calls Try.prog 36 #[v, .int .i64 left] w fun e w' => ∃ r, e = .returned (.int .i64 r) ∧ (r < 0 ∨ (0 ≤ r ∧ r ≤ left ∧ ts.length ≤ left ∧ ∀ i, i < ts.length → (tPath ts i).length ≤ left)) ∧ Below w.heap.size w w' := by
  obtain ⟨a, cap, rfl, h⟩ := h
  generalize ts.length = n at *
  by_cases hlt0 : left - n < 0
  · go_enter Try.func36, Try.ntmps36
    go_wp2
    go_ret
    exact ⟨_, rfl, Or.inl (by omega), Below.refl _ _⟩
  · go_enter Try.func36, Try.ntmps36
    go_wp2
    go_loopw [1, 5] (fun l i wr => ∃ k : Nat, ∃ lf : Int, k ≤ n ∧ i = .int .i64 k ∧ l = .int .i64 lf ∧ 0 ≤ lf ∧ lf ≤ left ∧ Hid (∀ j, j < k → (tPath ts j).length ≤ left) ∧ Below w.heap.size w wr) (fun _ i _ => n - (intOf i).toNat)
    case atStart => exact ⟨0, _, Nat.zero_le _, rfl, rfl, by omega, by omega, fun j hj => absurd hj (Nat.not_lt_zero _), Below.refl _ _⟩
    case round =>
      obtain ⟨k, lf, hk, rfl, rfl, hf0, hf1, hall, hb⟩ := hrel
      by_cases hlt : k < n
      · obtain ⟨b, off, rfl, vp, hc1, hc2, ⟨ap, cp, rfl, _⟩, hc3⟩ := h k hlt
        have g1 := cell_later hb hc1
        have g2 := cell_later hb hc2
        have g3 := cell_later hb hc3
        have hpk := hp k hlt
        clear hc1 hc2 hc3 h hp
        by_cases hneg : lf < (tPath ts k).length
        · go_wp2_with (go_at_call 60; refine (szTrain_no _ _ _ _ _ _ _ hpk hf0 (by omega) hneg).mono ?_; rintro e w' ⟨rfl, hb'⟩)
          go_ret
          exact ⟨-1, rfl, Or.inl (by omega), below_tail hb hb'⟩
        · have hyes : ((tPath ts k).length : Int) ≤ lf := by omega
          go_wp2_with (go_at_call 60; refine (szTrain_yes _ _ _ _ _ _ _ hpk (by omega) hyes).mono ?_; rintro e w' ⟨rfl, hb'⟩)
          go_roundw
          case rel => exact ⟨k + 1, lf - (tPath ts k).length, by omega, by go_num, rfl, by omega, by omega, fun j hj => by
            by_cases e : j = k
            · subst e; omega
            · exact hall.out j (by omega), below_tail hb hb'⟩
          case measure => simp [intOf]; omega
      · go_wp2
        go_ret
        exact ⟨_, rfl, Or.inr ⟨hf0, hf1, by omega, fun i hi => hall.out i (by omega)⟩, hb⟩

set_option maxHeartbeats 800000 in
theorem szState_any (v : Value) (st : St) (w : World) (h : StateAt w v st) (hr : st.1.length ≤ 9223372036854775807) (hl : st.2.1.length ≤ 9223372036854775807) (hn : st.2.2.length ≤ 9223372036854775807) (hp : ∀ i, i < st.2.1.length → (tPath st.2.1 i).length ≤ 9223372036854775807) :
    Calls Try.prog 10 #[v, .int .i64 1048576] w fun e w' => ∃ r, e = .returned (.int .i64 r) ∧ (r < 0 ∨ (0 ≤ r ∧ st.1.length ≤ 1048576 ∧ st.2.2.length ≤ 1048576 ∧ st.2.1.length ≤ 1048576 ∧ ∀ i, i < st.2.1.length → (tPath st.2.1 i).length ≤ 1048576)) ∧ Below w.heap.size w w' := by
  obtain ⟨vr, vt, vn, rfl, ⟨ar, cr, rfl, hR⟩, hT, ⟨an, cn, rfl, hN⟩⟩ := h
  obtain ⟨rs, ts, ns⟩ := st
  obtain ⟨at', ct, hvt, hT'⟩ := hT
  have hT : TrainsAt w vt ts := ⟨at', ct, hvt, hT'⟩
  subst hvt
  clear hT' hR hN
  simp only at *
  by_cases h1 : (1048576 : Int) < rs.length
  · go_enter Try.func10, Try.ntmps10
    go_wp2_with (go_at_call 35; refine (szIntS_no _ _ _ _ _ hr (by omega) (by omega) h1).mono ?_; rintro e w' ⟨rfl, rfl⟩)
    go_ret
    exact ⟨-1, rfl, Or.inl (by omega), Joins.below_alloc1 _ _⟩
  · have h1' : (rs.length : Int) ≤ 1048576 := by omega
    go_enter Try.func10, Try.ntmps10
    go_wp2_with fail
    refine (szIntS_yes _ _ _ _ _ hr (by omega) h1').mono ?_
    rintro e w' ⟨rfl, rfl⟩
    go_wp2_with fail
    refine (szTrainS_any _ ts _ _ (hT.below (Joins.below_alloc1 _ _)) hl hp (by omega) (by omega)).mono ?_
    rintro e w' ⟨r, rfl, hr', hb⟩
    have hbb := below_tail (Joins.below_alloc1 w (.cells #[.slice ar rs.length cr, .slice at' ts.length ct, .slice an ns.length cn] 25)) hb
    have hc3 : w'.cell? ⟨w.heap.size, 2, none⟩ = some (.slice an ns.length cn) := by
      rw [hb.cell (by simp)]; simp
    by_cases h2 : r < 0
    · go_wp2_with fail
      go_ret
      exact ⟨-1, rfl, Or.inl (by omega), hbb⟩
    · have h2' : 0 ≤ r := by omega
      by_cases h3 : r < ns.length
      · go_wp2_with fail
        refine (szIntS_no _ _ _ _ _ hn h2' (by omega) h3).mono ?_
        rintro e w' ⟨rfl, rfl⟩
        go_wp2_with fail
        go_ret
        exact ⟨-1, rfl, Or.inl (by omega), hbb⟩
      · have h3' : (ns.length : Int) ≤ r := by omega
        go_wp2_with fail
        refine (szIntS_yes _ _ _ _ _ hn (by omega) h3').mono ?_
        rintro e w' ⟨rfl, rfl⟩
        go_wp2_with fail
        go_ret
        rcases hr' with hr' | ⟨_, _, q1, q2⟩
        · omega
        · exact ⟨_, rfl, Or.inr ⟨by omega, by omega, by omega, by omega, fun i hi => by have := q2 i hi; omega⟩, hbb⟩
end Go.Proofs.Ytmjjigdnoiphbab

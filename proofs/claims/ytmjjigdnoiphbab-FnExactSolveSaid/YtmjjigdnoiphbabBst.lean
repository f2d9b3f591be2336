/-
  laws: eqBest, markBest, heldBest.
-/
import Derived.Test.YtmjjigdnoiphbabW20
namespace Go.Proofs.Ytmjjigdnoiphbab
open Go.RowKit Go.Deep
set_option linter.unusedVariables false

set_option maxHeartbeats 2000000 in
theorem eqBest_true (bo : Bool) (c : Int) (va vb : Value) (xs : List Int) (w : World) (ha : IntsAt w va xs) (hb : IntsAt w vb xs) (hl : xs.length ≤ 9223372036854775807) :
    Calls Try.prog 29 #[.agg #[.bool bo, .int .i64 c, va], .agg #[.bool bo, .int .i64 c, vb]] w fun e w' => e = .returned (.bool true) ∧ Below w.heap.size w w' := by
  have HA := hide ha
  have HB := hide hb
  obtain ⟨a1, q1, rfl, -⟩ := ha
  obtain ⟨a2, q2, rfl, -⟩ := hb
  have hcc : (c != c) = false := by simp
  have hbb : (bo != bo) = false := by simp
  go_enter Try.func29, Try.ntmps29
  go_wp2_with fail
  have hb2 := Joins.below_alloc2 w (.cells #[.bool bo, .int .i64 c, .slice a1 xs.length q1] 41) (.cells #[.bool bo, .int .i64 c, .slice a2 xs.length q2] 41)
  refine (eqIntS_true _ _ xs _ (HA.out.below hb2) (HB.out.below hb2) hl).mono ?_
  rintro e w3 ⟨rfl, hb3⟩
  have HB3 := hide (below_tail hb2 hb3)
  clear hb2 hb3
  go_wp2_with fail
  go_ret
  exact ⟨rfl, HB3.out⟩

set_option maxHeartbeats 2000000 in
theorem markBest_own (bo : Bool) (c : Int) (a : Option Addr) (n cap : Nat) (X : Nat → Int) (m : Int) (w : World) (h : OwnF w a n X) (hn : n ≤ 1048576) (h0 : 0 ≤ m) (h1 : m ≤ 4611686018427387904) (hf : ∀ k, FA a k → k < w.heap.size) :
    Calls Try.prog 30 #[.agg #[.bool bo, .int .i64 c, .slice a n cap], .int .i64 m] w fun e w' => e = .returned (.int .i64 (m + n)) ∧ OwnF w' a n (fun i => m + i) ∧ Chg (FA a) w w' := by
  have HF := hide h
  go_enter Try.func30, Try.ntmps30
  go_wp2_with fail
  have hb1 := Joins.below_alloc1 w (.cells #[.bool bo, .int .i64 c, .slice a n cap] 41)
  refine (markIntS_own a n cap X m _ (HF.out.below hb1) hn h0 h1).mono ?_
  rintro e w2 ⟨rfl, hF, hC⟩
  have HF2 := hide hF
  have HC2 : Hid (Chg (FA a) w w2) := (Chg.of_below hb1).trans hC
  clear hF hC hb1
  go_wp2_with fail
  go_ret
  exact ⟨rfl, HF2.out, HC2.out⟩

set_option maxHeartbeats 2000000 in
theorem heldBest_own (bo : Bool) (c : Int) (a : Option Addr) (n cap : Nat) (m : Int) (w : World) (h : OwnF w a n (fun i => m + i)) (hn : n ≤ 1048576) (h0 : 0 ≤ m) (h1 : m ≤ 4611686018427387904) :
    Calls Try.prog 31 #[.agg #[.bool bo, .int .i64 c, .slice a n cap], .int .i64 m] w fun e w' => e = .returned (.int .i64 (m + n)) ∧ Below w.heap.size w w' := by
  have HF := hide h
  go_enter Try.func31, Try.ntmps31
  go_wp2_with fail
  have hb1 := Joins.below_alloc1 w (.cells #[.bool bo, .int .i64 c, .slice a n cap] 41)
  refine (heldIntS_own a n cap m _ (HF.out.below hb1) hn h0 h1).mono ?_
  rintro e w2 ⟨rfl, rfl⟩
  have HB := hide hb1
  have hcd : decide (m + (n : Int) < 0) = false := by simp; omega
  have hcn : ¬ (m + (n : Int) < 0) := by omega
  clear hb1
  go_wp2_with fail
  go_ret
  exact ⟨rfl, HB.out⟩
end Go.Proofs.Ytmjjigdnoiphbab

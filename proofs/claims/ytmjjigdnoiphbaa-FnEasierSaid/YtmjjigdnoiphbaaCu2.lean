/-
  THE DRAWS: pick.
-/
import Derived.Test.YtmjjigdnoiphbaaJ4
namespace Go.Proofs.Ytmjjigdnoiphbaa
open Go.RowKit Go.Deep
set_option linter.unusedVariables false

set_option maxHeartbeats 1000000 in
theorem pick_any {w : World} {cb : Nat} {a : Option Addr} {n q k : Nat} (h : CurAt w cb a n q k) (hk : k ≤ 900000) (m : Int) (hm : m ≤ 1000000) :
    Calls Try.prog 79 #[.pointer (some ⟨cb, 0, none⟩), .int .i64 m] w fun e w' => ∃ x : Int, ∃ k' : Nat, e = .returned (.int .i64 x) ∧ 0 ≤ x ∧ (m ≤ 1 → x = 0) ∧ (1 < m → x < m) ∧ k ≤ k' ∧ k' ≤ k + 2 ∧ CurAt w' cb a n q k' ∧ Chg (fun b => b = cb) w w' := by
  have HH := hide h
  by_cases h1 : m ≤ 1
  · clear h
    go_enter Try.func79, Try.ntmps79
    go_wp2_with fail
    go_ret
    exact ⟨0, k, rfl, by omega, fun _ => rfl, fun h => by omega, Nat.le_refl _, by omega, HH.out, Chg.refl _ _⟩
  · have h1' : ¬ m ≤ 1 := h1
    by_cases h2 : 200 < m
    · clear h
      go_enter Try.func79, Try.ntmps79
      go_wp2_with (go_at_call 103; refine (next_any HH.out ?_).mono ?_; (omega); rintro e w1 ⟨x, rfl, hx0, hx1, hcu1, hch1⟩)
      refine (next_any hcu1 (by omega)).mono ?_
      rintro e w2 ⟨y, rfl, hy0, hy1, hcu2, hch2⟩
      go_wp2_with fail
      go_ret
      have e1 := Int.emod_nonneg (x * 256 + y) (show m ≠ 0 by omega)
      have e2 := Int.emod_lt_of_pos (x * 256 + y) (show 0 < m by omega)
      exact ⟨(x * 256 + y) % m, k + 2, rfl, e1, fun h => by omega, fun _ => e2, by omega, by omega, hcu2, hch1.trans hch2⟩
    · clear h
      go_enter Try.func79, Try.ntmps79
      go_wp2_with (go_at_call 103; refine (next_any HH.out ?_).mono ?_; (omega); rintro e w1 ⟨x, rfl, hx0, hx1, hcu1, hch1⟩)
      go_ret
      have e1 := Int.emod_nonneg x (show m ≠ 0 by omega)
      have e2 := Int.emod_lt_of_pos x (show 0 < m by omega)
      exact ⟨x % m, k + 1, rfl, e1, fun h => by omega, fun _ => e2, by omega, by omega, hcu1, hch1⟩
end Go.Proofs.Ytmjjigdnoiphbaa

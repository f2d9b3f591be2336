/-
  Two progresses, two ways, held against one another.
-/
import Derived.Test.YtmjjigdnoiphbabEn
namespace Go.Proofs.Ytmjjigdnoiphbab
open Go.RowKit Go.Deep Go.Maps
set_option linter.unusedVariables false

theorem eqAr (k : Nat) (d e : Pr) (w : World) : (Op.equalIn (k + 1 + 1) 57 (.agg (pc5 d)) (.agg (pc5 e))).run Try.prog w = .ok (same5 d e) w := by
  have u3 := Try.underlying56
  have a3 := Try.isAgg56
  have z3 := Try.sizeOf56
  rw [show k + 1 + 1 = (k + 1) + 1 from rfl, Op.equalIn]
  simp only [Sem.run_bind, run_underlying Try.underlying57, Result.andThen_ok]
  simp only [Std.Legacy.Range.forIn_eq_forIn_range', Std.Legacy.Range.size, Nat.sub_zero, Nat.add_sub_cancel, Nat.div_one, List.range'_succ, List.range'_zero, List.forIn_cons, List.forIn_nil]
  unfold pc5 same5
  go_simp
  by_cases h0 : d 0 = e 0 <;> by_cases h1 : d 1 = e 1 <;> by_cases h2 : d 2 = e 2 <;> by_cases h3 : d 3 = e 3 <;> by_cases h4 : d 4 = e 4 <;> simp [h0, h1, h2, h3, h4] <;> omega
theorem eqPr (k : Nat) (d e : Pr) (w : World) : (Op.equalIn (k + 1 + 1 + 1) 59 (.agg (pc5 d)) (.agg (pc5 e))).run Try.prog w = .ok (same5 d e) w := by
  have u3 := Try.underlying57
  have a3 := Try.isAgg57
  have z3 := Try.sizeOf57
  have hS : Try.prog.underlying 59 = some (.struct (Try.prog.fieldsOf 59)) := by kernel_rfl
  have hp : Try.prog.stoodInHeld 59 = false := by kernel_rfl
  have hE := eqAr k d e
  rw [run_equalIn_agg w (k + 1 + 1) 59 _ _ hS hp]
  simp only [Program.fieldsOf, Try.underlying59]
  unfold pc5 at hE ⊢
  go_simp
  cases same5 d e <;> rfl
/-- how an order goes on: from where, what it costs, who moves first -/
abbrev Way : Type := Pr × Int × Nat
def wc7 (x : Way) : Array Value := #[.int .i8 (x.1 0), .int .i8 (x.1 1), .int .i8 (x.1 2), .int .i8 (x.1 3), .int .i8 (x.1 4), .int .i64 x.2.1, .int .i64 (x.2.2 : Int)]
def wv (x : Way) : Value := .agg (wc7 x)
def sameW (x y : Way) : Bool := same5 x.1 y.1 && (decide (x.2.1 = y.2.1) && decide (x.2.2 = y.2.2))
theorem eqWay (k : Nat) (x y : Way) (w : World) : (Op.equalIn (k + 1 + 1 + 1 + 1) 74 (.agg (wc7 x)) (.agg (wc7 y))).run Try.prog w = .ok (sameW x y) w := by
  have u3 := Try.underlying59
  have a3 := Try.isAgg59
  have z3 := Try.sizeOf59
  have u4 := Try.underlying3
  have a4 := Try.isAgg3
  have z4 := Try.sizeOf3
  have hS : Try.prog.underlying 74 = some (.struct (Try.prog.fieldsOf 74)) := by kernel_rfl
  have hp : Try.prog.stoodInHeld 74 = false := by kernel_rfl
  have hE := eqPr k x.1 y.1
  have hI : ∀ (a b : Int) (w : World), (Op.equalIn (k + 1 + 1 + 1) 3 (.int .i64 a) (.int .i64 b)).run Try.prog w = .ok (a == b) w := fun a b w => run_equalIn_int w (k + 1 + 1) 3 .i64 .i64 a b Try.underlying3
  rw [run_equalIn_agg w (k + 1 + 1 + 1) 74 _ _ hS hp]
  simp only [Program.fieldsOf, Try.underlying74]
  unfold wc7 sameW
  unfold pc5 at hE
  go_simp
  cases same5 x.1 y.1 <;> by_cases h1 : x.2.1 = y.2.1 <;> by_cases h2 : x.2.2 = y.2.2 <;> simp [h1, h2] <;> omega
theorem eqPr' (d e : Pr) (w : World) : (Op.equalIn 10000 59 (.agg (pc5 d)) (.agg (pc5 e))).run Try.prog w = .ok (same5 d e) w := eqPr 9997 d e w
theorem eqWay' (x y : Way) (w : World) : (Op.equalIn 10000 74 (.agg (wc7 x)) (.agg (wc7 y))).run Try.prog w = .ok (sameW x y) w := eqWay 9996 x y w
theorem sameW_iff {st : St} (hs : SoSt st) {x y : Way} (hx : PV st x.1) (hy : PV st y.1) : sameW x y = true ↔ y = x := by
  unfold sameW
  simp only [Bool.and_eq_true, decide_eq_true_eq, same5_iff hs hx hy]
  constructor
  · rintro ⟨h1, h2, h3⟩
    obtain ⟨x1, x2, x3⟩ := x
    obtain ⟨y1, y2, y3⟩ := y
    simp only at h1 h2 h3
    subst h1 h2 h3
    rfl
  · rintro rfl
    exact ⟨rfl, rfl, rfl⟩
end Go.Proofs.Ytmjjigdnoiphbab

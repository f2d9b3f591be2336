/-
  A progress as the key of a map.
-/
import Derived.Test.YtmjjigdnoiphbabSf6
import Derived.Test.YtmjjigdnoiphbabOpen
import Derived.Maps.OwnOps
import Derived.Maps.Views
import Derived.DeepKeys4
namespace Go.Proofs.Ytmjjigdnoiphbab
open Go.RowKit Go.Deep Go.Maps
set_option linter.unusedVariables false

theorem Try.rowPr : (59 : TypeId) < Try.prog.types.size := of_decide_eq_true (by kernel_rfl)
theorem Try.cellsPr : Try.prog.cellsOf 59 = 5 := by kernel_rfl
theorem Try.cellsAr : Try.prog.cellsOf 57 = 5 := by kernel_rfl
theorem Try.cellsI8 : Try.prog.cellsOf 56 = 1 := by kernel_rfl
theorem Try.keyPr : Try.prog.keyType 59 = true := by kernel_rfl
theorem Try.widePr : (match Try.prog.underlying 59 with | some (.array _ _) | some (.struct _) => true | _ => false) = true := by kernel_rfl
set_option maxRecDepth 16000 in
theorem prKeyed : Keyed Try.prog 59 := Keyed.of_law (deep_law_laid Try.laidOut (m := 3) (by omega) Try.rowPr (by kernel_rfl) Try.widePr)
theorem zeroVerdict (w : World) : (zeroValue 94).run Try.prog w = .ok (.int .i64 0) w := by kernel_rfl

theorem i8wf {n : Nat} (h : n < 100) : (Lit.int .i8 (n : Int)).wf = true := by
  have h1 : IntKind.i8.min = -128 := by decide
  have h2 : IntKind.i8.max = 127 := by decide
  simp only [Lit.wf, h1, h2, Bool.and_eq_true, decide_eq_true_eq]
  omega
theorem keyOf_pv {d : Nat → Nat} (hd : ∀ i, i < 5 → d i < 100) : ∃ kl, keyOf Try.prog 59 (pv d) = some kl := by
  obtain ⟨m, hm⟩ : ∃ m, Try.prog.types.size + 1 = m + 1 + 1 + 1 := ⟨Try.prog.types.size - 2, by have : 2 ≤ Try.prog.types.size := of_decide_eq_true (by kernel_rfl); omega⟩
  have w0 := i8wf (hd 0 (by omega))
  have w1 := i8wf (hd 1 (by omega))
  have w2 := i8wf (hd 2 (by omega))
  have w3 := i8wf (hd 3 (by omega))
  have w4 := i8wf (hd 4 (by omega))
  have hf : (pv d).formed Try.prog 59 = true := by simp [pv, pc5, Value.formed, Try.underlying59, Try.cellsPr]
  unfold keyOf
  rw [Try.underlying59]
  simp only [Try.keyPr, hf, Bool.and_self, if_true, hm]
  simp [Program.keyLits, Try.underlying59, Try.underlying57, Try.underlying56, Try.cellsPr, Try.cellsAr, Try.cellsI8, pv, pc5, Value.cells, List.range, List.range.loop, w0, w1, w2, w3, w4]
end Go.Proofs.Ytmjjigdnoiphbab

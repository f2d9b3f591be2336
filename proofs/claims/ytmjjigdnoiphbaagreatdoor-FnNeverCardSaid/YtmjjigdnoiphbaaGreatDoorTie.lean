/-
  DERIVED. GIVEN WITH THE SEED: THE PROGRAM's TIES (one call each: nine closed facts by the kernel) AND EACH ROW's TIE, after the 31st guide's Derived/Test/Toyas{Tie, Card}.lean. No idea stands in it: it is a product of the set-up. Laid BY PROGRAM, IN A SANDBOX (cutbox-door.mjs). By AI agents, Wed Nov 11 2026. No macro, syntax, notation, axiom, sorry.
-/
import Derived.Test.YtmjjigdnoiphbaaGreatDoorRows
import Derived.LaidByTextLater
import Derived.SevenTiedAt
import Derived.LaidSub
import Derived.LaidOnce
namespace Go.Proofs.YtmjjigdnoiphbaaGreatDoor
open Go
set_option maxRecDepth 100000
theorem seatTie1 : Tryz.prog.laidByTextLater [("loop.example/regulator/impl.errNoTrain", Rows.laid_loop_example_regulator_impl_errNoTrain), ("loop.example/regulator/impl.errCannotMove", Rows.laid_loop_example_regulator_impl_errCannotMove), ("loop.example/regulator/impl.errNotAllLeave", Rows.laid_loop_example_regulator_impl_errNotAllLeave)] [.sentinel, .sentinel, .sentinel] true :=
  Program.laidByTextLater_by_one 66 8 2 (by kernel_rfl) (by kernel_rfl) (by kernel_rfl) (by kernel_rfl) (by kernel_rfl) (by kernel_rfl) (fun _ _ => by kernel_rfl)
theorem noOwnUnsafe : Tryz.pinned.checked.prog.headLifts.contains "ownunsafe" = false := by kernel_rfl
theorem tie : Tryz.prog.laidByTextLater [("loop.example/regulator/impl.errNoTrain", Rows.laid_loop_example_regulator_impl_errNoTrain), ("loop.example/regulator/impl.errCannotMove", Rows.laid_loop_example_regulator_impl_errCannotMove), ("loop.example/regulator/impl.errNotAllLeave", Rows.laid_loop_example_regulator_impl_errNotAllLeave)] [.sentinel, .sentinel, .sentinel] true :=
  Program.laidByTextLater.sub seatTie1 ["loop.example/regulator/impl.errNoTrain", "loop.example/regulator/impl.errCannotMove", "loop.example/regulator/impl.errNotAllLeave"] (by kernel_rfl) (by kernel_rfl)
theorem fnNever_row_tie : Rows.fnNeverRow.laidByTextAt .later Tryz.pinned [.sentinel, .sentinel, .sentinel] true :=
  OpenClaim.laidByTextAt_later rfl rfl tie noOwnUnsafe
theorem fnNeverUpto_row_tie : Rows.fnNeverUptoRow.laidByTextAt .later Tryz.pinned [.sentinel, .sentinel, .sentinel] true :=
  OpenClaim.laidByTextAt_later rfl rfl tie noOwnUnsafe
end Go.Proofs.YtmjjigdnoiphbaaGreatDoor

/-
  laws.FnExactFree: the walk.
-/
import Derived.Test.YtmjjigdnoiphbaaGreatDoorW15
namespace Go.Proofs.YtmjjigdnoiphbaaGreatDoor
open Go.RowKit Go.Deep
set_option linter.unusedVariables false

end Go.Proofs.YtmjjigdnoiphbaaGreatDoor

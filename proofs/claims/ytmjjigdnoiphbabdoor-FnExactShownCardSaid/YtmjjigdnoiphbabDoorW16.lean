/-
  laws.FnExactFree: the walk.
-/
import Derived.Test.YtmjjigdnoiphbabDoorW15
namespace Go.Proofs.YtmjjigdnoiphbabDoor
open Go.RowKit Go.Deep
set_option linter.unusedVariables false

end Go.Proofs.YtmjjigdnoiphbabDoor

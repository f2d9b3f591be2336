/-
  laws.FnExactFree: the walk.
-/
import Derived.Test.YtiifdeepamajfabW15
namespace Go.Proofs.Ytiifdeepamajfab
open Go.RowKit Go.Deep
set_option linter.unusedVariables false

end Go.Proofs.Ytiifdeepamajfab

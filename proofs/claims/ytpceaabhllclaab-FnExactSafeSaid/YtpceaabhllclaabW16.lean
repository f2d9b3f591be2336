/-
  laws.FnExactFree: the walk.
-/
import Derived.Test.YtpceaabhllclaabW15
namespace Go.Proofs.Ytpceaabhllclaab
open Go.RowKit Go.Deep
set_option linter.unusedVariables false

end Go.Proofs.Ytpceaabhllclaab

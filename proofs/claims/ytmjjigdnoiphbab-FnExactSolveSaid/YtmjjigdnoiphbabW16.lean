/-
  laws.FnExactFree: the walk.
-/
import Derived.Test.YtmjjigdnoiphbabW15
namespace Go.Proofs.Ytmjjigdnoiphbab
open Go.RowKit Go.Deep
set_option linter.unusedVariables false

end Go.Proofs.Ytmjjigdnoiphbab

/-
  spec.Moves, impl.Moves.
-/
import Derived.Test.YtmjjigdnoiphbabDoorOwn
namespace Go.Proofs.YtmjjigdnoiphbabDoor
open Go.RowKit Go.Deep
set_option linter.unusedVariables false

def movesUp (st : St) : Nat → List Int
  | 0 => []
  | k + 1 => movesUp st k ++ (bif canB st k then [el st.2.2 k] else [])
/-- Moves -/
def movesF (st : St) : List Int := bif decide (stOk st = 0) then movesUp st st.2.2.length else []
theorem movesUp_le (st : St) : ∀ k, (movesUp st k).length ≤ k
  | 0 => Nat.le_refl _
  | k + 1 => by have := movesUp_le st k; simp only [movesUp, List.length_append]; cases canB st k <;> simp <;> omega
theorem movesF_le (st : St) : (movesF st).length ≤ 5 := by
  unfold movesF
  by_cases h : stOk st = 0
  · have := (right_of_ok h).lens
    have h2 := movesUp_le st st.2.2.length
    simp [h]; omega
  · simp [h]

end Go.Proofs.YtmjjigdnoiphbabDoor

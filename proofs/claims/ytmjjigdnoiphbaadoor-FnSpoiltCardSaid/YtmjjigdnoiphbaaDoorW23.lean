/-
  impl.Step.
-/
import Derived.Test.YtmjjigdnoiphbaaDoorW22
namespace Go.Proofs.YtmjjigdnoiphbaaDoor
open Go.RowKit Go.Deep
set_option linter.unusedVariables false

/-- Step -/
def stepF (st : St) (x : Int) : St :=
  bif decide (stOk st = 0) && (decide (nameIx st.2.2 x < st.2.2.length) && canB st (nameIx st.2.2 x)) then stepSt st (nameIx st.2.2 x) else ([], [], [])

def nilL : Lies where
  ra := none
  rc := 0
  ta := none
  tc := 0
  na := none
  nc := 0
  pa := fun _ => none
  pc := fun _ => 0

theorem nilL_F {n k : Nat} (h : nilL.F n k) : False := by
  rcases h with ⟨o, e⟩ | ⟨o, e⟩ | ⟨o, e⟩ | ⟨i, _, o, e⟩ <;> cases e

theorem nilL_own (w : World) : OwnS w nilL ([], [], []) :=
  ⟨fun i hi => absurd hi (Nat.not_lt_zero _), ⟨fun i hi => absurd hi (Nat.not_lt_zero _), fun i hi => absurd hi (Nat.not_lt_zero _), fun i k hi => absurd hi (Nat.not_lt_zero _), fun i j k hi => absurd hi (Nat.not_lt_zero _)⟩, fun i hi => absurd hi (Nat.not_lt_zero _), ⟨fun k e => absurd (Or.inl e : nilL.F 0 k) nilL_F, fun k e => absurd (Or.inr (Or.inl e) : nilL.F 0 k) nilL_F, fun k e => absurd (Or.inl e : nilL.F 0 k) nilL_F, fun k e => absurd e nilL_F⟩⟩

end Go.Proofs.YtmjjigdnoiphbaaDoor

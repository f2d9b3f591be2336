/-
  spec.Step.
-/
import Derived.Test.YtmjjigdnoiphbaaGreatDoorW26
namespace Go.Proofs.YtmjjigdnoiphbaaGreatDoor
open Go.RowKit Go.Deep
set_option linter.unusedVariables false

theorem RightSt.small {st : St} (h : RightSt st) : SmallSt st := by
  obtain ⟨l1, l2, l3, l4⟩ := h.lens
  exact ⟨by omega, by omega, by omega, fun i hi => by have := (h.train i hi).2.2.1; omega⟩

theorem l1step_any (v : Value) (st : St) (m : Nat) (w : World) (h : StateAt w v st) (hs : SmallSt st) (hm : m < st.2.1.length) (hn : st.2.2.length = st.2.1.length) :
    Calls Tryz.prog 32 #[v, .int .i64 m] w fun e w' => ∃ r, e = .returned r ∧ (∀ w'', Chg (fun q => q < w.heap.size) w' w'' → StateAt w'' r (stepSt st m)) ∧ Below w.heap.size w w' := by
  by_cases e : (tPath st.2.1 m).length = 0
  · exact l1step_out v st m w h hs hm hn e
  · exact l1step_go v st m w h hs hm hn e

theorem nilAt (w : World) : StateAt w (.agg #[.slice none 0 0, .slice none 0 0, .slice none 0 0]) ([], [], []) := (nilL_own w).at

end Go.Proofs.YtmjjigdnoiphbaaGreatDoor

/-
  No cell of these rows narrows 'for every input' (looked for: loops, veiled, ifaces, maps, wideKeys, modest, calm, conditions, laid).
  DERIVED. THE GIVEN ROWS OF THIS SEAT. 9 by the template 'for every input the law returns true; each argument reads behind the call as it read before'; 0 by the template 'total and deterministic' (their statements: YtmjjigdnoiphbaaTotals.lean).
  GIVEN WITH THE SEED: the statements are not yours to turn. If you find one false, say at which input.
  Laid BY PROGRAM, IN A SANDBOX (cutbox-rows.mjs): the forced cells as the released guide's own fill.sh prints them over the translation c4ab93d96dc14a71… (all of the seat's roots in one cut). By AI agents, Wed Nov 11 2026. No macro, syntax, notation, axiom, sorry.
-/
import Derived.Test.YtmjjigdnoiphbaaChecked
import GoSem.Claim
import GoSem.ClaimJoined
import GoSem.ClaimMapViews
import Derived.JoinedTies
import Derived.KernelRfl
namespace Go.Proofs.Ytmjjigdnoiphbaa
/- THE CELL 'sum', in the pinned program and in every row, IS THE sha256 OF THE DUMP (.gsa) THAT YtmjjigdnoiphbaaProg.lean LOADS. Nothing in Lean hashes anything: it is a label: what it is worth is what the hold of that sum in a sandbox is worth. -/
noncomputable def Try.pinned : Pinned := { name := "ytmjjigdnoiphbaa", sum := "c4ab93d96dc14a716d0861735d9df6e71e8a32f0f260408c5e6b12bbb255b2cb", checked := Try.checked }
namespace Rows
def none {H : Type} : Left H := { results := [], args := [] }

/-- 'laws.FnJust': WHATEVER THE INPUT: true; the input reads as it did. -/
def fnJustSpec : ChangeSpec := { name := "fnJust", fn := fun _ => fun
  | [d1, d2] => { results := [.lit (.bool true)], args := [d1, d2] }
  | _ => none }
def fnJustRow : OpenClaim := { program := "ytmjjigdnoiphbaa", sum := "c4ab93d96dc14a716d0861735d9df6e71e8a32f0f260408c5e6b12bbb255b2cb", func := "loop.example/regulator/laws.FnJust", spec := "fnJust", unfollowed := true, recurses := true, plainKeys := false, apart := false }
def FnJustSaid : Prop := fnJustRow.holds Try.pinned (OpenSpec.ofChange fnJustSpec)

/-- ITS FALSE NEIGHBOUR: 'it returns false'. Refute it at one input. -/
def fnJustWrong : ChangeSpec := { name := "fnJust", fn := fun _ => fun
  | [d1, d2] => { results := [.lit (.bool false)], args := [d1, d2] }
  | _ => none }
def FnJustWrongFalsely : Prop := fnJustRow.holds Try.pinned (OpenSpec.ofChange fnJustWrong)

/-- 'laws.FnBest': WHATEVER THE INPUT: true; the input reads as it did. -/
def fnBestSpec : ChangeSpec := { name := "fnBest", fn := fun _ => fun
  | [d1, d2] => { results := [.lit (.bool true)], args := [d1, d2] }
  | _ => none }
def fnBestRow : OpenClaim := { program := "ytmjjigdnoiphbaa", sum := "c4ab93d96dc14a716d0861735d9df6e71e8a32f0f260408c5e6b12bbb255b2cb", func := "loop.example/regulator/laws.FnBest", spec := "fnBest", unfollowed := true, recurses := true, plainKeys := false, apart := false }
def FnBestSaid : Prop := fnBestRow.holds Try.pinned (OpenSpec.ofChange fnBestSpec)

/-- ITS FALSE NEIGHBOUR: 'it returns false'. Refute it at one input. -/
def fnBestWrong : ChangeSpec := { name := "fnBest", fn := fun _ => fun
  | [d1, d2] => { results := [.lit (.bool false)], args := [d1, d2] }
  | _ => none }
def FnBestWrongFalsely : Prop := fnBestRow.holds Try.pinned (OpenSpec.ofChange fnBestWrong)

/-- 'laws.FnRing': WHATEVER THE INPUT: true; the input reads as it did. -/
def fnRingSpec : ChangeSpec := { name := "fnRing", fn := fun _ => fun
  | [d] => { results := [.lit (.bool true)], args := [d] }
  | _ => none }
def fnRingRow : OpenClaim := { program := "ytmjjigdnoiphbaa", sum := "c4ab93d96dc14a716d0861735d9df6e71e8a32f0f260408c5e6b12bbb255b2cb", func := "loop.example/regulator/laws.FnRing", spec := "fnRing", unfollowed := true, recurses := true, plainKeys := false, apart := false }
def FnRingSaid : Prop := fnRingRow.holds Try.pinned (OpenSpec.ofChange fnRingSpec)

/-- ITS FALSE NEIGHBOUR: 'it returns false'. Refute it at one input. -/
def fnRingWrong : ChangeSpec := { name := "fnRing", fn := fun _ => fun
  | [d] => { results := [.lit (.bool false)], args := [d] }
  | _ => none }
def FnRingWrongFalsely : Prop := fnRingRow.holds Try.pinned (OpenSpec.ofChange fnRingWrong)

/-- 'laws.FnMeet': WHATEVER THE INPUT: true; the input reads as it did. -/
def fnMeetSpec : ChangeSpec := { name := "fnMeet", fn := fun _ => fun
  | [d] => { results := [.lit (.bool true)], args := [d] }
  | _ => none }
def fnMeetRow : OpenClaim := { program := "ytmjjigdnoiphbaa", sum := "c4ab93d96dc14a716d0861735d9df6e71e8a32f0f260408c5e6b12bbb255b2cb", func := "loop.example/regulator/laws.FnMeet", spec := "fnMeet", unfollowed := true, recurses := true, plainKeys := false, apart := false }
def FnMeetSaid : Prop := fnMeetRow.holds Try.pinned (OpenSpec.ofChange fnMeetSpec)

/-- ITS FALSE NEIGHBOUR: 'it returns false'. Refute it at one input. -/
def fnMeetWrong : ChangeSpec := { name := "fnMeet", fn := fun _ => fun
  | [d] => { results := [.lit (.bool false)], args := [d] }
  | _ => none }
def FnMeetWrongFalsely : Prop := fnMeetRow.holds Try.pinned (OpenSpec.ofChange fnMeetWrong)

/-- 'laws.FnEasier': WHATEVER THE INPUT: true; the input reads as it did. -/
def fnEasierSpec : ChangeSpec := { name := "fnEasier", fn := fun _ => fun
  | [d1, d2] => { results := [.lit (.bool true)], args := [d1, d2] }
  | _ => none }
def fnEasierRow : OpenClaim := { program := "ytmjjigdnoiphbaa", sum := "c4ab93d96dc14a716d0861735d9df6e71e8a32f0f260408c5e6b12bbb255b2cb", func := "loop.example/regulator/laws.FnEasier", spec := "fnEasier", unfollowed := true, recurses := true, plainKeys := false, apart := false }
def FnEasierSaid : Prop := fnEasierRow.holds Try.pinned (OpenSpec.ofChange fnEasierSpec)

/-- ITS FALSE NEIGHBOUR: 'it returns false'. Refute it at one input. -/
def fnEasierWrong : ChangeSpec := { name := "fnEasier", fn := fun _ => fun
  | [d1, d2] => { results := [.lit (.bool false)], args := [d1, d2] }
  | _ => none }
def FnEasierWrongFalsely : Prop := fnEasierRow.holds Try.pinned (OpenSpec.ofChange fnEasierWrong)

/-- 'laws.FnExactStateOk': WHATEVER THE INPUT: true; the input reads as it did. -/
def fnExactStateOkSpec : ChangeSpec := { name := "fnExactStateOk", fn := fun _ => fun
  | [d] => { results := [.lit (.bool true)], args := [d] }
  | _ => none }
def fnExactStateOkRow : OpenClaim := { program := "ytmjjigdnoiphbaa", sum := "c4ab93d96dc14a716d0861735d9df6e71e8a32f0f260408c5e6b12bbb255b2cb", func := "loop.example/regulator/laws.FnExactStateOk", spec := "fnExactStateOk", plainKeys := false, apart := false }
def FnExactStateOkSaid : Prop := fnExactStateOkRow.holds Try.pinned (OpenSpec.ofChange fnExactStateOkSpec)

/-- ITS FALSE NEIGHBOUR: 'it returns false'. Refute it at one input. -/
def fnExactStateOkWrong : ChangeSpec := { name := "fnExactStateOk", fn := fun _ => fun
  | [d] => { results := [.lit (.bool false)], args := [d] }
  | _ => none }
def FnExactStateOkWrongFalsely : Prop := fnExactStateOkRow.holds Try.pinned (OpenSpec.ofChange fnExactStateOkWrong)

/-- 'laws.FnExactFree': WHATEVER THE INPUT: true; the input reads as it did. -/
def fnExactFreeSpec : ChangeSpec := { name := "fnExactFree", fn := fun _ => fun
  | [d1, d2] => { results := [.lit (.bool true)], args := [d1, d2] }
  | _ => none }
def fnExactFreeRow : OpenClaim := { program := "ytmjjigdnoiphbaa", sum := "c4ab93d96dc14a716d0861735d9df6e71e8a32f0f260408c5e6b12bbb255b2cb", func := "loop.example/regulator/laws.FnExactFree", spec := "fnExactFree", plainKeys := false, apart := false }
def FnExactFreeSaid : Prop := fnExactFreeRow.holds Try.pinned (OpenSpec.ofChange fnExactFreeSpec)

/-- ITS FALSE NEIGHBOUR: 'it returns false'. Refute it at one input. -/
def fnExactFreeWrong : ChangeSpec := { name := "fnExactFree", fn := fun _ => fun
  | [d1, d2] => { results := [.lit (.bool false)], args := [d1, d2] }
  | _ => none }
def FnExactFreeWrongFalsely : Prop := fnExactFreeRow.holds Try.pinned (OpenSpec.ofChange fnExactFreeWrong)

/-- 'laws.FnExactMoves': WHATEVER THE INPUT: true; the input reads as it did. -/
def fnExactMovesSpec : ChangeSpec := { name := "fnExactMoves", fn := fun _ => fun
  | [d] => { results := [.lit (.bool true)], args := [d] }
  | _ => none }
def fnExactMovesRow : OpenClaim := { program := "ytmjjigdnoiphbaa", sum := "c4ab93d96dc14a716d0861735d9df6e71e8a32f0f260408c5e6b12bbb255b2cb", func := "loop.example/regulator/laws.FnExactMoves", spec := "fnExactMoves", plainKeys := false, apart := false }
def FnExactMovesSaid : Prop := fnExactMovesRow.holds Try.pinned (OpenSpec.ofChange fnExactMovesSpec)

/-- ITS FALSE NEIGHBOUR: 'it returns false'. Refute it at one input. -/
def fnExactMovesWrong : ChangeSpec := { name := "fnExactMoves", fn := fun _ => fun
  | [d] => { results := [.lit (.bool false)], args := [d] }
  | _ => none }
def FnExactMovesWrongFalsely : Prop := fnExactMovesRow.holds Try.pinned (OpenSpec.ofChange fnExactMovesWrong)

/-- 'laws.FnExactStep': WHATEVER THE INPUT: true; the input reads as it did. -/
def fnExactStepSpec : ChangeSpec := { name := "fnExactStep", fn := fun _ => fun
  | [d1, d2] => { results := [.lit (.bool true)], args := [d1, d2] }
  | _ => none }
def fnExactStepRow : OpenClaim := { program := "ytmjjigdnoiphbaa", sum := "c4ab93d96dc14a716d0861735d9df6e71e8a32f0f260408c5e6b12bbb255b2cb", func := "loop.example/regulator/laws.FnExactStep", spec := "fnExactStep", plainKeys := false, apart := false }
def FnExactStepSaid : Prop := fnExactStepRow.holds Try.pinned (OpenSpec.ofChange fnExactStepSpec)

/-- ITS FALSE NEIGHBOUR: 'it returns false'. Refute it at one input. -/
def fnExactStepWrong : ChangeSpec := { name := "fnExactStep", fn := fun _ => fun
  | [d1, d2] => { results := [.lit (.bool false)], args := [d1, d2] }
  | _ => none }
def FnExactStepWrongFalsely : Prop := fnExactStepRow.holds Try.pinned (OpenSpec.ofChange fnExactStepWrong)

/- THE SECOND FORM. 'bulk': how many values and letters a reading holds, each counted each time it is reached (what is shared counts as often as it is met; a slice's spare places count too). A statement '..UptoSaid' is the law's where the arguments, and the package variables that the reading takes, are together of bulk at most 1048576: NARROWER than '..Said'. Prove '..Said' where nothing that the law and all that it calls make is longer than what came in: it says more and counts as full. Else prove '..UptoSaid'. A law counts once. -/
mutual
def uptoBulk {H : Type} : DataW H → Nat
  | .lit (.string bytes) => bytes.length + 1
  | .lit _ => 1
  | .nil => 1
  | .ptr d => uptoBulk d + 1
  | .slice elems spare => uptoBulkAll elems + uptoBulkAll spare + 1
  | .agg parts => uptoBulkAll parts + 1
  | .iface _ d => uptoBulk d + 1
  | .map entries => uptoBulkEntries entries + 1
  | .held _ => 1
def uptoBulkAll {H : Type} : List (DataW H) → Nat
  | [] => 0
  | d :: r => uptoBulk d + uptoBulkAll r
def uptoBulkEntries {H : Type} : List (Lit × DataW H) → Nat
  | [] => 0
  | x :: r => uptoBulkEntry x + uptoBulkEntries r
def uptoBulkEntry {H : Type} : Lit × DataW H → Nat
  | (.string bytes, d) => bytes.length + uptoBulk d + 1
  | (_, d) => uptoBulk d + 1
 end
def uptoSmall : (H : Type) → List (DataW H) → Bool := fun _ ds => decide (uptoBulkAll ds ≤ 1048576)
def OpenSpec.upto (s : _root_.Go.ChangeSpec) : _root_.Go.OpenSpec := { _root_.Go.OpenSpec.ofChange s with cond := some uptoSmall }

/-- 'laws.FnJust', WHERE WHAT IT READS IS OF BULK AT MOST 1048576: true; the input reads as it did. -/
def fnJustUptoRow : OpenClaim := { program := "ytmjjigdnoiphbaa", sum := "c4ab93d96dc14a716d0861735d9df6e71e8a32f0f260408c5e6b12bbb255b2cb", func := "loop.example/regulator/laws.FnJust", spec := "fnJust", unfollowed := true, recurses := true, plainKeys := false, apart := false, narrowed := true }
def FnJustUptoSaid : Prop := fnJustUptoRow.holds Try.pinned (OpenSpec.upto fnJustSpec)

/-- 'laws.FnBest', WHERE WHAT IT READS IS OF BULK AT MOST 1048576: true; the input reads as it did. -/
def fnBestUptoRow : OpenClaim := { program := "ytmjjigdnoiphbaa", sum := "c4ab93d96dc14a716d0861735d9df6e71e8a32f0f260408c5e6b12bbb255b2cb", func := "loop.example/regulator/laws.FnBest", spec := "fnBest", unfollowed := true, recurses := true, plainKeys := false, apart := false, narrowed := true }
def FnBestUptoSaid : Prop := fnBestUptoRow.holds Try.pinned (OpenSpec.upto fnBestSpec)

/-- 'laws.FnRing', WHERE WHAT IT READS IS OF BULK AT MOST 1048576: true; the input reads as it did. -/
def fnRingUptoRow : OpenClaim := { program := "ytmjjigdnoiphbaa", sum := "c4ab93d96dc14a716d0861735d9df6e71e8a32f0f260408c5e6b12bbb255b2cb", func := "loop.example/regulator/laws.FnRing", spec := "fnRing", unfollowed := true, recurses := true, plainKeys := false, apart := false, narrowed := true }
def FnRingUptoSaid : Prop := fnRingUptoRow.holds Try.pinned (OpenSpec.upto fnRingSpec)

/-- 'laws.FnMeet', WHERE WHAT IT READS IS OF BULK AT MOST 1048576: true; the input reads as it did. -/
def fnMeetUptoRow : OpenClaim := { program := "ytmjjigdnoiphbaa", sum := "c4ab93d96dc14a716d0861735d9df6e71e8a32f0f260408c5e6b12bbb255b2cb", func := "loop.example/regulator/laws.FnMeet", spec := "fnMeet", unfollowed := true, recurses := true, plainKeys := false, apart := false, narrowed := true }
def FnMeetUptoSaid : Prop := fnMeetUptoRow.holds Try.pinned (OpenSpec.upto fnMeetSpec)

/-- 'laws.FnEasier', WHERE WHAT IT READS IS OF BULK AT MOST 1048576: true; the input reads as it did. -/
def fnEasierUptoRow : OpenClaim := { program := "ytmjjigdnoiphbaa", sum := "c4ab93d96dc14a716d0861735d9df6e71e8a32f0f260408c5e6b12bbb255b2cb", func := "loop.example/regulator/laws.FnEasier", spec := "fnEasier", unfollowed := true, recurses := true, plainKeys := false, apart := false, narrowed := true }
def FnEasierUptoSaid : Prop := fnEasierUptoRow.holds Try.pinned (OpenSpec.upto fnEasierSpec)

/-- 'laws.FnExactStateOk', WHERE WHAT IT READS IS OF BULK AT MOST 1048576: true; the input reads as it did. -/
def fnExactStateOkUptoRow : OpenClaim := { program := "ytmjjigdnoiphbaa", sum := "c4ab93d96dc14a716d0861735d9df6e71e8a32f0f260408c5e6b12bbb255b2cb", func := "loop.example/regulator/laws.FnExactStateOk", spec := "fnExactStateOk", plainKeys := false, apart := false, narrowed := true }
def FnExactStateOkUptoSaid : Prop := fnExactStateOkUptoRow.holds Try.pinned (OpenSpec.upto fnExactStateOkSpec)

/-- 'laws.FnExactFree', WHERE WHAT IT READS IS OF BULK AT MOST 1048576: true; the input reads as it did. -/
def fnExactFreeUptoRow : OpenClaim := { program := "ytmjjigdnoiphbaa", sum := "c4ab93d96dc14a716d0861735d9df6e71e8a32f0f260408c5e6b12bbb255b2cb", func := "loop.example/regulator/laws.FnExactFree", spec := "fnExactFree", plainKeys := false, apart := false, narrowed := true }
def FnExactFreeUptoSaid : Prop := fnExactFreeUptoRow.holds Try.pinned (OpenSpec.upto fnExactFreeSpec)

/-- 'laws.FnExactMoves', WHERE WHAT IT READS IS OF BULK AT MOST 1048576: true; the input reads as it did. -/
def fnExactMovesUptoRow : OpenClaim := { program := "ytmjjigdnoiphbaa", sum := "c4ab93d96dc14a716d0861735d9df6e71e8a32f0f260408c5e6b12bbb255b2cb", func := "loop.example/regulator/laws.FnExactMoves", spec := "fnExactMoves", plainKeys := false, apart := false, narrowed := true }
def FnExactMovesUptoSaid : Prop := fnExactMovesUptoRow.holds Try.pinned (OpenSpec.upto fnExactMovesSpec)

/-- 'laws.FnExactStep', WHERE WHAT IT READS IS OF BULK AT MOST 1048576: true; the input reads as it did. -/
def fnExactStepUptoRow : OpenClaim := { program := "ytmjjigdnoiphbaa", sum := "c4ab93d96dc14a716d0861735d9df6e71e8a32f0f260408c5e6b12bbb255b2cb", func := "loop.example/regulator/laws.FnExactStep", spec := "fnExactStep", plainKeys := false, apart := false, narrowed := true }
def FnExactStepUptoSaid : Prop := fnExactStepUptoRow.holds Try.pinned (OpenSpec.upto fnExactStepSpec)

end Rows
end Go.Proofs.Ytmjjigdnoiphbaa

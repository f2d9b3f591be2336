/-
  DERIVED. GIVEN WITH THE SEED: THE CARDS: each row of YtmjjigdnoiphbaaGreatDoorRows.lean that lists a variable, with what it lists TIED to the program's text (the seventh form; the later family's looks); each row that meets fmt, with fmt's text TOLD by the authors' own Lean function (tested against real Go, not proved from fmt's source: count such statements apart). THE CARD IS WHAT COUNTS. Prove the row's statement (the work); the ties are given (YtmjjigdnoiphbaaGreatDoorTie.lean); close each card by the builder's one call (the guide's Derived/Test/ToyasCard.lean, 'card_holds'). Laid BY PROGRAM, IN A SANDBOX (cutbox-door.mjs). By AI agents, Wed Nov 11 2026. No macro, syntax, notation, axiom, sorry.
-/
import Derived.Test.YtmjjigdnoiphbaaGreatDoorRows
import GoSem.ClaimSeven
namespace Go.Proofs.YtmjjigdnoiphbaaGreatDoor
namespace Rows

/-- THE TIED CARD OF 'laws.FnNever'. -/
def fnNeverCard : Claim7 := { stood := { row := fnNeverRow, standIns := [], harness := (true, "05f52ca6bdadf33184f157e9d32601e732a2391dbff3d45640526cc01395b3c8"), looks := true }, kinds := [], alts := [], goes := true, laidByText := true, laidKinds := [.sentinel, .sentinel, .sentinel], laidTests := true, laidLooks := .later }
def FnNeverCardSaid : Prop := Claim7.holds Tryz.pinned (.plain (OpenSpec.ofChange fnNeverSpec)) fnNeverCard

/-- THE SECOND FORM's CARD OF 'laws.FnNever'. -/
def fnNeverUptoCard : Claim7 := { stood := { row := fnNeverUptoRow, standIns := [], harness := (true, "05f52ca6bdadf33184f157e9d32601e732a2391dbff3d45640526cc01395b3c8"), looks := true }, kinds := [], alts := [], goes := true, laidByText := true, laidKinds := [.sentinel, .sentinel, .sentinel], laidTests := true, laidLooks := .later }
def FnNeverUptoCardSaid : Prop := Claim7.holds Tryz.pinned (.plain (OpenSpec.upto fnNeverSpec)) fnNeverUptoCard
end Rows
end Go.Proofs.YtmjjigdnoiphbaaGreatDoor

/-
  DERIVED. GIVEN WITH THE SEED: THE CARDS: each row of YtbimkgmhfcgpmaaGreatDoorRows.lean that lists a variable, with what it lists TIED to the program's text (the seventh form; the later family's looks); each row that meets fmt, with fmt's text TOLD by the authors' own Lean function (tested against real Go, not proved from fmt's source: count such statements apart). THE CARD IS WHAT COUNTS. Prove the row's statement (the work); the ties are given (YtbimkgmhfcgpmaaGreatDoorTie.lean); close each card by the builder's one call (the guide's Derived/Test/ToyasCard.lean, 'card_holds'). Laid BY PROGRAM, IN A SANDBOX (cutbox-door.mjs). By AI agents, Wed Nov 11 2026. No macro, syntax, notation, axiom, sorry.
-/
import Derived.Test.YtbimkgmhfcgpmaaGreatDoorRows
import GoSem.ClaimSeven
namespace Go.Proofs.YtbimkgmhfcgpmaaGreatDoor
namespace Rows

/-- THE TIED CARD OF 'silolaw.Restores'. -/
def restoresCard : Claim7 := { stood := { row := restoresRow, standIns := [], harness := (true, "93d19442b6d7a4b9b4f444c04da2bea9762cbf044d307993eb2cfbc257e7f8af"), looks := true }, kinds := [], alts := [], laidByText := true, laidKinds := [.data, .data, .data, .data, .sentinel, .sentinel, .pinned], laidTests := true, laidLooks := .later }
def RestoresCardSaid : Prop := Claim7.holds Tryz.pinned (.plain (OpenSpec.ofChange restoresSpec)) restoresCard

/-- THE SECOND FORM's CARD OF 'silolaw.Restores'. -/
def restoresUptoCard : Claim7 := { stood := { row := restoresUptoRow, standIns := [], harness := (true, "93d19442b6d7a4b9b4f444c04da2bea9762cbf044d307993eb2cfbc257e7f8af"), looks := true }, kinds := [], alts := [], laidByText := true, laidKinds := [.data, .data, .data, .data, .sentinel, .sentinel, .pinned], laidTests := true, laidLooks := .later }
def RestoresUptoCardSaid : Prop := Claim7.holds Tryz.pinned (.plain (OpenSpec.upto restoresSpec)) restoresUptoCard
end Rows
end Go.Proofs.YtbimkgmhfcgpmaaGreatDoor

/-
  DERIVED. GIVEN WITH THE SEED: THE CARDS: each row of YtdfafhclhfijnaaGreatDoorRows.lean that lists a variable, with what it lists TIED to the program's text (the seventh form; the later family's looks); each row that meets fmt, with fmt's text TOLD by the authors' own Lean function (tested against real Go, not proved from fmt's source: count such statements apart). THE CARD IS WHAT COUNTS. Prove the row's statement (the work); the ties are given (YtdfafhclhfijnaaGreatDoorTie.lean); close each card by the builder's one call (the guide's Derived/Test/ToyasCard.lean, 'card_holds'). Laid BY PROGRAM, IN A SANDBOX (cutbox-door.mjs). By AI agents, Wed Nov 11 2026. No macro, syntax, notation, axiom, sorry.
-/
import Derived.Test.YtdfafhclhfijnaaGreatDoorRows
import GoSem.ClaimSeven
namespace Go.Proofs.YtdfafhclhfijnaaGreatDoor
namespace Rows

/-- THE TIED CARD OF 'contactslaw.Edits'. -/
def editsCard : Claim7 := { stood := { row := editsRow, standIns := [], harness := (true, "38461adc94858b1ed1a5400d8188755c46dca2350a34a658d83c62b3aa3d00f4"), looks := true }, kinds := [], alts := [], laidByText := true, laidKinds := [.handle], laidTests := true, laidLooks := .later }
def EditsCardSaid : Prop := Claim7.holds Tryz.pinned (.plain (OpenSpec.ofChange editsSpec)) editsCard

/-- THE SECOND FORM's CARD OF 'contactslaw.Edits'. -/
def editsUptoCard : Claim7 := { stood := { row := editsUptoRow, standIns := [], harness := (true, "38461adc94858b1ed1a5400d8188755c46dca2350a34a658d83c62b3aa3d00f4"), looks := true }, kinds := [], alts := [], laidByText := true, laidKinds := [.handle], laidTests := true, laidLooks := .later }
def EditsUptoCardSaid : Prop := Claim7.holds Tryz.pinned (.plain (OpenSpec.upto editsSpec)) editsUptoCard
end Rows
end Go.Proofs.YtdfafhclhfijnaaGreatDoor

/-
  DERIVED. GIVEN WITH THE SEED: THE CARDS: each row of YtjhlijobdihplaaGreatDoorRows.lean that lists a variable, with what it lists TIED to the program's text (the seventh form; the later family's looks); each row that meets fmt, with fmt's text TOLD by the authors' own Lean function (tested against real Go, not proved from fmt's source: count such statements apart). THE CARD IS WHAT COUNTS. Prove the row's statement (the work); the ties are given (YtjhlijobdihplaaGreatDoorTie.lean); close each card by the builder's one call (the guide's Derived/Test/ToyasCard.lean, 'card_holds'). Laid BY PROGRAM, IN A SANDBOX (cutbox-door.mjs). By AI agents, Wed Nov 11 2026. No macro, syntax, notation, axiom, sorry.
-/
import Derived.Test.YtjhlijobdihplaaGreatDoorRows
import GoSem.ClaimSeven
namespace Go.Proofs.YtjhlijobdihplaaGreatDoor
namespace Rows

/-- THE TIED CARD OF 'contactslaw.Edits'. -/
def editsCard : Claim7 := { stood := { row := editsRow, standIns := [], harness := (true, "9f33e750574a4ee19c131bfd40a585e67bac3e929c581807a4de96117075145f"), looks := true }, kinds := [], alts := [], laidByText := true, laidKinds := [.data, .data, .data, .handle], laidTests := true, laidLooks := .later }
def EditsCardSaid : Prop := Claim7.holds Tryz.pinned (.plain (OpenSpec.ofChange editsSpec)) editsCard

/-- THE TIED CARD OF 'contactslaw.Books'. -/
def booksCard : Claim7 := { stood := { row := booksRow, standIns := [], harness := (true, "9f33e750574a4ee19c131bfd40a585e67bac3e929c581807a4de96117075145f"), looks := true }, kinds := [], alts := [], laidByText := true, laidKinds := [.data, .data, .data, .handle], laidTests := true, laidLooks := .later }
def BooksCardSaid : Prop := Claim7.holds Tryz.pinned (.plain (OpenSpec.ofChange booksSpec)) booksCard

/-- THE TIED CARD OF 'contactslaw.Sessions'. -/
def sessionsCard : Claim7 := { stood := { row := sessionsRow, standIns := [], harness := (true, "9f33e750574a4ee19c131bfd40a585e67bac3e929c581807a4de96117075145f"), looks := true }, kinds := [], alts := [], laidByText := true, laidKinds := [.data, .data, .data, .handle], laidTests := true, laidLooks := .later }
def SessionsCardSaid : Prop := Claim7.holds Tryz.pinned (.plain (OpenSpec.ofChange sessionsSpec)) sessionsCard

/-- THE SECOND FORM's CARD OF 'contactslaw.Edits'. -/
def editsUptoCard : Claim7 := { stood := { row := editsUptoRow, standIns := [], harness := (true, "9f33e750574a4ee19c131bfd40a585e67bac3e929c581807a4de96117075145f"), looks := true }, kinds := [], alts := [], laidByText := true, laidKinds := [.data, .data, .data, .handle], laidTests := true, laidLooks := .later }
def EditsUptoCardSaid : Prop := Claim7.holds Tryz.pinned (.plain (OpenSpec.upto editsSpec)) editsUptoCard

/-- THE SECOND FORM's CARD OF 'contactslaw.Books'. -/
def booksUptoCard : Claim7 := { stood := { row := booksUptoRow, standIns := [], harness := (true, "9f33e750574a4ee19c131bfd40a585e67bac3e929c581807a4de96117075145f"), looks := true }, kinds := [], alts := [], laidByText := true, laidKinds := [.data, .data, .data, .handle], laidTests := true, laidLooks := .later }
def BooksUptoCardSaid : Prop := Claim7.holds Tryz.pinned (.plain (OpenSpec.upto booksSpec)) booksUptoCard

/-- THE SECOND FORM's CARD OF 'contactslaw.Sessions'. -/
def sessionsUptoCard : Claim7 := { stood := { row := sessionsUptoRow, standIns := [], harness := (true, "9f33e750574a4ee19c131bfd40a585e67bac3e929c581807a4de96117075145f"), looks := true }, kinds := [], alts := [], laidByText := true, laidKinds := [.data, .data, .data, .handle], laidTests := true, laidLooks := .later }
def SessionsUptoCardSaid : Prop := Claim7.holds Tryz.pinned (.plain (OpenSpec.upto sessionsSpec)) sessionsUptoCard
end Rows
end Go.Proofs.YtjhlijobdihplaaGreatDoor

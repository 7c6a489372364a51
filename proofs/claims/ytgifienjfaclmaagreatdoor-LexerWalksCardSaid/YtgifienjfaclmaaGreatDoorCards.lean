/-
  DERIVED. GIVEN WITH THE SEED: THE CARDS: each row of YtgifienjfaclmaaGreatDoorRows.lean that lists a variable, with what it lists TIED to the program's text (the seventh form; the later family's looks); each row that meets fmt, with fmt's text TOLD by the authors' own Lean function (tested against real Go, not proved from fmt's source: count such statements apart). THE CARD IS WHAT COUNTS. Prove the row's statement (the work); the ties are given (YtgifienjfaclmaaGreatDoorTie.lean); close each card by the builder's one call (the guide's Derived/Test/ToyasCard.lean, 'card_holds'). Laid BY PROGRAM, IN A SANDBOX (cutbox-door.mjs). By AI agents, Wed Nov 11 2026. No macro, syntax, notation, axiom, sorry.
-/
import Derived.Test.YtgifienjfaclmaaGreatDoorRows
import GoSem.ClaimSeven
namespace Go.Proofs.YtgifienjfaclmaaGreatDoor
namespace Rows

/-- THE TIED CARD OF 'roboticslaw06.LexerWalks'. -/
def lexerWalksCard : Claim7 := { stood := { row := lexerWalksRow, standIns := [], harness := (true, "37e7411a31f23b5dacdd9ea4c71cfd696ce893448e96dc6d5e3ab54a5589539e"), looks := true }, kinds := [], alts := [], laidByText := true, laidKinds := [.data, .data, .data, .data, .sentinel, .sentinel, .pinned], laidTests := true, laidLooks := .later }
def LexerWalksCardSaid : Prop := Claim7.holds Tryz.pinned (.plain (OpenSpec.ofChange lexerWalksSpec)) lexerWalksCard

/-- THE SECOND FORM's CARD OF 'roboticslaw06.LexerWalks'. -/
def lexerWalksUptoCard : Claim7 := { stood := { row := lexerWalksUptoRow, standIns := [], harness := (true, "37e7411a31f23b5dacdd9ea4c71cfd696ce893448e96dc6d5e3ab54a5589539e"), looks := true }, kinds := [], alts := [], laidByText := true, laidKinds := [.data, .data, .data, .data, .sentinel, .sentinel, .pinned], laidTests := true, laidLooks := .later }
def LexerWalksUptoCardSaid : Prop := Claim7.holds Tryz.pinned (.plain (OpenSpec.upto lexerWalksSpec)) lexerWalksUptoCard
end Rows
end Go.Proofs.YtgifienjfaclmaaGreatDoor

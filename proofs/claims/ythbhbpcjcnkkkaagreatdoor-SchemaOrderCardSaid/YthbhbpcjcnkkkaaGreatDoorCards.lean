/-
  DERIVED. GIVEN WITH THE SEED: THE CARDS: each row of YthbhbpcjcnkkkaaGreatDoorRows.lean that lists a variable, with what it lists TIED to the program's text (the seventh form; the later family's looks); each row that meets fmt, with fmt's text TOLD by the authors' own Lean function (tested against real Go, not proved from fmt's source: count such statements apart). THE CARD IS WHAT COUNTS. Prove the row's statement (the work); the ties are given (YthbhbpcjcnkkkaaGreatDoorTie.lean); close each card by the builder's one call (the guide's Derived/Test/ToyasCard.lean, 'card_holds'). Laid BY PROGRAM, IN A SANDBOX (cutbox-door.mjs). By AI agents, Wed Nov 11 2026. No macro, syntax, notation, axiom, sorry.
-/
import Derived.Test.YthbhbpcjcnkkkaaGreatDoorRows
import GoSem.ClaimSeven
namespace Go.Proofs.YthbhbpcjcnkkkaaGreatDoor
namespace Rows

/-- THE TIED CARD OF 'roboticslaw07.SchemaChecks'. -/
def schemaChecksCard : Claim7 := { stood := { row := schemaChecksRow, standIns := [], harness := (true, "4cabf84099d24e34010255c6ea3d4669874a195d7bf210685a951b0bbd838356"), looks := true }, kinds := [], alts := [], laidByText := true, laidKinds := [.data, .data, .data, .data, .sentinel, .sentinel, .pinned], laidTests := true, laidLooks := .later }
def SchemaChecksCardSaid : Prop := Claim7.holds Tryz.pinned (.plain (OpenSpec.ofChange schemaChecksSpec)) schemaChecksCard

/-- THE TIED CARD OF 'roboticslaw07.SchemaFinds'. -/
def schemaFindsCard : Claim7 := { stood := { row := schemaFindsRow, standIns := [], harness := (true, "4cabf84099d24e34010255c6ea3d4669874a195d7bf210685a951b0bbd838356"), looks := true }, kinds := [], alts := [], laidByText := true, laidKinds := [.data, .data, .data, .data, .sentinel, .sentinel, .pinned], laidTests := true, laidLooks := .later }
def SchemaFindsCardSaid : Prop := Claim7.holds Tryz.pinned (.plain (OpenSpec.ofChange schemaFindsSpec)) schemaFindsCard

/-- THE TIED CARD OF 'roboticslaw07.SchemaNests'. -/
def schemaNestsCard : Claim7 := { stood := { row := schemaNestsRow, standIns := [], harness := (true, "4cabf84099d24e34010255c6ea3d4669874a195d7bf210685a951b0bbd838356"), looks := true }, kinds := [], alts := [], laidByText := true, laidKinds := [.data, .data, .data, .data, .sentinel, .sentinel, .pinned], laidTests := true, laidLooks := .later }
def SchemaNestsCardSaid : Prop := Claim7.holds Tryz.pinned (.plain (OpenSpec.ofChange schemaNestsSpec)) schemaNestsCard

/-- THE TIED CARD OF 'roboticslaw07.SchemaCloses'. -/
def schemaClosesCard : Claim7 := { stood := { row := schemaClosesRow, standIns := [], harness := (true, "4cabf84099d24e34010255c6ea3d4669874a195d7bf210685a951b0bbd838356"), looks := true }, kinds := [], alts := [], laidByText := true, laidKinds := [.data, .data, .data, .data, .sentinel, .sentinel, .pinned], laidTests := true, laidLooks := .later }
def SchemaClosesCardSaid : Prop := Claim7.holds Tryz.pinned (.plain (OpenSpec.ofChange schemaClosesSpec)) schemaClosesCard

/-- THE TIED CARD OF 'roboticslaw07.SchemaDigests'. -/
def schemaDigestsCard : Claim7 := { stood := { row := schemaDigestsRow, standIns := [], harness := (true, "4cabf84099d24e34010255c6ea3d4669874a195d7bf210685a951b0bbd838356"), looks := true }, kinds := [], alts := [], laidByText := true, laidKinds := [.data, .data, .data, .data, .sentinel, .sentinel, .pinned], laidTests := true, laidLooks := .later }
def SchemaDigestsCardSaid : Prop := Claim7.holds Tryz.pinned (.plain (OpenSpec.ofChange schemaDigestsSpec)) schemaDigestsCard

/-- THE TIED CARD OF 'roboticslaw07.SchemaOrder'. -/
def schemaOrderCard : Claim7 := { stood := { row := schemaOrderRow, standIns := [], harness := (true, "4cabf84099d24e34010255c6ea3d4669874a195d7bf210685a951b0bbd838356"), looks := true }, kinds := [], alts := [], laidByText := true, laidKinds := [.data, .data, .data, .data, .sentinel, .sentinel, .pinned], laidTests := true, laidLooks := .later }
def SchemaOrderCardSaid : Prop := Claim7.holds Tryz.pinned (.plain (OpenSpec.ofChange schemaOrderSpec)) schemaOrderCard

/-- THE SECOND FORM's CARD OF 'roboticslaw07.SchemaChecks'. -/
def schemaChecksUptoCard : Claim7 := { stood := { row := schemaChecksUptoRow, standIns := [], harness := (true, "4cabf84099d24e34010255c6ea3d4669874a195d7bf210685a951b0bbd838356"), looks := true }, kinds := [], alts := [], laidByText := true, laidKinds := [.data, .data, .data, .data, .sentinel, .sentinel, .pinned], laidTests := true, laidLooks := .later }
def SchemaChecksUptoCardSaid : Prop := Claim7.holds Tryz.pinned (.plain (OpenSpec.upto schemaChecksSpec)) schemaChecksUptoCard

/-- THE SECOND FORM's CARD OF 'roboticslaw07.SchemaFinds'. -/
def schemaFindsUptoCard : Claim7 := { stood := { row := schemaFindsUptoRow, standIns := [], harness := (true, "4cabf84099d24e34010255c6ea3d4669874a195d7bf210685a951b0bbd838356"), looks := true }, kinds := [], alts := [], laidByText := true, laidKinds := [.data, .data, .data, .data, .sentinel, .sentinel, .pinned], laidTests := true, laidLooks := .later }
def SchemaFindsUptoCardSaid : Prop := Claim7.holds Tryz.pinned (.plain (OpenSpec.upto schemaFindsSpec)) schemaFindsUptoCard

/-- THE SECOND FORM's CARD OF 'roboticslaw07.SchemaNests'. -/
def schemaNestsUptoCard : Claim7 := { stood := { row := schemaNestsUptoRow, standIns := [], harness := (true, "4cabf84099d24e34010255c6ea3d4669874a195d7bf210685a951b0bbd838356"), looks := true }, kinds := [], alts := [], laidByText := true, laidKinds := [.data, .data, .data, .data, .sentinel, .sentinel, .pinned], laidTests := true, laidLooks := .later }
def SchemaNestsUptoCardSaid : Prop := Claim7.holds Tryz.pinned (.plain (OpenSpec.upto schemaNestsSpec)) schemaNestsUptoCard

/-- THE SECOND FORM's CARD OF 'roboticslaw07.SchemaCloses'. -/
def schemaClosesUptoCard : Claim7 := { stood := { row := schemaClosesUptoRow, standIns := [], harness := (true, "4cabf84099d24e34010255c6ea3d4669874a195d7bf210685a951b0bbd838356"), looks := true }, kinds := [], alts := [], laidByText := true, laidKinds := [.data, .data, .data, .data, .sentinel, .sentinel, .pinned], laidTests := true, laidLooks := .later }
def SchemaClosesUptoCardSaid : Prop := Claim7.holds Tryz.pinned (.plain (OpenSpec.upto schemaClosesSpec)) schemaClosesUptoCard

/-- THE SECOND FORM's CARD OF 'roboticslaw07.SchemaDigests'. -/
def schemaDigestsUptoCard : Claim7 := { stood := { row := schemaDigestsUptoRow, standIns := [], harness := (true, "4cabf84099d24e34010255c6ea3d4669874a195d7bf210685a951b0bbd838356"), looks := true }, kinds := [], alts := [], laidByText := true, laidKinds := [.data, .data, .data, .data, .sentinel, .sentinel, .pinned], laidTests := true, laidLooks := .later }
def SchemaDigestsUptoCardSaid : Prop := Claim7.holds Tryz.pinned (.plain (OpenSpec.upto schemaDigestsSpec)) schemaDigestsUptoCard

/-- THE SECOND FORM's CARD OF 'roboticslaw07.SchemaOrder'. -/
def schemaOrderUptoCard : Claim7 := { stood := { row := schemaOrderUptoRow, standIns := [], harness := (true, "4cabf84099d24e34010255c6ea3d4669874a195d7bf210685a951b0bbd838356"), looks := true }, kinds := [], alts := [], laidByText := true, laidKinds := [.data, .data, .data, .data, .sentinel, .sentinel, .pinned], laidTests := true, laidLooks := .later }
def SchemaOrderUptoCardSaid : Prop := Claim7.holds Tryz.pinned (.plain (OpenSpec.upto schemaOrderSpec)) schemaOrderUptoCard
end Rows
end Go.Proofs.YthbhbpcjcnkkkaaGreatDoor

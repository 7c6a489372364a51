/-
  DERIVED. GIVEN WITH THE SEED: THE CARDS: each row of YtjfehdkfogdpgaaDoorRows.lean that lists a variable, with what it lists TIED to the program's text (the seventh form; the later family's looks); each row that meets fmt, with fmt's text TOLD by the authors' own Lean function (tested against real Go, not proved from fmt's source: count such statements apart). THE CARD IS WHAT COUNTS. Prove the row's statement (the work); the ties are given (YtjfehdkfogdpgaaDoorTie.lean); close each card by the builder's one call (the guide's Derived/Test/ToyasCard.lean, 'card_holds'). Laid BY PROGRAM, IN A SANDBOX (cutbox-door.mjs). By AI agents, Wed Nov 11 2026. No macro, syntax, notation, axiom, sorry.
-/
import Derived.Test.YtjfehdkfogdpgaaDoorRows
import GoSem.ClaimSeven
namespace Go.Proofs.YtjfehdkfogdpgaaDoor
namespace Rows

/-- THE TIED CARD OF 'roboticslaw02.FractionMakes'. -/
def fractionMakesCard : Claim7 := { stood := { row := fractionMakesRow, standIns := [], harness := (true, "428520cfc8c758f6fde9c7187defc164a5f9d48dfea1a7e7b7af18e8e722a290"), looks := false }, kinds := [], alts := [], laidByText := true, laidKinds := [.data, .pinned], laidTests := true, laidLooks := .later }
def FractionMakesCardSaid : Prop := Claim7.holds Tryd.pinned (.plain (OpenSpec.ofChange fractionMakesSpec)) fractionMakesCard

/-- THE TIED CARD OF 'roboticslaw02.FractionValid'. -/
def fractionValidCard : Claim7 := { stood := { row := fractionValidRow, standIns := [], harness := (true, "428520cfc8c758f6fde9c7187defc164a5f9d48dfea1a7e7b7af18e8e722a290"), looks := false }, kinds := [], alts := [], laidByText := true, laidKinds := [.data, .pinned], laidTests := true, laidLooks := .later }
def FractionValidCardSaid : Prop := Claim7.holds Tryd.pinned (.plain (OpenSpec.ofChange fractionValidSpec)) fractionValidCard

/-- THE TIED CARD OF 'roboticslaw02.FractionOrders'. -/
def fractionOrdersCard : Claim7 := { stood := { row := fractionOrdersRow, standIns := [], harness := (true, "428520cfc8c758f6fde9c7187defc164a5f9d48dfea1a7e7b7af18e8e722a290"), looks := false }, kinds := [], alts := [], laidByText := true, laidKinds := [.data, .pinned], laidTests := true, laidLooks := .later }
def FractionOrdersCardSaid : Prop := Claim7.holds Tryd.pinned (.plain (OpenSpec.ofChange fractionOrdersSpec)) fractionOrdersCard

/-- THE SECOND FORM's CARD OF 'roboticslaw02.FractionMakes'. -/
def fractionMakesUptoCard : Claim7 := { stood := { row := fractionMakesUptoRow, standIns := [], harness := (true, "428520cfc8c758f6fde9c7187defc164a5f9d48dfea1a7e7b7af18e8e722a290"), looks := false }, kinds := [], alts := [], laidByText := true, laidKinds := [.data, .pinned], laidTests := true, laidLooks := .later }
def FractionMakesUptoCardSaid : Prop := Claim7.holds Tryd.pinned (.plain (OpenSpec.upto fractionMakesSpec)) fractionMakesUptoCard

/-- THE SECOND FORM's CARD OF 'roboticslaw02.FractionValid'. -/
def fractionValidUptoCard : Claim7 := { stood := { row := fractionValidUptoRow, standIns := [], harness := (true, "428520cfc8c758f6fde9c7187defc164a5f9d48dfea1a7e7b7af18e8e722a290"), looks := false }, kinds := [], alts := [], laidByText := true, laidKinds := [.data, .pinned], laidTests := true, laidLooks := .later }
def FractionValidUptoCardSaid : Prop := Claim7.holds Tryd.pinned (.plain (OpenSpec.upto fractionValidSpec)) fractionValidUptoCard

/-- THE SECOND FORM's CARD OF 'roboticslaw02.FractionOrders'. -/
def fractionOrdersUptoCard : Claim7 := { stood := { row := fractionOrdersUptoRow, standIns := [], harness := (true, "428520cfc8c758f6fde9c7187defc164a5f9d48dfea1a7e7b7af18e8e722a290"), looks := false }, kinds := [], alts := [], laidByText := true, laidKinds := [.data, .pinned], laidTests := true, laidLooks := .later }
def FractionOrdersUptoCardSaid : Prop := Claim7.holds Tryd.pinned (.plain (OpenSpec.upto fractionOrdersSpec)) fractionOrdersUptoCard
end Rows
end Go.Proofs.YtjfehdkfogdpgaaDoor

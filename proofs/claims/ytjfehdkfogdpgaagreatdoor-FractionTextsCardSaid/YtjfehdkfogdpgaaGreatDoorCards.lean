/-
  DERIVED. GIVEN WITH THE SEED: THE CARDS: each row of YtjfehdkfogdpgaaGreatDoorRows.lean that lists a variable, with what it lists TIED to the program's text (the seventh form; the later family's looks); each row that meets fmt, with fmt's text TOLD by the authors' own Lean function (tested against real Go, not proved from fmt's source: count such statements apart). THE CARD IS WHAT COUNTS. Prove the row's statement (the work); the ties are given (YtjfehdkfogdpgaaGreatDoorTie.lean); close each card by the builder's one call (the guide's Derived/Test/ToyasCard.lean, 'card_holds'). Laid BY PROGRAM, IN A SANDBOX (cutbox-door.mjs). By AI agents, Wed Nov 11 2026. No macro, syntax, notation, axiom, sorry.
-/
import Derived.Test.YtjfehdkfogdpgaaGreatDoorRows
import GoSem.ClaimSeven
namespace Go.Proofs.YtjfehdkfogdpgaaGreatDoor
namespace Rows

/-- THE TIED CARD OF 'roboticslaw02.FractionField'. -/
def fractionFieldCard : Claim7 := { stood := { row := fractionFieldRow, standIns := [], harness := (true, "33eb5802ca5d853d263c72618fd648d60c96914e4d0a49e235c8b6d4eff8fccc"), looks := false }, kinds := [], alts := [], laidByText := true, laidKinds := [.data, .pinned], laidTests := true, laidLooks := .later }
def FractionFieldCardSaid : Prop := Claim7.holds Tryz.pinned (.plain (OpenSpec.ofChange fractionFieldSpec)) fractionFieldCard

/-- THE TIED CARD OF 'roboticslaw02.FractionComputes'. -/
def fractionComputesCard : Claim7 := { stood := { row := fractionComputesRow, standIns := [], harness := (true, "33eb5802ca5d853d263c72618fd648d60c96914e4d0a49e235c8b6d4eff8fccc"), looks := false }, kinds := [], alts := [], laidByText := true, laidKinds := [.data, .pinned], laidTests := true, laidLooks := .later }
def FractionComputesCardSaid : Prop := Claim7.holds Tryz.pinned (.plain (OpenSpec.ofChange fractionComputesSpec)) fractionComputesCard

/-- THE TIED CARD OF 'roboticslaw02.FractionFloors'. -/
def fractionFloorsCard : Claim7 := { stood := { row := fractionFloorsRow, standIns := [], harness := (true, "33eb5802ca5d853d263c72618fd648d60c96914e4d0a49e235c8b6d4eff8fccc"), looks := false }, kinds := [], alts := [], laidByText := true, laidKinds := [.data, .pinned], laidTests := true, laidLooks := .later }
def FractionFloorsCardSaid : Prop := Claim7.holds Tryz.pinned (.plain (OpenSpec.ofChange fractionFloorsSpec)) fractionFloorsCard

/-- THE TIED CARD OF 'roboticslaw02.FractionLerps'. -/
def fractionLerpsCard : Claim7 := { stood := { row := fractionLerpsRow, standIns := [], harness := (true, "33eb5802ca5d853d263c72618fd648d60c96914e4d0a49e235c8b6d4eff8fccc"), looks := false }, kinds := [], alts := [], laidByText := true, laidKinds := [.data, .pinned], laidTests := true, laidLooks := .later }
def FractionLerpsCardSaid : Prop := Claim7.holds Tryz.pinned (.plain (OpenSpec.ofChange fractionLerpsSpec)) fractionLerpsCard

/-- THE TIED CARD OF 'roboticslaw02.FractionTexts'. -/
def fractionTextsCard : Claim7 := { stood := { row := fractionTextsRow, standIns := [], harness := (true, "33eb5802ca5d853d263c72618fd648d60c96914e4d0a49e235c8b6d4eff8fccc"), looks := false }, kinds := [], alts := [], laidByText := true, laidKinds := [.data, .pinned], laidTests := true, laidLooks := .later }
def FractionTextsCardSaid : Prop := Claim7.holds Tryz.pinned (.plain (OpenSpec.ofChange fractionTextsSpec)) fractionTextsCard

/-- THE SECOND FORM's CARD OF 'roboticslaw02.FractionField'. -/
def fractionFieldUptoCard : Claim7 := { stood := { row := fractionFieldUptoRow, standIns := [], harness := (true, "33eb5802ca5d853d263c72618fd648d60c96914e4d0a49e235c8b6d4eff8fccc"), looks := false }, kinds := [], alts := [], laidByText := true, laidKinds := [.data, .pinned], laidTests := true, laidLooks := .later }
def FractionFieldUptoCardSaid : Prop := Claim7.holds Tryz.pinned (.plain (OpenSpec.upto fractionFieldSpec)) fractionFieldUptoCard

/-- THE SECOND FORM's CARD OF 'roboticslaw02.FractionComputes'. -/
def fractionComputesUptoCard : Claim7 := { stood := { row := fractionComputesUptoRow, standIns := [], harness := (true, "33eb5802ca5d853d263c72618fd648d60c96914e4d0a49e235c8b6d4eff8fccc"), looks := false }, kinds := [], alts := [], laidByText := true, laidKinds := [.data, .pinned], laidTests := true, laidLooks := .later }
def FractionComputesUptoCardSaid : Prop := Claim7.holds Tryz.pinned (.plain (OpenSpec.upto fractionComputesSpec)) fractionComputesUptoCard

/-- THE SECOND FORM's CARD OF 'roboticslaw02.FractionFloors'. -/
def fractionFloorsUptoCard : Claim7 := { stood := { row := fractionFloorsUptoRow, standIns := [], harness := (true, "33eb5802ca5d853d263c72618fd648d60c96914e4d0a49e235c8b6d4eff8fccc"), looks := false }, kinds := [], alts := [], laidByText := true, laidKinds := [.data, .pinned], laidTests := true, laidLooks := .later }
def FractionFloorsUptoCardSaid : Prop := Claim7.holds Tryz.pinned (.plain (OpenSpec.upto fractionFloorsSpec)) fractionFloorsUptoCard

/-- THE SECOND FORM's CARD OF 'roboticslaw02.FractionLerps'. -/
def fractionLerpsUptoCard : Claim7 := { stood := { row := fractionLerpsUptoRow, standIns := [], harness := (true, "33eb5802ca5d853d263c72618fd648d60c96914e4d0a49e235c8b6d4eff8fccc"), looks := false }, kinds := [], alts := [], laidByText := true, laidKinds := [.data, .pinned], laidTests := true, laidLooks := .later }
def FractionLerpsUptoCardSaid : Prop := Claim7.holds Tryz.pinned (.plain (OpenSpec.upto fractionLerpsSpec)) fractionLerpsUptoCard

/-- THE SECOND FORM's CARD OF 'roboticslaw02.FractionTexts'. -/
def fractionTextsUptoCard : Claim7 := { stood := { row := fractionTextsUptoRow, standIns := [], harness := (true, "33eb5802ca5d853d263c72618fd648d60c96914e4d0a49e235c8b6d4eff8fccc"), looks := false }, kinds := [], alts := [], laidByText := true, laidKinds := [.data, .pinned], laidTests := true, laidLooks := .later }
def FractionTextsUptoCardSaid : Prop := Claim7.holds Tryz.pinned (.plain (OpenSpec.upto fractionTextsSpec)) fractionTextsUptoCard
end Rows
end Go.Proofs.YtjfehdkfogdpgaaGreatDoor

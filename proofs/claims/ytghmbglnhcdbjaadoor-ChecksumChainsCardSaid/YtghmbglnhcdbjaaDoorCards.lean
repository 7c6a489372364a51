/-
  DERIVED. GIVEN WITH THE SEED: THE CARDS: each row of YtghmbglnhcdbjaaDoorRows.lean that lists a variable, with what it lists TIED to the program's text (the seventh form; the later family's looks); each row that meets fmt, with fmt's text TOLD by the authors' own Lean function (tested against real Go, not proved from fmt's source: count such statements apart). THE CARD IS WHAT COUNTS. Prove the row's statement (the work); the ties are given (YtghmbglnhcdbjaaDoorTie.lean); close each card by the builder's one call (the guide's Derived/Test/ToyasCard.lean, 'card_holds'). Laid BY PROGRAM, IN A SANDBOX (cutbox-door.mjs). By AI agents, Wed Nov 11 2026. No macro, syntax, notation, axiom, sorry.
-/
import Derived.Test.YtghmbglnhcdbjaaDoorRows
import GoSem.ClaimSeven
namespace Go.Proofs.YtghmbglnhcdbjaaDoor
namespace Rows

/-- THE TIED CARD OF 'roboticslaw05.ChecksumCrcs'. -/
def checksumCrcsCard : Claim7 := { stood := { row := checksumCrcsRow, standIns := [], harness := (true, "732990a23d81027f41f99d85be3bd53f39c7527f8b09c3d59108890e96266a39"), looks := false }, kinds := [], alts := [], laidByText := true, laidKinds := [.data, .pinned], laidTests := true, laidLooks := .later }
def ChecksumCrcsCardSaid : Prop := Claim7.holds Tryd.pinned (.plain (OpenSpec.ofChange checksumCrcsSpec)) checksumCrcsCard

/-- THE TIED CARD OF 'roboticslaw05.ChecksumHashes'. -/
def checksumHashesCard : Claim7 := { stood := { row := checksumHashesRow, standIns := [], harness := (true, "732990a23d81027f41f99d85be3bd53f39c7527f8b09c3d59108890e96266a39"), looks := false }, kinds := [], alts := [], laidByText := true, laidKinds := [.data, .pinned], laidTests := true, laidLooks := .later }
def ChecksumHashesCardSaid : Prop := Claim7.holds Tryd.pinned (.plain (OpenSpec.ofChange checksumHashesSpec)) checksumHashesCard

/-- THE TIED CARD OF 'roboticslaw05.ChecksumSeals'. -/
def checksumSealsCard : Claim7 := { stood := { row := checksumSealsRow, standIns := [], harness := (true, "732990a23d81027f41f99d85be3bd53f39c7527f8b09c3d59108890e96266a39"), looks := false }, kinds := [], alts := [], laidByText := true, laidKinds := [.data, .pinned], laidTests := true, laidLooks := .later }
def ChecksumSealsCardSaid : Prop := Claim7.holds Tryd.pinned (.plain (OpenSpec.ofChange checksumSealsSpec)) checksumSealsCard

/-- THE TIED CARD OF 'roboticslaw05.ChecksumBursts'. -/
def checksumBurstsCard : Claim7 := { stood := { row := checksumBurstsRow, standIns := [], harness := (true, "732990a23d81027f41f99d85be3bd53f39c7527f8b09c3d59108890e96266a39"), looks := false }, kinds := [], alts := [], laidByText := true, laidKinds := [.data, .pinned], laidTests := true, laidLooks := .later }
def ChecksumBurstsCardSaid : Prop := Claim7.holds Tryd.pinned (.plain (OpenSpec.ofChange checksumBurstsSpec)) checksumBurstsCard

/-- THE TIED CARD OF 'roboticslaw05.ChecksumLinear'. -/
def checksumLinearCard : Claim7 := { stood := { row := checksumLinearRow, standIns := [], harness := (true, "732990a23d81027f41f99d85be3bd53f39c7527f8b09c3d59108890e96266a39"), looks := false }, kinds := [], alts := [], laidByText := true, laidKinds := [.data, .pinned], laidTests := true, laidLooks := .later }
def ChecksumLinearCardSaid : Prop := Claim7.holds Tryd.pinned (.plain (OpenSpec.ofChange checksumLinearSpec)) checksumLinearCard

/-- THE TIED CARD OF 'roboticslaw05.ChecksumChains'. -/
def checksumChainsCard : Claim7 := { stood := { row := checksumChainsRow, standIns := [], harness := (true, "732990a23d81027f41f99d85be3bd53f39c7527f8b09c3d59108890e96266a39"), looks := false }, kinds := [], alts := [], laidByText := true, laidKinds := [.data, .pinned], laidTests := true, laidLooks := .later }
def ChecksumChainsCardSaid : Prop := Claim7.holds Tryd.pinned (.plain (OpenSpec.ofChange checksumChainsSpec)) checksumChainsCard

/-- THE SECOND FORM's CARD OF 'roboticslaw05.ChecksumCrcs'. -/
def checksumCrcsUptoCard : Claim7 := { stood := { row := checksumCrcsUptoRow, standIns := [], harness := (true, "732990a23d81027f41f99d85be3bd53f39c7527f8b09c3d59108890e96266a39"), looks := false }, kinds := [], alts := [], laidByText := true, laidKinds := [.data, .pinned], laidTests := true, laidLooks := .later }
def ChecksumCrcsUptoCardSaid : Prop := Claim7.holds Tryd.pinned (.plain (OpenSpec.upto checksumCrcsSpec)) checksumCrcsUptoCard

/-- THE SECOND FORM's CARD OF 'roboticslaw05.ChecksumHashes'. -/
def checksumHashesUptoCard : Claim7 := { stood := { row := checksumHashesUptoRow, standIns := [], harness := (true, "732990a23d81027f41f99d85be3bd53f39c7527f8b09c3d59108890e96266a39"), looks := false }, kinds := [], alts := [], laidByText := true, laidKinds := [.data, .pinned], laidTests := true, laidLooks := .later }
def ChecksumHashesUptoCardSaid : Prop := Claim7.holds Tryd.pinned (.plain (OpenSpec.upto checksumHashesSpec)) checksumHashesUptoCard

/-- THE SECOND FORM's CARD OF 'roboticslaw05.ChecksumSeals'. -/
def checksumSealsUptoCard : Claim7 := { stood := { row := checksumSealsUptoRow, standIns := [], harness := (true, "732990a23d81027f41f99d85be3bd53f39c7527f8b09c3d59108890e96266a39"), looks := false }, kinds := [], alts := [], laidByText := true, laidKinds := [.data, .pinned], laidTests := true, laidLooks := .later }
def ChecksumSealsUptoCardSaid : Prop := Claim7.holds Tryd.pinned (.plain (OpenSpec.upto checksumSealsSpec)) checksumSealsUptoCard

/-- THE SECOND FORM's CARD OF 'roboticslaw05.ChecksumBursts'. -/
def checksumBurstsUptoCard : Claim7 := { stood := { row := checksumBurstsUptoRow, standIns := [], harness := (true, "732990a23d81027f41f99d85be3bd53f39c7527f8b09c3d59108890e96266a39"), looks := false }, kinds := [], alts := [], laidByText := true, laidKinds := [.data, .pinned], laidTests := true, laidLooks := .later }
def ChecksumBurstsUptoCardSaid : Prop := Claim7.holds Tryd.pinned (.plain (OpenSpec.upto checksumBurstsSpec)) checksumBurstsUptoCard

/-- THE SECOND FORM's CARD OF 'roboticslaw05.ChecksumLinear'. -/
def checksumLinearUptoCard : Claim7 := { stood := { row := checksumLinearUptoRow, standIns := [], harness := (true, "732990a23d81027f41f99d85be3bd53f39c7527f8b09c3d59108890e96266a39"), looks := false }, kinds := [], alts := [], laidByText := true, laidKinds := [.data, .pinned], laidTests := true, laidLooks := .later }
def ChecksumLinearUptoCardSaid : Prop := Claim7.holds Tryd.pinned (.plain (OpenSpec.upto checksumLinearSpec)) checksumLinearUptoCard

/-- THE SECOND FORM's CARD OF 'roboticslaw05.ChecksumChains'. -/
def checksumChainsUptoCard : Claim7 := { stood := { row := checksumChainsUptoRow, standIns := [], harness := (true, "732990a23d81027f41f99d85be3bd53f39c7527f8b09c3d59108890e96266a39"), looks := false }, kinds := [], alts := [], laidByText := true, laidKinds := [.data, .pinned], laidTests := true, laidLooks := .later }
def ChecksumChainsUptoCardSaid : Prop := Claim7.holds Tryd.pinned (.plain (OpenSpec.upto checksumChainsSpec)) checksumChainsUptoCard
end Rows
end Go.Proofs.YtghmbglnhcdbjaaDoor

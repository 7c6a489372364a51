/-
  DERIVED. GIVEN WITH THE SEED: THE CARDS: each row of YtcjaaijohapeaaaDoorRows.lean that lists a variable, with what it lists TIED to the program's text (the seventh form; the later family's looks); each row that meets fmt, with fmt's text TOLD by the authors' own Lean function (tested against real Go, not proved from fmt's source: count such statements apart). THE CARD IS WHAT COUNTS. Prove the row's statement (the work); the ties are given (YtcjaaijohapeaaaDoorTie.lean); close each card by the builder's one call (the guide's Derived/Test/ToyasCard.lean, 'card_holds'). Laid BY PROGRAM, IN A SANDBOX (cutbox-door.mjs). By AI agents, Wed Nov 11 2026. No macro, syntax, notation, axiom, sorry.
-/
import Derived.Test.YtcjaaijohapeaaaDoorRows
import GoSem.ClaimSeven
namespace Go.Proofs.YtcjaaijohapeaaaDoor
namespace Rows

/-- THE TIED CARD OF 'roboticslaw15.PacketOnly'. -/
def packetOnlyCard : Claim7 := { stood := { row := packetOnlyRow, standIns := [], harness := (true, "00d2d486843c06ad6da372b165e8ed1d7d199d9dde828e263fdccaf57c8b462f"), looks := false }, kinds := [], alts := [], laidByText := true, laidKinds := [.data, .pinned], laidTests := true, laidLooks := .later }
def PacketOnlyCardSaid : Prop := Claim7.holds Tryd.pinned (.plain (OpenSpec.ofChange packetOnlySpec)) packetOnlyCard

/-- THE TIED CARD OF 'roboticslaw15.PacketSplits'. -/
def packetSplitsCard : Claim7 := { stood := { row := packetSplitsRow, standIns := [], harness := (true, "00d2d486843c06ad6da372b165e8ed1d7d199d9dde828e263fdccaf57c8b462f"), looks := false }, kinds := [], alts := [], laidByText := true, laidKinds := [.data, .pinned], laidTests := true, laidLooks := .later }
def PacketSplitsCardSaid : Prop := Claim7.holds Tryd.pinned (.plain (OpenSpec.ofChange packetSplitsSpec)) packetSplitsCard

/-- THE TIED CARD OF 'roboticslaw15.PacketUnframes'. -/
def packetUnframesCard : Claim7 := { stood := { row := packetUnframesRow, standIns := [], harness := (true, "00d2d486843c06ad6da372b165e8ed1d7d199d9dde828e263fdccaf57c8b462f"), looks := false }, kinds := [], alts := [], laidByText := true, laidKinds := [.data, .pinned], laidTests := true, laidLooks := .later }
def PacketUnframesCardSaid : Prop := Claim7.holds Tryd.pinned (.plain (OpenSpec.ofChange packetUnframesSpec)) packetUnframesCard

/-- THE TIED CARD OF 'roboticslaw15.PacketTravels'. -/
def packetTravelsCard : Claim7 := { stood := { row := packetTravelsRow, standIns := [], harness := (true, "00d2d486843c06ad6da372b165e8ed1d7d199d9dde828e263fdccaf57c8b462f"), looks := false }, kinds := [], alts := [], laidByText := true, laidKinds := [.data, .pinned], laidTests := true, laidLooks := .later }
def PacketTravelsCardSaid : Prop := Claim7.holds Tryd.pinned (.plain (OpenSpec.ofChange packetTravelsSpec)) packetTravelsCard

/-- THE SECOND FORM's CARD OF 'roboticslaw15.PacketOnly'. -/
def packetOnlyUptoCard : Claim7 := { stood := { row := packetOnlyUptoRow, standIns := [], harness := (true, "00d2d486843c06ad6da372b165e8ed1d7d199d9dde828e263fdccaf57c8b462f"), looks := false }, kinds := [], alts := [], laidByText := true, laidKinds := [.data, .pinned], laidTests := true, laidLooks := .later }
def PacketOnlyUptoCardSaid : Prop := Claim7.holds Tryd.pinned (.plain (OpenSpec.upto packetOnlySpec)) packetOnlyUptoCard

/-- THE SECOND FORM's CARD OF 'roboticslaw15.PacketSplits'. -/
def packetSplitsUptoCard : Claim7 := { stood := { row := packetSplitsUptoRow, standIns := [], harness := (true, "00d2d486843c06ad6da372b165e8ed1d7d199d9dde828e263fdccaf57c8b462f"), looks := false }, kinds := [], alts := [], laidByText := true, laidKinds := [.data, .pinned], laidTests := true, laidLooks := .later }
def PacketSplitsUptoCardSaid : Prop := Claim7.holds Tryd.pinned (.plain (OpenSpec.upto packetSplitsSpec)) packetSplitsUptoCard

/-- THE SECOND FORM's CARD OF 'roboticslaw15.PacketUnframes'. -/
def packetUnframesUptoCard : Claim7 := { stood := { row := packetUnframesUptoRow, standIns := [], harness := (true, "00d2d486843c06ad6da372b165e8ed1d7d199d9dde828e263fdccaf57c8b462f"), looks := false }, kinds := [], alts := [], laidByText := true, laidKinds := [.data, .pinned], laidTests := true, laidLooks := .later }
def PacketUnframesUptoCardSaid : Prop := Claim7.holds Tryd.pinned (.plain (OpenSpec.upto packetUnframesSpec)) packetUnframesUptoCard

/-- THE SECOND FORM's CARD OF 'roboticslaw15.PacketTravels'. -/
def packetTravelsUptoCard : Claim7 := { stood := { row := packetTravelsUptoRow, standIns := [], harness := (true, "00d2d486843c06ad6da372b165e8ed1d7d199d9dde828e263fdccaf57c8b462f"), looks := false }, kinds := [], alts := [], laidByText := true, laidKinds := [.data, .pinned], laidTests := true, laidLooks := .later }
def PacketTravelsUptoCardSaid : Prop := Claim7.holds Tryd.pinned (.plain (OpenSpec.upto packetTravelsSpec)) packetTravelsUptoCard
end Rows
end Go.Proofs.YtcjaaijohapeaaaDoor

/-
  DERIVED. GIVEN WITH THE SEED: THE CARDS: each row of YtaiceebhifecbaaDoorRows.lean that lists a variable, with what it lists TIED to the program's text (the seventh form; the later family's looks); each row that meets fmt, with fmt's text TOLD by the authors' own Lean function (tested against real Go, not proved from fmt's source: count such statements apart). THE CARD IS WHAT COUNTS. Prove the row's statement (the work); the ties are given (YtaiceebhifecbaaDoorTie.lean); close each card by the builder's one call (the guide's Derived/Test/ToyasCard.lean, 'card_holds'). Laid BY PROGRAM, IN A SANDBOX (cutbox-door.mjs). By AI agents, Wed Nov 11 2026. No macro, syntax, notation, axiom, sorry.
-/
import Derived.Test.YtaiceebhifecbaaDoorRows
import GoSem.ClaimSeven
namespace Go.Proofs.YtaiceebhifecbaaDoor
namespace Rows

/-- THE TIED CARD OF 'roboticslaw01.NaturalTells'. -/
def naturalTellsCard : Claim7 := { stood := { row := naturalTellsRow, standIns := [], harness := (true, "333280602e259a306a1ebeb1858856d5abf70944cfb2c5f492345d520571d6c3"), looks := false }, kinds := [], alts := [], laidByText := true, laidKinds := [.data, .pinned], laidTests := true, laidLooks := .later }
def NaturalTellsCardSaid : Prop := Claim7.holds Tryd.pinned (.plain (OpenSpec.ofChange naturalTellsSpec)) naturalTellsCard

/-- THE TIED CARD OF 'roboticslaw01.NaturalValid'. -/
def naturalValidCard : Claim7 := { stood := { row := naturalValidRow, standIns := [], harness := (true, "333280602e259a306a1ebeb1858856d5abf70944cfb2c5f492345d520571d6c3"), looks := false }, kinds := [], alts := [], laidByText := true, laidKinds := [.data, .pinned], laidTests := true, laidLooks := .later }
def NaturalValidCardSaid : Prop := Claim7.holds Tryd.pinned (.plain (OpenSpec.ofChange naturalValidSpec)) naturalValidCard

/-- THE TIED CARD OF 'roboticslaw01.NaturalDivides'. -/
def naturalDividesCard : Claim7 := { stood := { row := naturalDividesRow, standIns := [], harness := (true, "333280602e259a306a1ebeb1858856d5abf70944cfb2c5f492345d520571d6c3"), looks := false }, kinds := [], alts := [], laidByText := true, laidKinds := [.data, .pinned], laidTests := true, laidLooks := .later }
def NaturalDividesCardSaid : Prop := Claim7.holds Tryd.pinned (.plain (OpenSpec.ofChange naturalDividesSpec)) naturalDividesCard

/-- THE TIED CARD OF 'roboticslaw01.NaturalGcd'. -/
def naturalGcdCard : Claim7 := { stood := { row := naturalGcdRow, standIns := [], harness := (true, "333280602e259a306a1ebeb1858856d5abf70944cfb2c5f492345d520571d6c3"), looks := false }, kinds := [], alts := [], laidByText := true, laidKinds := [.data, .pinned], laidTests := true, laidLooks := .later }
def NaturalGcdCardSaid : Prop := Claim7.holds Tryd.pinned (.plain (OpenSpec.ofChange naturalGcdSpec)) naturalGcdCard

/-- THE TIED CARD OF 'roboticslaw01.NaturalRing'. -/
def naturalRingCard : Claim7 := { stood := { row := naturalRingRow, standIns := [], harness := (true, "333280602e259a306a1ebeb1858856d5abf70944cfb2c5f492345d520571d6c3"), looks := false }, kinds := [], alts := [], laidByText := true, laidKinds := [.data, .pinned], laidTests := true, laidLooks := .later }
def NaturalRingCardSaid : Prop := Claim7.holds Tryd.pinned (.plain (OpenSpec.ofChange naturalRingSpec)) naturalRingCard

/-- THE TIED CARD OF 'roboticslaw01.NaturalOrders'. -/
def naturalOrdersCard : Claim7 := { stood := { row := naturalOrdersRow, standIns := [], harness := (true, "333280602e259a306a1ebeb1858856d5abf70944cfb2c5f492345d520571d6c3"), looks := false }, kinds := [], alts := [], laidByText := true, laidKinds := [.data, .pinned], laidTests := true, laidLooks := .later }
def NaturalOrdersCardSaid : Prop := Claim7.holds Tryd.pinned (.plain (OpenSpec.ofChange naturalOrdersSpec)) naturalOrdersCard

/-- THE TIED CARD OF 'roboticslaw01.NaturalParses'. -/
def naturalParsesCard : Claim7 := { stood := { row := naturalParsesRow, standIns := [], harness := (true, "333280602e259a306a1ebeb1858856d5abf70944cfb2c5f492345d520571d6c3"), looks := false }, kinds := [], alts := [], laidByText := true, laidKinds := [.data, .pinned], laidTests := true, laidLooks := .later }
def NaturalParsesCardSaid : Prop := Claim7.holds Tryd.pinned (.plain (OpenSpec.ofChange naturalParsesSpec)) naturalParsesCard

/-- THE TIED CARD OF 'roboticslaw01.NaturalRoundTrip'. -/
def naturalRoundTripCard : Claim7 := { stood := { row := naturalRoundTripRow, standIns := [], harness := (true, "333280602e259a306a1ebeb1858856d5abf70944cfb2c5f492345d520571d6c3"), looks := false }, kinds := [], alts := [], laidByText := true, laidKinds := [.data, .pinned], laidTests := true, laidLooks := .later }
def NaturalRoundTripCardSaid : Prop := Claim7.holds Tryd.pinned (.plain (OpenSpec.ofChange naturalRoundTripSpec)) naturalRoundTripCard

/-- THE TIED CARD OF 'roboticslaw01.NaturalKeeps'. -/
def naturalKeepsCard : Claim7 := { stood := { row := naturalKeepsRow, standIns := [], harness := (true, "333280602e259a306a1ebeb1858856d5abf70944cfb2c5f492345d520571d6c3"), looks := false }, kinds := [], alts := [], laidByText := true, laidKinds := [.data, .pinned], laidTests := true, laidLooks := .later }
def NaturalKeepsCardSaid : Prop := Claim7.holds Tryd.pinned (.plain (OpenSpec.ofChange naturalKeepsSpec)) naturalKeepsCard

/-- THE SECOND FORM's CARD OF 'roboticslaw01.NaturalTells'. -/
def naturalTellsUptoCard : Claim7 := { stood := { row := naturalTellsUptoRow, standIns := [], harness := (true, "333280602e259a306a1ebeb1858856d5abf70944cfb2c5f492345d520571d6c3"), looks := false }, kinds := [], alts := [], laidByText := true, laidKinds := [.data, .pinned], laidTests := true, laidLooks := .later }
def NaturalTellsUptoCardSaid : Prop := Claim7.holds Tryd.pinned (.plain (OpenSpec.upto naturalTellsSpec)) naturalTellsUptoCard

/-- THE SECOND FORM's CARD OF 'roboticslaw01.NaturalValid'. -/
def naturalValidUptoCard : Claim7 := { stood := { row := naturalValidUptoRow, standIns := [], harness := (true, "333280602e259a306a1ebeb1858856d5abf70944cfb2c5f492345d520571d6c3"), looks := false }, kinds := [], alts := [], laidByText := true, laidKinds := [.data, .pinned], laidTests := true, laidLooks := .later }
def NaturalValidUptoCardSaid : Prop := Claim7.holds Tryd.pinned (.plain (OpenSpec.upto naturalValidSpec)) naturalValidUptoCard

/-- THE SECOND FORM's CARD OF 'roboticslaw01.NaturalDivides'. -/
def naturalDividesUptoCard : Claim7 := { stood := { row := naturalDividesUptoRow, standIns := [], harness := (true, "333280602e259a306a1ebeb1858856d5abf70944cfb2c5f492345d520571d6c3"), looks := false }, kinds := [], alts := [], laidByText := true, laidKinds := [.data, .pinned], laidTests := true, laidLooks := .later }
def NaturalDividesUptoCardSaid : Prop := Claim7.holds Tryd.pinned (.plain (OpenSpec.upto naturalDividesSpec)) naturalDividesUptoCard

/-- THE SECOND FORM's CARD OF 'roboticslaw01.NaturalGcd'. -/
def naturalGcdUptoCard : Claim7 := { stood := { row := naturalGcdUptoRow, standIns := [], harness := (true, "333280602e259a306a1ebeb1858856d5abf70944cfb2c5f492345d520571d6c3"), looks := false }, kinds := [], alts := [], laidByText := true, laidKinds := [.data, .pinned], laidTests := true, laidLooks := .later }
def NaturalGcdUptoCardSaid : Prop := Claim7.holds Tryd.pinned (.plain (OpenSpec.upto naturalGcdSpec)) naturalGcdUptoCard

/-- THE SECOND FORM's CARD OF 'roboticslaw01.NaturalRing'. -/
def naturalRingUptoCard : Claim7 := { stood := { row := naturalRingUptoRow, standIns := [], harness := (true, "333280602e259a306a1ebeb1858856d5abf70944cfb2c5f492345d520571d6c3"), looks := false }, kinds := [], alts := [], laidByText := true, laidKinds := [.data, .pinned], laidTests := true, laidLooks := .later }
def NaturalRingUptoCardSaid : Prop := Claim7.holds Tryd.pinned (.plain (OpenSpec.upto naturalRingSpec)) naturalRingUptoCard

/-- THE SECOND FORM's CARD OF 'roboticslaw01.NaturalOrders'. -/
def naturalOrdersUptoCard : Claim7 := { stood := { row := naturalOrdersUptoRow, standIns := [], harness := (true, "333280602e259a306a1ebeb1858856d5abf70944cfb2c5f492345d520571d6c3"), looks := false }, kinds := [], alts := [], laidByText := true, laidKinds := [.data, .pinned], laidTests := true, laidLooks := .later }
def NaturalOrdersUptoCardSaid : Prop := Claim7.holds Tryd.pinned (.plain (OpenSpec.upto naturalOrdersSpec)) naturalOrdersUptoCard

/-- THE SECOND FORM's CARD OF 'roboticslaw01.NaturalParses'. -/
def naturalParsesUptoCard : Claim7 := { stood := { row := naturalParsesUptoRow, standIns := [], harness := (true, "333280602e259a306a1ebeb1858856d5abf70944cfb2c5f492345d520571d6c3"), looks := false }, kinds := [], alts := [], laidByText := true, laidKinds := [.data, .pinned], laidTests := true, laidLooks := .later }
def NaturalParsesUptoCardSaid : Prop := Claim7.holds Tryd.pinned (.plain (OpenSpec.upto naturalParsesSpec)) naturalParsesUptoCard

/-- THE SECOND FORM's CARD OF 'roboticslaw01.NaturalRoundTrip'. -/
def naturalRoundTripUptoCard : Claim7 := { stood := { row := naturalRoundTripUptoRow, standIns := [], harness := (true, "333280602e259a306a1ebeb1858856d5abf70944cfb2c5f492345d520571d6c3"), looks := false }, kinds := [], alts := [], laidByText := true, laidKinds := [.data, .pinned], laidTests := true, laidLooks := .later }
def NaturalRoundTripUptoCardSaid : Prop := Claim7.holds Tryd.pinned (.plain (OpenSpec.upto naturalRoundTripSpec)) naturalRoundTripUptoCard

/-- THE SECOND FORM's CARD OF 'roboticslaw01.NaturalKeeps'. -/
def naturalKeepsUptoCard : Claim7 := { stood := { row := naturalKeepsUptoRow, standIns := [], harness := (true, "333280602e259a306a1ebeb1858856d5abf70944cfb2c5f492345d520571d6c3"), looks := false }, kinds := [], alts := [], laidByText := true, laidKinds := [.data, .pinned], laidTests := true, laidLooks := .later }
def NaturalKeepsUptoCardSaid : Prop := Claim7.holds Tryd.pinned (.plain (OpenSpec.upto naturalKeepsSpec)) naturalKeepsUptoCard
end Rows
end Go.Proofs.YtaiceebhifecbaaDoor

/-
  DERIVED. GIVEN WITH THE SEED: THE CARDS: each row of YtcilkcnddgacgaaGreatDoorRows.lean that lists a variable, with what it lists TIED to the program's text (the seventh form; the later family's looks); each row that meets fmt, with fmt's text TOLD by the authors' own Lean function (tested against real Go, not proved from fmt's source: count such statements apart). THE CARD IS WHAT COUNTS. Prove the row's statement (the work); the ties are given (YtcilkcnddgacgaaGreatDoorTie.lean); close each card by the builder's one call (the guide's Derived/Test/ToyasCard.lean, 'card_holds'). Laid BY PROGRAM, IN A SANDBOX (cutbox-door.mjs). By AI agents, Wed Nov 11 2026. No macro, syntax, notation, axiom, sorry.
-/
import Derived.Test.YtcilkcnddgacgaaGreatDoorRows
import GoSem.ClaimSeven
namespace Go.Proofs.YtcilkcnddgacgaaGreatDoor
namespace Rows

/-- THE TIED CARD OF 'roboticslaw12.EvolveIssues'. -/
def evolveIssuesCard : Claim7 := { stood := { row := evolveIssuesRow, standIns := [], harness := (true, "07d3b8c714f67cbacfa607fb5134b5f3cb2eb9a668421aa39b4ebec15295f095"), looks := true }, kinds := [], alts := [], laidByText := true, laidKinds := [.data, .data, .data, .data, .sentinel, .sentinel, .pinned], laidTests := true, laidLooks := .later }
def EvolveIssuesCardSaid : Prop := Claim7.holds Tryz.pinned (.plain (OpenSpec.ofChange evolveIssuesSpec)) evolveIssuesCard

/-- THE TIED CARD OF 'roboticslaw12.EvolveProjects'. -/
def evolveProjectsCard : Claim7 := { stood := { row := evolveProjectsRow, standIns := [], harness := (true, "07d3b8c714f67cbacfa607fb5134b5f3cb2eb9a668421aa39b4ebec15295f095"), looks := true }, kinds := [], alts := [], laidByText := true, laidKinds := [.data, .data, .data, .data, .sentinel, .sentinel, .pinned], laidTests := true, laidLooks := .later }
def EvolveProjectsCardSaid : Prop := Claim7.holds Tryz.pinned (.plain (OpenSpec.ofChange evolveProjectsSpec)) evolveProjectsCard

/-- THE TIED CARD OF 'roboticslaw12.EvolveWidens'. -/
def evolveWidensCard : Claim7 := { stood := { row := evolveWidensRow, standIns := [], harness := (true, "07d3b8c714f67cbacfa607fb5134b5f3cb2eb9a668421aa39b4ebec15295f095"), looks := true }, kinds := [], alts := [], laidByText := true, laidKinds := [.data, .data, .data, .data, .sentinel, .sentinel, .pinned], laidTests := true, laidLooks := .later }
def EvolveWidensCardSaid : Prop := Claim7.holds Tryz.pinned (.plain (OpenSpec.ofChange evolveWidensSpec)) evolveWidensCard

/-- THE TIED CARD OF 'roboticslaw12.EvolveMerges'. -/
def evolveMergesCard : Claim7 := { stood := { row := evolveMergesRow, standIns := [], harness := (true, "07d3b8c714f67cbacfa607fb5134b5f3cb2eb9a668421aa39b4ebec15295f095"), looks := true }, kinds := [], alts := [], laidByText := true, laidKinds := [.data, .data, .data, .data, .sentinel, .sentinel, .pinned], laidTests := true, laidLooks := .later }
def EvolveMergesCardSaid : Prop := Claim7.holds Tryz.pinned (.plain (OpenSpec.ofChange evolveMergesSpec)) evolveMergesCard

/-- THE TIED CARD OF 'roboticslaw12.EvolveFits'. -/
def evolveFitsCard : Claim7 := { stood := { row := evolveFitsRow, standIns := [], harness := (true, "07d3b8c714f67cbacfa607fb5134b5f3cb2eb9a668421aa39b4ebec15295f095"), looks := true }, kinds := [], alts := [], laidByText := true, laidKinds := [.data, .data, .data, .data, .sentinel, .sentinel, .pinned], laidTests := true, laidLooks := .later }
def EvolveFitsCardSaid : Prop := Claim7.holds Tryz.pinned (.plain (OpenSpec.ofChange evolveFitsSpec)) evolveFitsCard

/-- THE SECOND FORM's CARD OF 'roboticslaw12.EvolveIssues'. -/
def evolveIssuesUptoCard : Claim7 := { stood := { row := evolveIssuesUptoRow, standIns := [], harness := (true, "07d3b8c714f67cbacfa607fb5134b5f3cb2eb9a668421aa39b4ebec15295f095"), looks := true }, kinds := [], alts := [], laidByText := true, laidKinds := [.data, .data, .data, .data, .sentinel, .sentinel, .pinned], laidTests := true, laidLooks := .later }
def EvolveIssuesUptoCardSaid : Prop := Claim7.holds Tryz.pinned (.plain (OpenSpec.upto evolveIssuesSpec)) evolveIssuesUptoCard

/-- THE SECOND FORM's CARD OF 'roboticslaw12.EvolveProjects'. -/
def evolveProjectsUptoCard : Claim7 := { stood := { row := evolveProjectsUptoRow, standIns := [], harness := (true, "07d3b8c714f67cbacfa607fb5134b5f3cb2eb9a668421aa39b4ebec15295f095"), looks := true }, kinds := [], alts := [], laidByText := true, laidKinds := [.data, .data, .data, .data, .sentinel, .sentinel, .pinned], laidTests := true, laidLooks := .later }
def EvolveProjectsUptoCardSaid : Prop := Claim7.holds Tryz.pinned (.plain (OpenSpec.upto evolveProjectsSpec)) evolveProjectsUptoCard

/-- THE SECOND FORM's CARD OF 'roboticslaw12.EvolveWidens'. -/
def evolveWidensUptoCard : Claim7 := { stood := { row := evolveWidensUptoRow, standIns := [], harness := (true, "07d3b8c714f67cbacfa607fb5134b5f3cb2eb9a668421aa39b4ebec15295f095"), looks := true }, kinds := [], alts := [], laidByText := true, laidKinds := [.data, .data, .data, .data, .sentinel, .sentinel, .pinned], laidTests := true, laidLooks := .later }
def EvolveWidensUptoCardSaid : Prop := Claim7.holds Tryz.pinned (.plain (OpenSpec.upto evolveWidensSpec)) evolveWidensUptoCard

/-- THE SECOND FORM's CARD OF 'roboticslaw12.EvolveMerges'. -/
def evolveMergesUptoCard : Claim7 := { stood := { row := evolveMergesUptoRow, standIns := [], harness := (true, "07d3b8c714f67cbacfa607fb5134b5f3cb2eb9a668421aa39b4ebec15295f095"), looks := true }, kinds := [], alts := [], laidByText := true, laidKinds := [.data, .data, .data, .data, .sentinel, .sentinel, .pinned], laidTests := true, laidLooks := .later }
def EvolveMergesUptoCardSaid : Prop := Claim7.holds Tryz.pinned (.plain (OpenSpec.upto evolveMergesSpec)) evolveMergesUptoCard

/-- THE SECOND FORM's CARD OF 'roboticslaw12.EvolveFits'. -/
def evolveFitsUptoCard : Claim7 := { stood := { row := evolveFitsUptoRow, standIns := [], harness := (true, "07d3b8c714f67cbacfa607fb5134b5f3cb2eb9a668421aa39b4ebec15295f095"), looks := true }, kinds := [], alts := [], laidByText := true, laidKinds := [.data, .data, .data, .data, .sentinel, .sentinel, .pinned], laidTests := true, laidLooks := .later }
def EvolveFitsUptoCardSaid : Prop := Claim7.holds Tryz.pinned (.plain (OpenSpec.upto evolveFitsSpec)) evolveFitsUptoCard
end Rows
end Go.Proofs.YtcilkcnddgacgaaGreatDoor

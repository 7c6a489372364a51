/-
  NARROWER THAN 'FOR EVERY INPUT', by the rows' own cells (each row's printed sentence says how): PacketOnly: laid · PacketSplits: laid · PacketUnframes: laid · PacketTravels: laid.
  DERIVED. THE GIVEN ROWS OF THIS SEAT. 4 by the template 'for every input the law returns true; each argument reads behind the call as it read before'; 0 by the template 'total and deterministic' (their statements: YtcjaaijohapeaaaDoorTotals.lean).
  GIVEN WITH THE SEED: the statements are not yours to turn. If you find one false, say at which input.
  Laid BY PROGRAM, IN A SANDBOX (cutbox-rows.mjs): the forced cells as the released guide's own fill.sh prints them over the translation fa79e583a0752f6c… (all of the seat's roots in one cut). By AI agents, Wed Nov 11 2026. No macro, syntax, notation, axiom, sorry.
-/
import Derived.Test.YtcjaaijohapeaaaDoorChecked
import GoSem.PinnedTables
import GoSem.Claim
import GoSem.ClaimJoined
import GoSem.ClaimMapViews
import Derived.JoinedTies
import Derived.KernelRfl
namespace Go.Proofs.YtcjaaijohapeaaaDoor
/- THE CELL 'sum', in the pinned program and in every row, IS THE sha256 OF THE DUMP (.gsa) THAT YtcjaaijohapeaaaDoorProg.lean LOADS. Nothing in Lean hashes anything: it is a label: what it is worth is what the hold of that sum in a sandbox is worth. -/
noncomputable def Tryd.pinned : Pinned := { name := "ytcjaaijohapeaaadoor", sum := "fa79e583a0752f6ccdad8c113bfaed027f31baaf667a9fe220b854a4dc0c8adc", checked := Tryd.checked }
namespace Rows
def none {H : Type} : Left H := { results := [], args := [] }

/- WHAT THE LISTED PACKAGE-LEVEL VARIABLES READ AS WHEN THE CALL BEGINS. Each datum BY PROGRAM (the guide's laid-datum.mjs) off the statement by which the dump's own 'gosem.cut.vars' lays the variable. In a bare row this is a premise. The card (YtcjaaijohapeaaaDoorCards.lean) ties it to the program's text. -/
def laid_unicode_utf8_acceptRanges {H : Type} : DataW H := .agg [.agg [.lit (.int .u8 128), .lit (.int .u8 191)], .agg [.lit (.int .u8 160), .lit (.int .u8 191)], .agg [.lit (.int .u8 128), .lit (.int .u8 159)], .agg [.lit (.int .u8 144), .lit (.int .u8 191)], .agg [.lit (.int .u8 128), .lit (.int .u8 143)], .agg [.lit (.int .u8 0), .lit (.int .u8 0)], .agg [.lit (.int .u8 0), .lit (.int .u8 0)], .agg [.lit (.int .u8 0), .lit (.int .u8 0)], .agg [.lit (.int .u8 0), .lit (.int .u8 0)], .agg [.lit (.int .u8 0), .lit (.int .u8 0)], .agg [.lit (.int .u8 0), .lit (.int .u8 0)], .agg [.lit (.int .u8 0), .lit (.int .u8 0)], .agg [.lit (.int .u8 0), .lit (.int .u8 0)], .agg [.lit (.int .u8 0), .lit (.int .u8 0)], .agg [.lit (.int .u8 0), .lit (.int .u8 0)], .agg [.lit (.int .u8 0), .lit (.int .u8 0)]]
/-- One of Go's own tables, pinned by name: the form's constant. -/
def laid_unicode_utf8_first : DataW Unit := Go.Pinned.utf8First

/-- 'roboticslaw15.PacketOnly': WHATEVER THE INPUT: true; the input reads as it did. -/
def packetOnlySpec : ChangeSpec := { name := "packetOnly", fn := fun _ => fun
  | [d] => { results := [.lit (.bool true)], args := [d] }
  | _ => none }
def packetOnlyRow : OpenClaim := { program := "ytcjaaijohapeaaadoor", sum := "fa79e583a0752f6ccdad8c113bfaed027f31baaf667a9fe220b854a4dc0c8adc", func := "robotics/roboticslaw15.PacketOnly", spec := "packetOnly", inPlace := ["internal/abi.NoEscape", "slices.overlaps[robotics/api.Fragment]"], unfollowed := true, recurses := true, named := ["unicode/utf8.first", "unicode/utf8.acceptRanges"], plainKeys := false, apart := false, laid := [("unicode/utf8.acceptRanges", laid_unicode_utf8_acceptRanges), ("unicode/utf8.first", laid_unicode_utf8_first)] }
def PacketOnlySaid : Prop := packetOnlyRow.holds Tryd.pinned (OpenSpec.ofChange packetOnlySpec)

/-- ITS FALSE NEIGHBOUR: 'it returns false'. Refute it at one input. -/
def packetOnlyWrong : ChangeSpec := { name := "packetOnly", fn := fun _ => fun
  | [d] => { results := [.lit (.bool false)], args := [d] }
  | _ => none }
def PacketOnlyWrongFalsely : Prop := packetOnlyRow.holds Tryd.pinned (OpenSpec.ofChange packetOnlyWrong)

/-- 'roboticslaw15.PacketSplits': WHATEVER THE INPUT: true; the input reads as it did. -/
def packetSplitsSpec : ChangeSpec := { name := "packetSplits", fn := fun _ => fun
  | [d1, d2, d3] => { results := [.lit (.bool true)], args := [d1, d2, d3] }
  | _ => none }
def packetSplitsRow : OpenClaim := { program := "ytcjaaijohapeaaadoor", sum := "fa79e583a0752f6ccdad8c113bfaed027f31baaf667a9fe220b854a4dc0c8adc", func := "robotics/roboticslaw15.PacketSplits", spec := "packetSplits", inPlace := ["internal/abi.NoEscape", "slices.overlaps[robotics/api.Fragment]"], unfollowed := true, recurses := true, named := ["unicode/utf8.first", "unicode/utf8.acceptRanges"], plainKeys := false, apart := false, laid := [("unicode/utf8.acceptRanges", laid_unicode_utf8_acceptRanges), ("unicode/utf8.first", laid_unicode_utf8_first)] }
def PacketSplitsSaid : Prop := packetSplitsRow.holds Tryd.pinned (OpenSpec.ofChange packetSplitsSpec)

/-- ITS FALSE NEIGHBOUR: 'it returns false'. Refute it at one input. -/
def packetSplitsWrong : ChangeSpec := { name := "packetSplits", fn := fun _ => fun
  | [d1, d2, d3] => { results := [.lit (.bool false)], args := [d1, d2, d3] }
  | _ => none }
def PacketSplitsWrongFalsely : Prop := packetSplitsRow.holds Tryd.pinned (OpenSpec.ofChange packetSplitsWrong)

/-- 'roboticslaw15.PacketUnframes': WHATEVER THE INPUT: true; the input reads as it did. -/
def packetUnframesSpec : ChangeSpec := { name := "packetUnframes", fn := fun _ => fun
  | [d1, d2] => { results := [.lit (.bool true)], args := [d1, d2] }
  | _ => none }
def packetUnframesRow : OpenClaim := { program := "ytcjaaijohapeaaadoor", sum := "fa79e583a0752f6ccdad8c113bfaed027f31baaf667a9fe220b854a4dc0c8adc", func := "robotics/roboticslaw15.PacketUnframes", spec := "packetUnframes", inPlace := ["internal/abi.NoEscape", "slices.overlaps[robotics/api.Fragment]"], unfollowed := true, recurses := true, named := ["unicode/utf8.first", "unicode/utf8.acceptRanges"], plainKeys := false, apart := false, laid := [("unicode/utf8.acceptRanges", laid_unicode_utf8_acceptRanges), ("unicode/utf8.first", laid_unicode_utf8_first)] }
def PacketUnframesSaid : Prop := packetUnframesRow.holds Tryd.pinned (OpenSpec.ofChange packetUnframesSpec)

/-- ITS FALSE NEIGHBOUR: 'it returns false'. Refute it at one input. -/
def packetUnframesWrong : ChangeSpec := { name := "packetUnframes", fn := fun _ => fun
  | [d1, d2] => { results := [.lit (.bool false)], args := [d1, d2] }
  | _ => none }
def PacketUnframesWrongFalsely : Prop := packetUnframesRow.holds Tryd.pinned (OpenSpec.ofChange packetUnframesWrong)

/-- 'roboticslaw15.PacketTravels': WHATEVER THE INPUT: true; the input reads as it did. -/
def packetTravelsSpec : ChangeSpec := { name := "packetTravels", fn := fun _ => fun
  | [d1, d2, d3] => { results := [.lit (.bool true)], args := [d1, d2, d3] }
  | _ => none }
def packetTravelsRow : OpenClaim := { program := "ytcjaaijohapeaaadoor", sum := "fa79e583a0752f6ccdad8c113bfaed027f31baaf667a9fe220b854a4dc0c8adc", func := "robotics/roboticslaw15.PacketTravels", spec := "packetTravels", inPlace := ["internal/abi.NoEscape", "slices.overlaps[robotics/api.Fragment]", "slices.overlaps[int]"], unfollowed := true, recurses := true, named := ["unicode/utf8.first", "unicode/utf8.acceptRanges"], plainKeys := false, apart := false, laid := [("unicode/utf8.acceptRanges", laid_unicode_utf8_acceptRanges), ("unicode/utf8.first", laid_unicode_utf8_first)] }
def PacketTravelsSaid : Prop := packetTravelsRow.holds Tryd.pinned (OpenSpec.ofChange packetTravelsSpec)

/-- ITS FALSE NEIGHBOUR: 'it returns false'. Refute it at one input. -/
def packetTravelsWrong : ChangeSpec := { name := "packetTravels", fn := fun _ => fun
  | [d1, d2, d3] => { results := [.lit (.bool false)], args := [d1, d2, d3] }
  | _ => none }
def PacketTravelsWrongFalsely : Prop := packetTravelsRow.holds Tryd.pinned (OpenSpec.ofChange packetTravelsWrong)

/- THE SECOND FORM. 'bulk': how many values and letters a reading holds, each counted each time it is reached (what is shared counts as often as it is met; a slice's spare places count too). A statement '..UptoSaid' is the law's where the arguments, and the package variables that the reading takes, are together of bulk at most 1048576: NARROWER than '..Said'. Prove '..Said' where nothing that the law and all that it calls make is longer than what came in: it says more and counts as full. Else prove '..UptoSaid'. A law counts once. -/
mutual
def uptoBulk {H : Type} : DataW H → Nat
  | .lit (.string bytes) => bytes.length + 1
  | .lit _ => 1
  | .nil => 1
  | .ptr d => uptoBulk d + 1
  | .slice elems spare => uptoBulkAll elems + uptoBulkAll spare + 1
  | .agg parts => uptoBulkAll parts + 1
  | .iface _ d => uptoBulk d + 1
  | .map entries => uptoBulkEntries entries + 1
  | .held _ => 1
def uptoBulkAll {H : Type} : List (DataW H) → Nat
  | [] => 0
  | d :: r => uptoBulk d + uptoBulkAll r
def uptoBulkEntries {H : Type} : List (Lit × DataW H) → Nat
  | [] => 0
  | x :: r => uptoBulkEntry x + uptoBulkEntries r
def uptoBulkEntry {H : Type} : Lit × DataW H → Nat
  | (.string bytes, d) => bytes.length + uptoBulk d + 1
  | (_, d) => uptoBulk d + 1
 end
def uptoSmall : (H : Type) → List (DataW H) → Bool := fun _ ds => decide (uptoBulkAll ds ≤ 1048576)
def OpenSpec.upto (s : _root_.Go.ChangeSpec) : _root_.Go.OpenSpec := { _root_.Go.OpenSpec.ofChange s with cond := some uptoSmall }

/-- 'roboticslaw15.PacketOnly', WHERE WHAT IT READS IS OF BULK AT MOST 1048576: true; the input reads as it did. -/
def packetOnlyUptoRow : OpenClaim := { program := "ytcjaaijohapeaaadoor", sum := "fa79e583a0752f6ccdad8c113bfaed027f31baaf667a9fe220b854a4dc0c8adc", func := "robotics/roboticslaw15.PacketOnly", spec := "packetOnly", inPlace := ["internal/abi.NoEscape", "slices.overlaps[robotics/api.Fragment]"], unfollowed := true, recurses := true, named := ["unicode/utf8.first", "unicode/utf8.acceptRanges"], plainKeys := false, apart := false, laid := [("unicode/utf8.acceptRanges", laid_unicode_utf8_acceptRanges), ("unicode/utf8.first", laid_unicode_utf8_first)], narrowed := true }
def PacketOnlyUptoSaid : Prop := packetOnlyUptoRow.holds Tryd.pinned (OpenSpec.upto packetOnlySpec)

/-- 'roboticslaw15.PacketSplits', WHERE WHAT IT READS IS OF BULK AT MOST 1048576: true; the input reads as it did. -/
def packetSplitsUptoRow : OpenClaim := { program := "ytcjaaijohapeaaadoor", sum := "fa79e583a0752f6ccdad8c113bfaed027f31baaf667a9fe220b854a4dc0c8adc", func := "robotics/roboticslaw15.PacketSplits", spec := "packetSplits", inPlace := ["internal/abi.NoEscape", "slices.overlaps[robotics/api.Fragment]"], unfollowed := true, recurses := true, named := ["unicode/utf8.first", "unicode/utf8.acceptRanges"], plainKeys := false, apart := false, laid := [("unicode/utf8.acceptRanges", laid_unicode_utf8_acceptRanges), ("unicode/utf8.first", laid_unicode_utf8_first)], narrowed := true }
def PacketSplitsUptoSaid : Prop := packetSplitsUptoRow.holds Tryd.pinned (OpenSpec.upto packetSplitsSpec)

/-- 'roboticslaw15.PacketUnframes', WHERE WHAT IT READS IS OF BULK AT MOST 1048576: true; the input reads as it did. -/
def packetUnframesUptoRow : OpenClaim := { program := "ytcjaaijohapeaaadoor", sum := "fa79e583a0752f6ccdad8c113bfaed027f31baaf667a9fe220b854a4dc0c8adc", func := "robotics/roboticslaw15.PacketUnframes", spec := "packetUnframes", inPlace := ["internal/abi.NoEscape", "slices.overlaps[robotics/api.Fragment]"], unfollowed := true, recurses := true, named := ["unicode/utf8.first", "unicode/utf8.acceptRanges"], plainKeys := false, apart := false, laid := [("unicode/utf8.acceptRanges", laid_unicode_utf8_acceptRanges), ("unicode/utf8.first", laid_unicode_utf8_first)], narrowed := true }
def PacketUnframesUptoSaid : Prop := packetUnframesUptoRow.holds Tryd.pinned (OpenSpec.upto packetUnframesSpec)

/-- 'roboticslaw15.PacketTravels', WHERE WHAT IT READS IS OF BULK AT MOST 1048576: true; the input reads as it did. -/
def packetTravelsUptoRow : OpenClaim := { program := "ytcjaaijohapeaaadoor", sum := "fa79e583a0752f6ccdad8c113bfaed027f31baaf667a9fe220b854a4dc0c8adc", func := "robotics/roboticslaw15.PacketTravels", spec := "packetTravels", inPlace := ["internal/abi.NoEscape", "slices.overlaps[robotics/api.Fragment]", "slices.overlaps[int]"], unfollowed := true, recurses := true, named := ["unicode/utf8.first", "unicode/utf8.acceptRanges"], plainKeys := false, apart := false, laid := [("unicode/utf8.acceptRanges", laid_unicode_utf8_acceptRanges), ("unicode/utf8.first", laid_unicode_utf8_first)], narrowed := true }
def PacketTravelsUptoSaid : Prop := packetTravelsUptoRow.holds Tryd.pinned (OpenSpec.upto packetTravelsSpec)

end Rows
end Go.Proofs.YtcjaaijohapeaaaDoor

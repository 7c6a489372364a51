/-
  NARROWER THAN 'FOR EVERY INPUT', by the rows' own cells (each row's printed sentence says how): NaturalTells: laid · NaturalValid: laid · NaturalDivides: laid · NaturalGcd: laid · NaturalRing: laid · NaturalOrders: laid · NaturalParses: laid · NaturalRoundTrip: laid · NaturalKeeps: laid.
  DERIVED. THE GIVEN ROWS OF THIS SEAT. 9 by the template 'for every input the law returns true; each argument reads behind the call as it read before'; 0 by the template 'total and deterministic' (their statements: YtaiceebhifecbaaDoorTotals.lean).
  GIVEN WITH THE SEED: the statements are not yours to turn. If you find one false, say at which input.
  Laid BY PROGRAM, IN A SANDBOX (cutbox-rows.mjs): the forced cells as the released guide's own fill.sh prints them over the translation 44378fc36459ab17… (all of the seat's roots in one cut). By AI agents, Wed Nov 11 2026. No macro, syntax, notation, axiom, sorry.
-/
import Derived.Test.YtaiceebhifecbaaDoorChecked
import GoSem.PinnedTables
import GoSem.Claim
import GoSem.ClaimJoined
import GoSem.ClaimMapViews
import Derived.JoinedTies
import Derived.KernelRfl
namespace Go.Proofs.YtaiceebhifecbaaDoor
/- THE CELL 'sum', in the pinned program and in every row, IS THE sha256 OF THE DUMP (.gsa) THAT YtaiceebhifecbaaDoorProg.lean LOADS. Nothing in Lean hashes anything: it is a label: what it is worth is what the hold of that sum in a sandbox is worth. -/
noncomputable def Tryd.pinned : Pinned := { name := "ytaiceebhifecbaadoor", sum := "44378fc36459ab17d8cbb7f11a3e3a1c4b2c4b52c80a012a857f5c0823786650", checked := Tryd.checked }
namespace Rows
def none {H : Type} : Left H := { results := [], args := [] }

/- WHAT THE LISTED PACKAGE-LEVEL VARIABLES READ AS WHEN THE CALL BEGINS. Each datum BY PROGRAM (the guide's laid-datum.mjs) off the statement by which the dump's own 'gosem.cut.vars' lays the variable. In a bare row this is a premise. The card (YtaiceebhifecbaaDoorCards.lean) ties it to the program's text. -/
def laid_unicode_utf8_acceptRanges {H : Type} : DataW H := .agg [.agg [.lit (.int .u8 128), .lit (.int .u8 191)], .agg [.lit (.int .u8 160), .lit (.int .u8 191)], .agg [.lit (.int .u8 128), .lit (.int .u8 159)], .agg [.lit (.int .u8 144), .lit (.int .u8 191)], .agg [.lit (.int .u8 128), .lit (.int .u8 143)], .agg [.lit (.int .u8 0), .lit (.int .u8 0)], .agg [.lit (.int .u8 0), .lit (.int .u8 0)], .agg [.lit (.int .u8 0), .lit (.int .u8 0)], .agg [.lit (.int .u8 0), .lit (.int .u8 0)], .agg [.lit (.int .u8 0), .lit (.int .u8 0)], .agg [.lit (.int .u8 0), .lit (.int .u8 0)], .agg [.lit (.int .u8 0), .lit (.int .u8 0)], .agg [.lit (.int .u8 0), .lit (.int .u8 0)], .agg [.lit (.int .u8 0), .lit (.int .u8 0)], .agg [.lit (.int .u8 0), .lit (.int .u8 0)], .agg [.lit (.int .u8 0), .lit (.int .u8 0)]]
/-- One of Go's own tables, pinned by name: the form's constant. -/
def laid_unicode_utf8_first : DataW Unit := Go.Pinned.utf8First

/-- 'roboticslaw01.NaturalTells': WHATEVER THE INPUT: true; the input reads as it did. -/
def naturalTellsSpec : ChangeSpec := { name := "naturalTells", fn := fun _ => fun
  | [d1, d2] => { results := [.lit (.bool true)], args := [d1, d2] }
  | _ => none }
def naturalTellsRow : OpenClaim := { program := "ytaiceebhifecbaadoor", sum := "44378fc36459ab17d8cbb7f11a3e3a1c4b2c4b52c80a012a857f5c0823786650", func := "robotics/roboticslaw01.NaturalTells", spec := "naturalTells", named := ["math/bits.overflowError", "unicode/utf8.first", "unicode/utf8.acceptRanges"], apart := false, laid := [("unicode/utf8.acceptRanges", laid_unicode_utf8_acceptRanges), ("unicode/utf8.first", laid_unicode_utf8_first)] }
def NaturalTellsSaid : Prop := naturalTellsRow.holds Tryd.pinned (OpenSpec.ofChange naturalTellsSpec)

/-- ITS FALSE NEIGHBOUR: 'it returns false'. Refute it at one input. -/
def naturalTellsWrong : ChangeSpec := { name := "naturalTells", fn := fun _ => fun
  | [d1, d2] => { results := [.lit (.bool false)], args := [d1, d2] }
  | _ => none }
def NaturalTellsWrongFalsely : Prop := naturalTellsRow.holds Tryd.pinned (OpenSpec.ofChange naturalTellsWrong)

/-- 'roboticslaw01.NaturalValid': WHATEVER THE INPUT: true; the input reads as it did. -/
def naturalValidSpec : ChangeSpec := { name := "naturalValid", fn := fun _ => fun
  | [d1, d2] => { results := [.lit (.bool true)], args := [d1, d2] }
  | _ => none }
def naturalValidRow : OpenClaim := { program := "ytaiceebhifecbaadoor", sum := "44378fc36459ab17d8cbb7f11a3e3a1c4b2c4b52c80a012a857f5c0823786650", func := "robotics/roboticslaw01.NaturalValid", spec := "naturalValid", named := ["math/bits.overflowError", "unicode/utf8.first", "unicode/utf8.acceptRanges"], apart := false, laid := [("unicode/utf8.acceptRanges", laid_unicode_utf8_acceptRanges), ("unicode/utf8.first", laid_unicode_utf8_first)] }
def NaturalValidSaid : Prop := naturalValidRow.holds Tryd.pinned (OpenSpec.ofChange naturalValidSpec)

/-- ITS FALSE NEIGHBOUR: 'it returns false'. Refute it at one input. -/
def naturalValidWrong : ChangeSpec := { name := "naturalValid", fn := fun _ => fun
  | [d1, d2] => { results := [.lit (.bool false)], args := [d1, d2] }
  | _ => none }
def NaturalValidWrongFalsely : Prop := naturalValidRow.holds Tryd.pinned (OpenSpec.ofChange naturalValidWrong)

/-- 'roboticslaw01.NaturalDivides': WHATEVER THE INPUT: true; the input reads as it did. -/
def naturalDividesSpec : ChangeSpec := { name := "naturalDivides", fn := fun _ => fun
  | [d1, d2] => { results := [.lit (.bool true)], args := [d1, d2] }
  | _ => none }
def naturalDividesRow : OpenClaim := { program := "ytaiceebhifecbaadoor", sum := "44378fc36459ab17d8cbb7f11a3e3a1c4b2c4b52c80a012a857f5c0823786650", func := "robotics/roboticslaw01.NaturalDivides", spec := "naturalDivides", named := ["math/bits.overflowError", "unicode/utf8.first", "unicode/utf8.acceptRanges"], apart := false, laid := [("unicode/utf8.acceptRanges", laid_unicode_utf8_acceptRanges), ("unicode/utf8.first", laid_unicode_utf8_first)] }
def NaturalDividesSaid : Prop := naturalDividesRow.holds Tryd.pinned (OpenSpec.ofChange naturalDividesSpec)

/-- ITS FALSE NEIGHBOUR: 'it returns false'. Refute it at one input. -/
def naturalDividesWrong : ChangeSpec := { name := "naturalDivides", fn := fun _ => fun
  | [d1, d2] => { results := [.lit (.bool false)], args := [d1, d2] }
  | _ => none }
def NaturalDividesWrongFalsely : Prop := naturalDividesRow.holds Tryd.pinned (OpenSpec.ofChange naturalDividesWrong)

/-- 'roboticslaw01.NaturalGcd': WHATEVER THE INPUT: true; the input reads as it did. -/
def naturalGcdSpec : ChangeSpec := { name := "naturalGcd", fn := fun _ => fun
  | [d1, d2, d3] => { results := [.lit (.bool true)], args := [d1, d2, d3] }
  | _ => none }
def naturalGcdRow : OpenClaim := { program := "ytaiceebhifecbaadoor", sum := "44378fc36459ab17d8cbb7f11a3e3a1c4b2c4b52c80a012a857f5c0823786650", func := "robotics/roboticslaw01.NaturalGcd", spec := "naturalGcd", named := ["math/bits.overflowError", "unicode/utf8.first", "unicode/utf8.acceptRanges"], apart := false, laid := [("unicode/utf8.acceptRanges", laid_unicode_utf8_acceptRanges), ("unicode/utf8.first", laid_unicode_utf8_first)] }
def NaturalGcdSaid : Prop := naturalGcdRow.holds Tryd.pinned (OpenSpec.ofChange naturalGcdSpec)

/-- ITS FALSE NEIGHBOUR: 'it returns false'. Refute it at one input. -/
def naturalGcdWrong : ChangeSpec := { name := "naturalGcd", fn := fun _ => fun
  | [d1, d2, d3] => { results := [.lit (.bool false)], args := [d1, d2, d3] }
  | _ => none }
def NaturalGcdWrongFalsely : Prop := naturalGcdRow.holds Tryd.pinned (OpenSpec.ofChange naturalGcdWrong)

/-- 'roboticslaw01.NaturalRing': WHATEVER THE INPUT: true; the input reads as it did. -/
def naturalRingSpec : ChangeSpec := { name := "naturalRing", fn := fun _ => fun
  | [d1, d2, d3] => { results := [.lit (.bool true)], args := [d1, d2, d3] }
  | _ => none }
def naturalRingRow : OpenClaim := { program := "ytaiceebhifecbaadoor", sum := "44378fc36459ab17d8cbb7f11a3e3a1c4b2c4b52c80a012a857f5c0823786650", func := "robotics/roboticslaw01.NaturalRing", spec := "naturalRing", named := ["math/bits.overflowError", "unicode/utf8.first", "unicode/utf8.acceptRanges"], apart := false, laid := [("unicode/utf8.acceptRanges", laid_unicode_utf8_acceptRanges), ("unicode/utf8.first", laid_unicode_utf8_first)] }
def NaturalRingSaid : Prop := naturalRingRow.holds Tryd.pinned (OpenSpec.ofChange naturalRingSpec)

/-- ITS FALSE NEIGHBOUR: 'it returns false'. Refute it at one input. -/
def naturalRingWrong : ChangeSpec := { name := "naturalRing", fn := fun _ => fun
  | [d1, d2, d3] => { results := [.lit (.bool false)], args := [d1, d2, d3] }
  | _ => none }
def NaturalRingWrongFalsely : Prop := naturalRingRow.holds Tryd.pinned (OpenSpec.ofChange naturalRingWrong)

/-- 'roboticslaw01.NaturalOrders': WHATEVER THE INPUT: true; the input reads as it did. -/
def naturalOrdersSpec : ChangeSpec := { name := "naturalOrders", fn := fun _ => fun
  | [d1, d2, d3] => { results := [.lit (.bool true)], args := [d1, d2, d3] }
  | _ => none }
def naturalOrdersRow : OpenClaim := { program := "ytaiceebhifecbaadoor", sum := "44378fc36459ab17d8cbb7f11a3e3a1c4b2c4b52c80a012a857f5c0823786650", func := "robotics/roboticslaw01.NaturalOrders", spec := "naturalOrders", named := ["math/bits.overflowError", "unicode/utf8.first", "unicode/utf8.acceptRanges"], apart := false, laid := [("unicode/utf8.acceptRanges", laid_unicode_utf8_acceptRanges), ("unicode/utf8.first", laid_unicode_utf8_first)] }
def NaturalOrdersSaid : Prop := naturalOrdersRow.holds Tryd.pinned (OpenSpec.ofChange naturalOrdersSpec)

/-- ITS FALSE NEIGHBOUR: 'it returns false'. Refute it at one input. -/
def naturalOrdersWrong : ChangeSpec := { name := "naturalOrders", fn := fun _ => fun
  | [d1, d2, d3] => { results := [.lit (.bool false)], args := [d1, d2, d3] }
  | _ => none }
def NaturalOrdersWrongFalsely : Prop := naturalOrdersRow.holds Tryd.pinned (OpenSpec.ofChange naturalOrdersWrong)

/-- 'roboticslaw01.NaturalParses': WHATEVER THE INPUT: true; the input reads as it did. -/
def naturalParsesSpec : ChangeSpec := { name := "naturalParses", fn := fun _ => fun
  | [d] => { results := [.lit (.bool true)], args := [d] }
  | _ => none }
def naturalParsesRow : OpenClaim := { program := "ytaiceebhifecbaadoor", sum := "44378fc36459ab17d8cbb7f11a3e3a1c4b2c4b52c80a012a857f5c0823786650", func := "robotics/roboticslaw01.NaturalParses", spec := "naturalParses", named := ["math/bits.overflowError", "unicode/utf8.first", "unicode/utf8.acceptRanges"], apart := false, laid := [("unicode/utf8.acceptRanges", laid_unicode_utf8_acceptRanges), ("unicode/utf8.first", laid_unicode_utf8_first)] }
def NaturalParsesSaid : Prop := naturalParsesRow.holds Tryd.pinned (OpenSpec.ofChange naturalParsesSpec)

/-- ITS FALSE NEIGHBOUR: 'it returns false'. Refute it at one input. -/
def naturalParsesWrong : ChangeSpec := { name := "naturalParses", fn := fun _ => fun
  | [d] => { results := [.lit (.bool false)], args := [d] }
  | _ => none }
def NaturalParsesWrongFalsely : Prop := naturalParsesRow.holds Tryd.pinned (OpenSpec.ofChange naturalParsesWrong)

/-- 'roboticslaw01.NaturalRoundTrip': WHATEVER THE INPUT: true; the input reads as it did. -/
def naturalRoundTripSpec : ChangeSpec := { name := "naturalRoundTrip", fn := fun _ => fun
  | [d] => { results := [.lit (.bool true)], args := [d] }
  | _ => none }
def naturalRoundTripRow : OpenClaim := { program := "ytaiceebhifecbaadoor", sum := "44378fc36459ab17d8cbb7f11a3e3a1c4b2c4b52c80a012a857f5c0823786650", func := "robotics/roboticslaw01.NaturalRoundTrip", spec := "naturalRoundTrip", named := ["math/bits.overflowError", "unicode/utf8.first", "unicode/utf8.acceptRanges"], apart := false, laid := [("unicode/utf8.acceptRanges", laid_unicode_utf8_acceptRanges), ("unicode/utf8.first", laid_unicode_utf8_first)] }
def NaturalRoundTripSaid : Prop := naturalRoundTripRow.holds Tryd.pinned (OpenSpec.ofChange naturalRoundTripSpec)

/-- ITS FALSE NEIGHBOUR: 'it returns false'. Refute it at one input. -/
def naturalRoundTripWrong : ChangeSpec := { name := "naturalRoundTrip", fn := fun _ => fun
  | [d] => { results := [.lit (.bool false)], args := [d] }
  | _ => none }
def NaturalRoundTripWrongFalsely : Prop := naturalRoundTripRow.holds Tryd.pinned (OpenSpec.ofChange naturalRoundTripWrong)

/-- 'roboticslaw01.NaturalKeeps': WHATEVER THE INPUT: true; the input reads as it did. -/
def naturalKeepsSpec : ChangeSpec := { name := "naturalKeeps", fn := fun _ => fun
  | [d1, d2] => { results := [.lit (.bool true)], args := [d1, d2] }
  | _ => none }
def naturalKeepsRow : OpenClaim := { program := "ytaiceebhifecbaadoor", sum := "44378fc36459ab17d8cbb7f11a3e3a1c4b2c4b52c80a012a857f5c0823786650", func := "robotics/roboticslaw01.NaturalKeeps", spec := "naturalKeeps", named := ["math/bits.overflowError", "unicode/utf8.first", "unicode/utf8.acceptRanges"], apart := false, laid := [("unicode/utf8.acceptRanges", laid_unicode_utf8_acceptRanges), ("unicode/utf8.first", laid_unicode_utf8_first)] }
def NaturalKeepsSaid : Prop := naturalKeepsRow.holds Tryd.pinned (OpenSpec.ofChange naturalKeepsSpec)

/-- ITS FALSE NEIGHBOUR: 'it returns false'. Refute it at one input. -/
def naturalKeepsWrong : ChangeSpec := { name := "naturalKeeps", fn := fun _ => fun
  | [d1, d2] => { results := [.lit (.bool false)], args := [d1, d2] }
  | _ => none }
def NaturalKeepsWrongFalsely : Prop := naturalKeepsRow.holds Tryd.pinned (OpenSpec.ofChange naturalKeepsWrong)

/- THE SECOND FORM. 'bulk': how many values and letters a reading holds, each counted each time it is reached (what is shared counts as often as it is met; a slice's spare places count too). A statement '..UptoSaid' is the law's where the arguments, and the package variables that the reading takes, are together of bulk at most 1048576: NARROWER than '..Said'. Prove '..Said' where nothing that the law and all that it calls make is longer than what came in: it says more and counts as full. Else prove '..UptoSaid'. A law counts once. -/
mutual
def uptoBulk {H : Type} : DataW H → Nat
  | .lit (.string bytes) => bytes.length + 1
  | .lit _ => 1
  | .nil => 1
  | .ptr d => uptoBulk d + 1
  | .slice elems spare => uptoBulkAll elems + uptoBulkAll spare + 1
  | .agg parts => uptoBulkAll parts + 1
  | .iface _ d => uptoBulk d + 1
  | .map entries => uptoBulkEntries entries + 1
  | .held _ => 1
def uptoBulkAll {H : Type} : List (DataW H) → Nat
  | [] => 0
  | d :: r => uptoBulk d + uptoBulkAll r
def uptoBulkEntries {H : Type} : List (Lit × DataW H) → Nat
  | [] => 0
  | x :: r => uptoBulkEntry x + uptoBulkEntries r
def uptoBulkEntry {H : Type} : Lit × DataW H → Nat
  | (.string bytes, d) => bytes.length + uptoBulk d + 1
  | (_, d) => uptoBulk d + 1
 end
def uptoSmall : (H : Type) → List (DataW H) → Bool := fun _ ds => decide (uptoBulkAll ds ≤ 1048576)
def OpenSpec.upto (s : _root_.Go.ChangeSpec) : _root_.Go.OpenSpec := { _root_.Go.OpenSpec.ofChange s with cond := some uptoSmall }

/-- 'roboticslaw01.NaturalTells', WHERE WHAT IT READS IS OF BULK AT MOST 1048576: true; the input reads as it did. -/
def naturalTellsUptoRow : OpenClaim := { program := "ytaiceebhifecbaadoor", sum := "44378fc36459ab17d8cbb7f11a3e3a1c4b2c4b52c80a012a857f5c0823786650", func := "robotics/roboticslaw01.NaturalTells", spec := "naturalTells", named := ["math/bits.overflowError", "unicode/utf8.first", "unicode/utf8.acceptRanges"], apart := false, laid := [("unicode/utf8.acceptRanges", laid_unicode_utf8_acceptRanges), ("unicode/utf8.first", laid_unicode_utf8_first)], narrowed := true }
def NaturalTellsUptoSaid : Prop := naturalTellsUptoRow.holds Tryd.pinned (OpenSpec.upto naturalTellsSpec)

/-- 'roboticslaw01.NaturalValid', WHERE WHAT IT READS IS OF BULK AT MOST 1048576: true; the input reads as it did. -/
def naturalValidUptoRow : OpenClaim := { program := "ytaiceebhifecbaadoor", sum := "44378fc36459ab17d8cbb7f11a3e3a1c4b2c4b52c80a012a857f5c0823786650", func := "robotics/roboticslaw01.NaturalValid", spec := "naturalValid", named := ["math/bits.overflowError", "unicode/utf8.first", "unicode/utf8.acceptRanges"], apart := false, laid := [("unicode/utf8.acceptRanges", laid_unicode_utf8_acceptRanges), ("unicode/utf8.first", laid_unicode_utf8_first)], narrowed := true }
def NaturalValidUptoSaid : Prop := naturalValidUptoRow.holds Tryd.pinned (OpenSpec.upto naturalValidSpec)

/-- 'roboticslaw01.NaturalDivides', WHERE WHAT IT READS IS OF BULK AT MOST 1048576: true; the input reads as it did. -/
def naturalDividesUptoRow : OpenClaim := { program := "ytaiceebhifecbaadoor", sum := "44378fc36459ab17d8cbb7f11a3e3a1c4b2c4b52c80a012a857f5c0823786650", func := "robotics/roboticslaw01.NaturalDivides", spec := "naturalDivides", named := ["math/bits.overflowError", "unicode/utf8.first", "unicode/utf8.acceptRanges"], apart := false, laid := [("unicode/utf8.acceptRanges", laid_unicode_utf8_acceptRanges), ("unicode/utf8.first", laid_unicode_utf8_first)], narrowed := true }
def NaturalDividesUptoSaid : Prop := naturalDividesUptoRow.holds Tryd.pinned (OpenSpec.upto naturalDividesSpec)

/-- 'roboticslaw01.NaturalGcd', WHERE WHAT IT READS IS OF BULK AT MOST 1048576: true; the input reads as it did. -/
def naturalGcdUptoRow : OpenClaim := { program := "ytaiceebhifecbaadoor", sum := "44378fc36459ab17d8cbb7f11a3e3a1c4b2c4b52c80a012a857f5c0823786650", func := "robotics/roboticslaw01.NaturalGcd", spec := "naturalGcd", named := ["math/bits.overflowError", "unicode/utf8.first", "unicode/utf8.acceptRanges"], apart := false, laid := [("unicode/utf8.acceptRanges", laid_unicode_utf8_acceptRanges), ("unicode/utf8.first", laid_unicode_utf8_first)], narrowed := true }
def NaturalGcdUptoSaid : Prop := naturalGcdUptoRow.holds Tryd.pinned (OpenSpec.upto naturalGcdSpec)

/-- 'roboticslaw01.NaturalRing', WHERE WHAT IT READS IS OF BULK AT MOST 1048576: true; the input reads as it did. -/
def naturalRingUptoRow : OpenClaim := { program := "ytaiceebhifecbaadoor", sum := "44378fc36459ab17d8cbb7f11a3e3a1c4b2c4b52c80a012a857f5c0823786650", func := "robotics/roboticslaw01.NaturalRing", spec := "naturalRing", named := ["math/bits.overflowError", "unicode/utf8.first", "unicode/utf8.acceptRanges"], apart := false, laid := [("unicode/utf8.acceptRanges", laid_unicode_utf8_acceptRanges), ("unicode/utf8.first", laid_unicode_utf8_first)], narrowed := true }
def NaturalRingUptoSaid : Prop := naturalRingUptoRow.holds Tryd.pinned (OpenSpec.upto naturalRingSpec)

/-- 'roboticslaw01.NaturalOrders', WHERE WHAT IT READS IS OF BULK AT MOST 1048576: true; the input reads as it did. -/
def naturalOrdersUptoRow : OpenClaim := { program := "ytaiceebhifecbaadoor", sum := "44378fc36459ab17d8cbb7f11a3e3a1c4b2c4b52c80a012a857f5c0823786650", func := "robotics/roboticslaw01.NaturalOrders", spec := "naturalOrders", named := ["math/bits.overflowError", "unicode/utf8.first", "unicode/utf8.acceptRanges"], apart := false, laid := [("unicode/utf8.acceptRanges", laid_unicode_utf8_acceptRanges), ("unicode/utf8.first", laid_unicode_utf8_first)], narrowed := true }
def NaturalOrdersUptoSaid : Prop := naturalOrdersUptoRow.holds Tryd.pinned (OpenSpec.upto naturalOrdersSpec)

/-- 'roboticslaw01.NaturalParses', WHERE WHAT IT READS IS OF BULK AT MOST 1048576: true; the input reads as it did. -/
def naturalParsesUptoRow : OpenClaim := { program := "ytaiceebhifecbaadoor", sum := "44378fc36459ab17d8cbb7f11a3e3a1c4b2c4b52c80a012a857f5c0823786650", func := "robotics/roboticslaw01.NaturalParses", spec := "naturalParses", named := ["math/bits.overflowError", "unicode/utf8.first", "unicode/utf8.acceptRanges"], apart := false, laid := [("unicode/utf8.acceptRanges", laid_unicode_utf8_acceptRanges), ("unicode/utf8.first", laid_unicode_utf8_first)], narrowed := true }
def NaturalParsesUptoSaid : Prop := naturalParsesUptoRow.holds Tryd.pinned (OpenSpec.upto naturalParsesSpec)

/-- 'roboticslaw01.NaturalRoundTrip', WHERE WHAT IT READS IS OF BULK AT MOST 1048576: true; the input reads as it did. -/
def naturalRoundTripUptoRow : OpenClaim := { program := "ytaiceebhifecbaadoor", sum := "44378fc36459ab17d8cbb7f11a3e3a1c4b2c4b52c80a012a857f5c0823786650", func := "robotics/roboticslaw01.NaturalRoundTrip", spec := "naturalRoundTrip", named := ["math/bits.overflowError", "unicode/utf8.first", "unicode/utf8.acceptRanges"], apart := false, laid := [("unicode/utf8.acceptRanges", laid_unicode_utf8_acceptRanges), ("unicode/utf8.first", laid_unicode_utf8_first)], narrowed := true }
def NaturalRoundTripUptoSaid : Prop := naturalRoundTripUptoRow.holds Tryd.pinned (OpenSpec.upto naturalRoundTripSpec)

/-- 'roboticslaw01.NaturalKeeps', WHERE WHAT IT READS IS OF BULK AT MOST 1048576: true; the input reads as it did. -/
def naturalKeepsUptoRow : OpenClaim := { program := "ytaiceebhifecbaadoor", sum := "44378fc36459ab17d8cbb7f11a3e3a1c4b2c4b52c80a012a857f5c0823786650", func := "robotics/roboticslaw01.NaturalKeeps", spec := "naturalKeeps", named := ["math/bits.overflowError", "unicode/utf8.first", "unicode/utf8.acceptRanges"], apart := false, laid := [("unicode/utf8.acceptRanges", laid_unicode_utf8_acceptRanges), ("unicode/utf8.first", laid_unicode_utf8_first)], narrowed := true }
def NaturalKeepsUptoSaid : Prop := naturalKeepsUptoRow.holds Tryd.pinned (OpenSpec.upto naturalKeepsSpec)

end Rows
end Go.Proofs.YtaiceebhifecbaaDoor

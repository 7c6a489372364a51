/-
  NARROWER THAN 'FOR EVERY INPUT', by the rows' own cells (each row's printed sentence says how): ChecksumCrcs: laid · ChecksumHashes: laid · ChecksumSeals: laid · ChecksumBursts: laid · ChecksumLinear: laid · ChecksumChains: laid.
  DERIVED. THE GIVEN ROWS OF THIS SEAT. 6 by the template 'for every input the law returns true; each argument reads behind the call as it read before'; 0 by the template 'total and deterministic' (their statements: YtghmbglnhcdbjaaDoorTotals.lean).
  GIVEN WITH THE SEED: the statements are not yours to turn. If you find one false, say at which input.
  Laid BY PROGRAM, IN A SANDBOX (cutbox-rows.mjs): the forced cells as the released guide's own fill.sh prints them over the translation 9ecd57e94b425fbd… (all of the seat's roots in one cut). By AI agents, Wed Nov 11 2026. No macro, syntax, notation, axiom, sorry.
-/
import Derived.Test.YtghmbglnhcdbjaaDoorChecked
import GoSem.PinnedTables
import GoSem.Claim
import GoSem.ClaimJoined
import GoSem.ClaimMapViews
import Derived.JoinedTies
import Derived.KernelRfl
namespace Go.Proofs.YtghmbglnhcdbjaaDoor
/- THE CELL 'sum', in the pinned program and in every row, IS THE sha256 OF THE DUMP (.gsa) THAT YtghmbglnhcdbjaaDoorProg.lean LOADS. Nothing in Lean hashes anything: it is a label: what it is worth is what the hold of that sum in a sandbox is worth. -/
noncomputable def Tryd.pinned : Pinned := { name := "ytghmbglnhcdbjaadoor", sum := "9ecd57e94b425fbdbc9025628d817b1ee6bb42fcc21857882a4b21f171078e37", checked := Tryd.checked }
namespace Rows
def none {H : Type} : Left H := { results := [], args := [] }

/- WHAT THE LISTED PACKAGE-LEVEL VARIABLES READ AS WHEN THE CALL BEGINS. Each datum BY PROGRAM (the guide's laid-datum.mjs) off the statement by which the dump's own 'gosem.cut.vars' lays the variable. In a bare row this is a premise. The card (YtghmbglnhcdbjaaDoorCards.lean) ties it to the program's text. -/
def laid_unicode_utf8_acceptRanges {H : Type} : DataW H := .agg [.agg [.lit (.int .u8 128), .lit (.int .u8 191)], .agg [.lit (.int .u8 160), .lit (.int .u8 191)], .agg [.lit (.int .u8 128), .lit (.int .u8 159)], .agg [.lit (.int .u8 144), .lit (.int .u8 191)], .agg [.lit (.int .u8 128), .lit (.int .u8 143)], .agg [.lit (.int .u8 0), .lit (.int .u8 0)], .agg [.lit (.int .u8 0), .lit (.int .u8 0)], .agg [.lit (.int .u8 0), .lit (.int .u8 0)], .agg [.lit (.int .u8 0), .lit (.int .u8 0)], .agg [.lit (.int .u8 0), .lit (.int .u8 0)], .agg [.lit (.int .u8 0), .lit (.int .u8 0)], .agg [.lit (.int .u8 0), .lit (.int .u8 0)], .agg [.lit (.int .u8 0), .lit (.int .u8 0)], .agg [.lit (.int .u8 0), .lit (.int .u8 0)], .agg [.lit (.int .u8 0), .lit (.int .u8 0)], .agg [.lit (.int .u8 0), .lit (.int .u8 0)]]
/-- One of Go's own tables, pinned by name: the form's constant. -/
def laid_unicode_utf8_first : DataW Unit := Go.Pinned.utf8First

/-- 'roboticslaw05.ChecksumCrcs': WHATEVER THE INPUT: true; the input reads as it did. -/
def checksumCrcsSpec : ChangeSpec := { name := "checksumCrcs", fn := fun _ => fun
  | [d] => { results := [.lit (.bool true)], args := [d] }
  | _ => none }
def checksumCrcsRow : OpenClaim := { program := "ytghmbglnhcdbjaadoor", sum := "9ecd57e94b425fbdbc9025628d817b1ee6bb42fcc21857882a4b21f171078e37", func := "robotics/roboticslaw05.ChecksumCrcs", spec := "checksumCrcs", unfollowed := true, recurses := true, named := ["unicode/utf8.first", "unicode/utf8.acceptRanges"], apart := false, laid := [("unicode/utf8.acceptRanges", laid_unicode_utf8_acceptRanges), ("unicode/utf8.first", laid_unicode_utf8_first)] }
def ChecksumCrcsSaid : Prop := checksumCrcsRow.holds Tryd.pinned (OpenSpec.ofChange checksumCrcsSpec)

/-- ITS FALSE NEIGHBOUR: 'it returns false'. Refute it at one input. -/
def checksumCrcsWrong : ChangeSpec := { name := "checksumCrcs", fn := fun _ => fun
  | [d] => { results := [.lit (.bool false)], args := [d] }
  | _ => none }
def ChecksumCrcsWrongFalsely : Prop := checksumCrcsRow.holds Tryd.pinned (OpenSpec.ofChange checksumCrcsWrong)

/-- 'roboticslaw05.ChecksumHashes': WHATEVER THE INPUT: true; the input reads as it did. -/
def checksumHashesSpec : ChangeSpec := { name := "checksumHashes", fn := fun _ => fun
  | [d1, d2, d3] => { results := [.lit (.bool true)], args := [d1, d2, d3] }
  | _ => none }
def checksumHashesRow : OpenClaim := { program := "ytghmbglnhcdbjaadoor", sum := "9ecd57e94b425fbdbc9025628d817b1ee6bb42fcc21857882a4b21f171078e37", func := "robotics/roboticslaw05.ChecksumHashes", spec := "checksumHashes", unfollowed := true, recurses := true, named := ["unicode/utf8.first", "unicode/utf8.acceptRanges"], apart := false, laid := [("unicode/utf8.acceptRanges", laid_unicode_utf8_acceptRanges), ("unicode/utf8.first", laid_unicode_utf8_first)] }
def ChecksumHashesSaid : Prop := checksumHashesRow.holds Tryd.pinned (OpenSpec.ofChange checksumHashesSpec)

/-- ITS FALSE NEIGHBOUR: 'it returns false'. Refute it at one input. -/
def checksumHashesWrong : ChangeSpec := { name := "checksumHashes", fn := fun _ => fun
  | [d1, d2, d3] => { results := [.lit (.bool false)], args := [d1, d2, d3] }
  | _ => none }
def ChecksumHashesWrongFalsely : Prop := checksumHashesRow.holds Tryd.pinned (OpenSpec.ofChange checksumHashesWrong)

/-- 'roboticslaw05.ChecksumSeals': WHATEVER THE INPUT: true; the input reads as it did. -/
def checksumSealsSpec : ChangeSpec := { name := "checksumSeals", fn := fun _ => fun
  | [d1, d2] => { results := [.lit (.bool true)], args := [d1, d2] }
  | _ => none }
def checksumSealsRow : OpenClaim := { program := "ytghmbglnhcdbjaadoor", sum := "9ecd57e94b425fbdbc9025628d817b1ee6bb42fcc21857882a4b21f171078e37", func := "robotics/roboticslaw05.ChecksumSeals", spec := "checksumSeals", unfollowed := true, recurses := true, named := ["unicode/utf8.first", "unicode/utf8.acceptRanges"], apart := false, laid := [("unicode/utf8.acceptRanges", laid_unicode_utf8_acceptRanges), ("unicode/utf8.first", laid_unicode_utf8_first)] }
def ChecksumSealsSaid : Prop := checksumSealsRow.holds Tryd.pinned (OpenSpec.ofChange checksumSealsSpec)

/-- ITS FALSE NEIGHBOUR: 'it returns false'. Refute it at one input. -/
def checksumSealsWrong : ChangeSpec := { name := "checksumSeals", fn := fun _ => fun
  | [d1, d2] => { results := [.lit (.bool false)], args := [d1, d2] }
  | _ => none }
def ChecksumSealsWrongFalsely : Prop := checksumSealsRow.holds Tryd.pinned (OpenSpec.ofChange checksumSealsWrong)

/-- 'roboticslaw05.ChecksumBursts': WHATEVER THE INPUT: true; the input reads as it did. -/
def checksumBurstsSpec : ChangeSpec := { name := "checksumBursts", fn := fun _ => fun
  | [d1, d2, d3] => { results := [.lit (.bool true)], args := [d1, d2, d3] }
  | _ => none }
def checksumBurstsRow : OpenClaim := { program := "ytghmbglnhcdbjaadoor", sum := "9ecd57e94b425fbdbc9025628d817b1ee6bb42fcc21857882a4b21f171078e37", func := "robotics/roboticslaw05.ChecksumBursts", spec := "checksumBursts", unfollowed := true, recurses := true, named := ["unicode/utf8.first", "unicode/utf8.acceptRanges"], apart := false, laid := [("unicode/utf8.acceptRanges", laid_unicode_utf8_acceptRanges), ("unicode/utf8.first", laid_unicode_utf8_first)] }
def ChecksumBurstsSaid : Prop := checksumBurstsRow.holds Tryd.pinned (OpenSpec.ofChange checksumBurstsSpec)

/-- ITS FALSE NEIGHBOUR: 'it returns false'. Refute it at one input. -/
def checksumBurstsWrong : ChangeSpec := { name := "checksumBursts", fn := fun _ => fun
  | [d1, d2, d3] => { results := [.lit (.bool false)], args := [d1, d2, d3] }
  | _ => none }
def ChecksumBurstsWrongFalsely : Prop := checksumBurstsRow.holds Tryd.pinned (OpenSpec.ofChange checksumBurstsWrong)

/-- 'roboticslaw05.ChecksumLinear': WHATEVER THE INPUT: true; the input reads as it did. -/
def checksumLinearSpec : ChangeSpec := { name := "checksumLinear", fn := fun _ => fun
  | [d1, d2, d3] => { results := [.lit (.bool true)], args := [d1, d2, d3] }
  | _ => none }
def checksumLinearRow : OpenClaim := { program := "ytghmbglnhcdbjaadoor", sum := "9ecd57e94b425fbdbc9025628d817b1ee6bb42fcc21857882a4b21f171078e37", func := "robotics/roboticslaw05.ChecksumLinear", spec := "checksumLinear", unfollowed := true, recurses := true, named := ["unicode/utf8.first", "unicode/utf8.acceptRanges"], apart := false, laid := [("unicode/utf8.acceptRanges", laid_unicode_utf8_acceptRanges), ("unicode/utf8.first", laid_unicode_utf8_first)] }
def ChecksumLinearSaid : Prop := checksumLinearRow.holds Tryd.pinned (OpenSpec.ofChange checksumLinearSpec)

/-- ITS FALSE NEIGHBOUR: 'it returns false'. Refute it at one input. -/
def checksumLinearWrong : ChangeSpec := { name := "checksumLinear", fn := fun _ => fun
  | [d1, d2, d3] => { results := [.lit (.bool false)], args := [d1, d2, d3] }
  | _ => none }
def ChecksumLinearWrongFalsely : Prop := checksumLinearRow.holds Tryd.pinned (OpenSpec.ofChange checksumLinearWrong)

/-- 'roboticslaw05.ChecksumChains': WHATEVER THE INPUT: true; the input reads as it did. -/
def checksumChainsSpec : ChangeSpec := { name := "checksumChains", fn := fun _ => fun
  | [d1, d2, d3] => { results := [.lit (.bool true)], args := [d1, d2, d3] }
  | _ => none }
def checksumChainsRow : OpenClaim := { program := "ytghmbglnhcdbjaadoor", sum := "9ecd57e94b425fbdbc9025628d817b1ee6bb42fcc21857882a4b21f171078e37", func := "robotics/roboticslaw05.ChecksumChains", spec := "checksumChains", unfollowed := true, recurses := true, named := ["unicode/utf8.first", "unicode/utf8.acceptRanges"], apart := false, laid := [("unicode/utf8.acceptRanges", laid_unicode_utf8_acceptRanges), ("unicode/utf8.first", laid_unicode_utf8_first)] }
def ChecksumChainsSaid : Prop := checksumChainsRow.holds Tryd.pinned (OpenSpec.ofChange checksumChainsSpec)

/-- ITS FALSE NEIGHBOUR: 'it returns false'. Refute it at one input. -/
def checksumChainsWrong : ChangeSpec := { name := "checksumChains", fn := fun _ => fun
  | [d1, d2, d3] => { results := [.lit (.bool false)], args := [d1, d2, d3] }
  | _ => none }
def ChecksumChainsWrongFalsely : Prop := checksumChainsRow.holds Tryd.pinned (OpenSpec.ofChange checksumChainsWrong)

/- THE SECOND FORM. 'bulk': how many values and letters a reading holds, each counted each time it is reached (what is shared counts as often as it is met; a slice's spare places count too). A statement '..UptoSaid' is the law's where the arguments, and the package variables that the reading takes, are together of bulk at most 1048576: NARROWER than '..Said'. Prove '..Said' where nothing that the law and all that it calls make is longer than what came in: it says more and counts as full. Else prove '..UptoSaid'. A law counts once. -/
mutual
def uptoBulk {H : Type} : DataW H → Nat
  | .lit (.string bytes) => bytes.length + 1
  | .lit _ => 1
  | .nil => 1
  | .ptr d => uptoBulk d + 1
  | .slice elems spare => uptoBulkAll elems + uptoBulkAll spare + 1
  | .agg parts => uptoBulkAll parts + 1
  | .iface _ d => uptoBulk d + 1
  | .map entries => uptoBulkEntries entries + 1
  | .held _ => 1
def uptoBulkAll {H : Type} : List (DataW H) → Nat
  | [] => 0
  | d :: r => uptoBulk d + uptoBulkAll r
def uptoBulkEntries {H : Type} : List (Lit × DataW H) → Nat
  | [] => 0
  | x :: r => uptoBulkEntry x + uptoBulkEntries r
def uptoBulkEntry {H : Type} : Lit × DataW H → Nat
  | (.string bytes, d) => bytes.length + uptoBulk d + 1
  | (_, d) => uptoBulk d + 1
 end
def uptoSmall : (H : Type) → List (DataW H) → Bool := fun _ ds => decide (uptoBulkAll ds ≤ 1048576)
def OpenSpec.upto (s : _root_.Go.ChangeSpec) : _root_.Go.OpenSpec := { _root_.Go.OpenSpec.ofChange s with cond := some uptoSmall }

/-- 'roboticslaw05.ChecksumCrcs', WHERE WHAT IT READS IS OF BULK AT MOST 1048576: true; the input reads as it did. -/
def checksumCrcsUptoRow : OpenClaim := { program := "ytghmbglnhcdbjaadoor", sum := "9ecd57e94b425fbdbc9025628d817b1ee6bb42fcc21857882a4b21f171078e37", func := "robotics/roboticslaw05.ChecksumCrcs", spec := "checksumCrcs", unfollowed := true, recurses := true, named := ["unicode/utf8.first", "unicode/utf8.acceptRanges"], apart := false, laid := [("unicode/utf8.acceptRanges", laid_unicode_utf8_acceptRanges), ("unicode/utf8.first", laid_unicode_utf8_first)], narrowed := true }
def ChecksumCrcsUptoSaid : Prop := checksumCrcsUptoRow.holds Tryd.pinned (OpenSpec.upto checksumCrcsSpec)

/-- 'roboticslaw05.ChecksumHashes', WHERE WHAT IT READS IS OF BULK AT MOST 1048576: true; the input reads as it did. -/
def checksumHashesUptoRow : OpenClaim := { program := "ytghmbglnhcdbjaadoor", sum := "9ecd57e94b425fbdbc9025628d817b1ee6bb42fcc21857882a4b21f171078e37", func := "robotics/roboticslaw05.ChecksumHashes", spec := "checksumHashes", unfollowed := true, recurses := true, named := ["unicode/utf8.first", "unicode/utf8.acceptRanges"], apart := false, laid := [("unicode/utf8.acceptRanges", laid_unicode_utf8_acceptRanges), ("unicode/utf8.first", laid_unicode_utf8_first)], narrowed := true }
def ChecksumHashesUptoSaid : Prop := checksumHashesUptoRow.holds Tryd.pinned (OpenSpec.upto checksumHashesSpec)

/-- 'roboticslaw05.ChecksumSeals', WHERE WHAT IT READS IS OF BULK AT MOST 1048576: true; the input reads as it did. -/
def checksumSealsUptoRow : OpenClaim := { program := "ytghmbglnhcdbjaadoor", sum := "9ecd57e94b425fbdbc9025628d817b1ee6bb42fcc21857882a4b21f171078e37", func := "robotics/roboticslaw05.ChecksumSeals", spec := "checksumSeals", unfollowed := true, recurses := true, named := ["unicode/utf8.first", "unicode/utf8.acceptRanges"], apart := false, laid := [("unicode/utf8.acceptRanges", laid_unicode_utf8_acceptRanges), ("unicode/utf8.first", laid_unicode_utf8_first)], narrowed := true }
def ChecksumSealsUptoSaid : Prop := checksumSealsUptoRow.holds Tryd.pinned (OpenSpec.upto checksumSealsSpec)

/-- 'roboticslaw05.ChecksumBursts', WHERE WHAT IT READS IS OF BULK AT MOST 1048576: true; the input reads as it did. -/
def checksumBurstsUptoRow : OpenClaim := { program := "ytghmbglnhcdbjaadoor", sum := "9ecd57e94b425fbdbc9025628d817b1ee6bb42fcc21857882a4b21f171078e37", func := "robotics/roboticslaw05.ChecksumBursts", spec := "checksumBursts", unfollowed := true, recurses := true, named := ["unicode/utf8.first", "unicode/utf8.acceptRanges"], apart := false, laid := [("unicode/utf8.acceptRanges", laid_unicode_utf8_acceptRanges), ("unicode/utf8.first", laid_unicode_utf8_first)], narrowed := true }
def ChecksumBurstsUptoSaid : Prop := checksumBurstsUptoRow.holds Tryd.pinned (OpenSpec.upto checksumBurstsSpec)

/-- 'roboticslaw05.ChecksumLinear', WHERE WHAT IT READS IS OF BULK AT MOST 1048576: true; the input reads as it did. -/
def checksumLinearUptoRow : OpenClaim := { program := "ytghmbglnhcdbjaadoor", sum := "9ecd57e94b425fbdbc9025628d817b1ee6bb42fcc21857882a4b21f171078e37", func := "robotics/roboticslaw05.ChecksumLinear", spec := "checksumLinear", unfollowed := true, recurses := true, named := ["unicode/utf8.first", "unicode/utf8.acceptRanges"], apart := false, laid := [("unicode/utf8.acceptRanges", laid_unicode_utf8_acceptRanges), ("unicode/utf8.first", laid_unicode_utf8_first)], narrowed := true }
def ChecksumLinearUptoSaid : Prop := checksumLinearUptoRow.holds Tryd.pinned (OpenSpec.upto checksumLinearSpec)

/-- 'roboticslaw05.ChecksumChains', WHERE WHAT IT READS IS OF BULK AT MOST 1048576: true; the input reads as it did. -/
def checksumChainsUptoRow : OpenClaim := { program := "ytghmbglnhcdbjaadoor", sum := "9ecd57e94b425fbdbc9025628d817b1ee6bb42fcc21857882a4b21f171078e37", func := "robotics/roboticslaw05.ChecksumChains", spec := "checksumChains", unfollowed := true, recurses := true, named := ["unicode/utf8.first", "unicode/utf8.acceptRanges"], apart := false, laid := [("unicode/utf8.acceptRanges", laid_unicode_utf8_acceptRanges), ("unicode/utf8.first", laid_unicode_utf8_first)], narrowed := true }
def ChecksumChainsUptoSaid : Prop := checksumChainsUptoRow.holds Tryd.pinned (OpenSpec.upto checksumChainsSpec)

end Rows
end Go.Proofs.YtghmbglnhcdbjaaDoor

/-
  No cell of these rows narrows 'for every input' (looked for: loops, veiled, ifaces, maps, wideKeys, modest, calm, conditions, laid).
  DERIVED. THE GIVEN ROWS OF THIS SEAT. 5 by the template 'for every input the law returns true; each argument reads behind the call as it read before'; 0 by the template 'total and deterministic' (their statements: YtndidbanbklonaaTotals.lean).
  GIVEN WITH THE SEED: the statements are not yours to turn. If you find one false, say at which input.
  Laid BY PROGRAM, IN A SANDBOX (cutbox-rows.mjs): the forced cells as the released guide's own fill.sh prints them over the translation 8aba2c3eca1f0a0a… (all of the seat's roots in one cut). By AI agents, Wed Nov 11 2026. No macro, syntax, notation, axiom, sorry.
-/
import Derived.Test.YtndidbanbklonaaChecked
import GoSem.Claim
import GoSem.ClaimJoined
import GoSem.ClaimMapViews
import Derived.JoinedTies
import Derived.KernelRfl
namespace Go.Proofs.Ytndidbanbklonaa
/- THE CELL 'sum', in the pinned program and in every row, IS THE sha256 OF THE DUMP (.gsa) THAT YtndidbanbklonaaProg.lean LOADS. Nothing in Lean hashes anything: it is a label: what it is worth is what the hold of that sum in a sandbox is worth. -/
noncomputable def Try.pinned : Pinned := { name := "ytndidbanbklonaa", sum := "8aba2c3eca1f0a0ac7a336d7bd681a7dd1dafd769c552ec028130baefacdcb53", checked := Try.checked }
namespace Rows
def none {H : Type} : Left H := { results := [], args := [] }

/-- 'roboticslaw14.NetworkDelivers': WHATEVER THE INPUT: true; the input reads as it did. -/
def networkDeliversSpec : ChangeSpec := { name := "networkDelivers", fn := fun _ => fun
  | [d1, d2, d3] => { results := [.lit (.bool true)], args := [d1, d2, d3] }
  | _ => none }
def networkDeliversRow : OpenClaim := { program := "ytndidbanbklonaa", sum := "8aba2c3eca1f0a0ac7a336d7bd681a7dd1dafd769c552ec028130baefacdcb53", func := "robotics/roboticslaw14.NetworkDelivers", spec := "networkDelivers", inPlace := ["slices.overlaps[int]"], apart := false }
def NetworkDeliversSaid : Prop := networkDeliversRow.holds Try.pinned (OpenSpec.ofChange networkDeliversSpec)

/-- ITS FALSE NEIGHBOUR: 'it returns false'. Refute it at one input. -/
def networkDeliversWrong : ChangeSpec := { name := "networkDelivers", fn := fun _ => fun
  | [d1, d2, d3] => { results := [.lit (.bool false)], args := [d1, d2, d3] }
  | _ => none }
def NetworkDeliversWrongFalsely : Prop := networkDeliversRow.holds Try.pinned (OpenSpec.ofChange networkDeliversWrong)

/-- 'roboticslaw14.NetworkChecks': WHATEVER THE INPUT: true; the input reads as it did. -/
def networkChecksSpec : ChangeSpec := { name := "networkChecks", fn := fun _ => fun
  | [d] => { results := [.lit (.bool true)], args := [d] }
  | _ => none }
def networkChecksRow : OpenClaim := { program := "ytndidbanbklonaa", sum := "8aba2c3eca1f0a0ac7a336d7bd681a7dd1dafd769c552ec028130baefacdcb53", func := "robotics/roboticslaw14.NetworkChecks", spec := "networkChecks", inPlace := ["slices.overlaps[int]"], apart := false }
def NetworkChecksSaid : Prop := networkChecksRow.holds Try.pinned (OpenSpec.ofChange networkChecksSpec)

/-- ITS FALSE NEIGHBOUR: 'it returns false'. Refute it at one input. -/
def networkChecksWrong : ChangeSpec := { name := "networkChecks", fn := fun _ => fun
  | [d] => { results := [.lit (.bool false)], args := [d] }
  | _ => none }
def NetworkChecksWrongFalsely : Prop := networkChecksRow.holds Try.pinned (OpenSpec.ofChange networkChecksWrong)

/-- 'roboticslaw14.NetworkPlays': WHATEVER THE INPUT: true; the input reads as it did. -/
def networkPlaysSpec : ChangeSpec := { name := "networkPlays", fn := fun _ => fun
  | [d] => { results := [.lit (.bool true)], args := [d] }
  | _ => none }
def networkPlaysRow : OpenClaim := { program := "ytndidbanbklonaa", sum := "8aba2c3eca1f0a0ac7a336d7bd681a7dd1dafd769c552ec028130baefacdcb53", func := "robotics/roboticslaw14.NetworkPlays", spec := "networkPlays", inPlace := ["slices.overlaps[int]"], unfollowed := true, recurses := true, apart := false }
def NetworkPlaysSaid : Prop := networkPlaysRow.holds Try.pinned (OpenSpec.ofChange networkPlaysSpec)

/-- ITS FALSE NEIGHBOUR: 'it returns false'. Refute it at one input. -/
def networkPlaysWrong : ChangeSpec := { name := "networkPlays", fn := fun _ => fun
  | [d] => { results := [.lit (.bool false)], args := [d] }
  | _ => none }
def NetworkPlaysWrongFalsely : Prop := networkPlaysRow.holds Try.pinned (OpenSpec.ofChange networkPlaysWrong)

/-- 'roboticslaw14.NetworkConserves': WHATEVER THE INPUT: true; the input reads as it did. -/
def networkConservesSpec : ChangeSpec := { name := "networkConserves", fn := fun _ => fun
  | [d] => { results := [.lit (.bool true)], args := [d] }
  | _ => none }
def networkConservesRow : OpenClaim := { program := "ytndidbanbklonaa", sum := "8aba2c3eca1f0a0ac7a336d7bd681a7dd1dafd769c552ec028130baefacdcb53", func := "robotics/roboticslaw14.NetworkConserves", spec := "networkConserves", inPlace := ["slices.overlaps[int]"], apart := false }
def NetworkConservesSaid : Prop := networkConservesRow.holds Try.pinned (OpenSpec.ofChange networkConservesSpec)

/-- ITS FALSE NEIGHBOUR: 'it returns false'. Refute it at one input. -/
def networkConservesWrong : ChangeSpec := { name := "networkConserves", fn := fun _ => fun
  | [d] => { results := [.lit (.bool false)], args := [d] }
  | _ => none }
def NetworkConservesWrongFalsely : Prop := networkConservesRow.holds Try.pinned (OpenSpec.ofChange networkConservesWrong)

/-- 'roboticslaw14.NetworkStages': WHATEVER THE INPUT: true; the input reads as it did. -/
def networkStagesSpec : ChangeSpec := { name := "networkStages", fn := fun _ => fun
  | [d1, d2] => { results := [.lit (.bool true)], args := [d1, d2] }
  | _ => none }
def networkStagesRow : OpenClaim := { program := "ytndidbanbklonaa", sum := "8aba2c3eca1f0a0ac7a336d7bd681a7dd1dafd769c552ec028130baefacdcb53", func := "robotics/roboticslaw14.NetworkStages", spec := "networkStages", inPlace := ["slices.overlaps[int]"], apart := false }
def NetworkStagesSaid : Prop := networkStagesRow.holds Try.pinned (OpenSpec.ofChange networkStagesSpec)

/-- ITS FALSE NEIGHBOUR: 'it returns false'. Refute it at one input. -/
def networkStagesWrong : ChangeSpec := { name := "networkStages", fn := fun _ => fun
  | [d1, d2] => { results := [.lit (.bool false)], args := [d1, d2] }
  | _ => none }
def NetworkStagesWrongFalsely : Prop := networkStagesRow.holds Try.pinned (OpenSpec.ofChange networkStagesWrong)

/- THE SECOND FORM. 'bulk': how many values and letters a reading holds, each counted each time it is reached (what is shared counts as often as it is met; a slice's spare places count too). A statement '..UptoSaid' is the law's where the arguments, and the package variables that the reading takes, are together of bulk at most 1048576: NARROWER than '..Said'. Prove '..Said' where nothing that the law and all that it calls make is longer than what came in: it says more and counts as full. Else prove '..UptoSaid'. A law counts once. -/
mutual
def uptoBulk {H : Type} : DataW H → Nat
  | .lit (.string bytes) => bytes.length + 1
  | .lit _ => 1
  | .nil => 1
  | .ptr d => uptoBulk d + 1
  | .slice elems spare => uptoBulkAll elems + uptoBulkAll spare + 1
  | .agg parts => uptoBulkAll parts + 1
  | .iface _ d => uptoBulk d + 1
  | .map entries => uptoBulkEntries entries + 1
  | .held _ => 1
def uptoBulkAll {H : Type} : List (DataW H) → Nat
  | [] => 0
  | d :: r => uptoBulk d + uptoBulkAll r
def uptoBulkEntries {H : Type} : List (Lit × DataW H) → Nat
  | [] => 0
  | x :: r => uptoBulkEntry x + uptoBulkEntries r
def uptoBulkEntry {H : Type} : Lit × DataW H → Nat
  | (.string bytes, d) => bytes.length + uptoBulk d + 1
  | (_, d) => uptoBulk d + 1
 end
def uptoSmall : (H : Type) → List (DataW H) → Bool := fun _ ds => decide (uptoBulkAll ds ≤ 1048576)
def OpenSpec.upto (s : _root_.Go.ChangeSpec) : _root_.Go.OpenSpec := { _root_.Go.OpenSpec.ofChange s with cond := some uptoSmall }

/-- 'roboticslaw14.NetworkDelivers', WHERE WHAT IT READS IS OF BULK AT MOST 1048576: true; the input reads as it did. -/
def networkDeliversUptoRow : OpenClaim := { program := "ytndidbanbklonaa", sum := "8aba2c3eca1f0a0ac7a336d7bd681a7dd1dafd769c552ec028130baefacdcb53", func := "robotics/roboticslaw14.NetworkDelivers", spec := "networkDelivers", inPlace := ["slices.overlaps[int]"], apart := false, narrowed := true }
def NetworkDeliversUptoSaid : Prop := networkDeliversUptoRow.holds Try.pinned (OpenSpec.upto networkDeliversSpec)

/-- 'roboticslaw14.NetworkChecks', WHERE WHAT IT READS IS OF BULK AT MOST 1048576: true; the input reads as it did. -/
def networkChecksUptoRow : OpenClaim := { program := "ytndidbanbklonaa", sum := "8aba2c3eca1f0a0ac7a336d7bd681a7dd1dafd769c552ec028130baefacdcb53", func := "robotics/roboticslaw14.NetworkChecks", spec := "networkChecks", inPlace := ["slices.overlaps[int]"], apart := false, narrowed := true }
def NetworkChecksUptoSaid : Prop := networkChecksUptoRow.holds Try.pinned (OpenSpec.upto networkChecksSpec)

/-- 'roboticslaw14.NetworkPlays', WHERE WHAT IT READS IS OF BULK AT MOST 1048576: true; the input reads as it did. -/
def networkPlaysUptoRow : OpenClaim := { program := "ytndidbanbklonaa", sum := "8aba2c3eca1f0a0ac7a336d7bd681a7dd1dafd769c552ec028130baefacdcb53", func := "robotics/roboticslaw14.NetworkPlays", spec := "networkPlays", inPlace := ["slices.overlaps[int]"], unfollowed := true, recurses := true, apart := false, narrowed := true }
def NetworkPlaysUptoSaid : Prop := networkPlaysUptoRow.holds Try.pinned (OpenSpec.upto networkPlaysSpec)

/-- 'roboticslaw14.NetworkConserves', WHERE WHAT IT READS IS OF BULK AT MOST 1048576: true; the input reads as it did. -/
def networkConservesUptoRow : OpenClaim := { program := "ytndidbanbklonaa", sum := "8aba2c3eca1f0a0ac7a336d7bd681a7dd1dafd769c552ec028130baefacdcb53", func := "robotics/roboticslaw14.NetworkConserves", spec := "networkConserves", inPlace := ["slices.overlaps[int]"], apart := false, narrowed := true }
def NetworkConservesUptoSaid : Prop := networkConservesUptoRow.holds Try.pinned (OpenSpec.upto networkConservesSpec)

/-- 'roboticslaw14.NetworkStages', WHERE WHAT IT READS IS OF BULK AT MOST 1048576: true; the input reads as it did. -/
def networkStagesUptoRow : OpenClaim := { program := "ytndidbanbklonaa", sum := "8aba2c3eca1f0a0ac7a336d7bd681a7dd1dafd769c552ec028130baefacdcb53", func := "robotics/roboticslaw14.NetworkStages", spec := "networkStages", inPlace := ["slices.overlaps[int]"], apart := false, narrowed := true }
def NetworkStagesUptoSaid : Prop := networkStagesUptoRow.holds Try.pinned (OpenSpec.upto networkStagesSpec)

end Rows
end Go.Proofs.Ytndidbanbklonaa

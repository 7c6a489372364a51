/-
  No cell of these rows narrows 'for every input' (looked for: loops, veiled, ifaces, maps, wideKeys, modest, calm, conditions, laid).
  DERIVED. THE GIVEN ROWS OF THIS SEAT. 6 by the template 'for every input the law returns true; each argument reads behind the call as it read before'; 0 by the template 'total and deterministic' (their statements: YtiooilkbbfflaaaTotals.lean).
  GIVEN WITH THE SEED: the statements are not yours to turn. If you find one false, say at which input.
  Laid BY PROGRAM, IN A SANDBOX (cutbox-rows.mjs): the forced cells as the released guide's own fill.sh prints them over the translation 92e4feaf757e25e3… (all of the seat's roots in one cut). By AI agents, Wed Nov 11 2026. No macro, syntax, notation, axiom, sorry.
-/
import Derived.Test.YtiooilkbbfflaaaChecked
import GoSem.Claim
import GoSem.ClaimJoined
import GoSem.ClaimMapViews
import Derived.JoinedTies
import Derived.KernelRfl
namespace Go.Proofs.Ytiooilkbbfflaaa
/- THE CELL 'sum', in the pinned program and in every row, IS THE sha256 OF THE DUMP (.gsa) THAT YtiooilkbbfflaaaProg.lean LOADS. Nothing in Lean hashes anything: it is a label: what it is worth is what the hold of that sum in a sandbox is worth. -/
noncomputable def Try.pinned : Pinned := { name := "ytiooilkbbfflaaa", sum := "92e4feaf757e25e3ee006ef46c0729d1f1bf55641d7cd56d106f8b2f58ed16cb", checked := Try.checked }
namespace Rows
def none {H : Type} : Left H := { results := [], args := [] }

/-- 'roboticslaw13.SimclockPlays': WHATEVER THE INPUT: true; the input reads as it did. -/
def simclockPlaysSpec : ChangeSpec := { name := "simclockPlays", fn := fun _ => fun
  | [d] => { results := [.lit (.bool true)], args := [d] }
  | _ => none }
def simclockPlaysRow : OpenClaim := { program := "ytiooilkbbfflaaa", sum := "92e4feaf757e25e3ee006ef46c0729d1f1bf55641d7cd56d106f8b2f58ed16cb", func := "robotics/roboticslaw13.SimclockPlays", spec := "simclockPlays", inPlace := ["slices.overlaps[robotics/simclock.timer]"], unfollowed := true, recurses := true, apart := false }
def SimclockPlaysSaid : Prop := simclockPlaysRow.holds Try.pinned (OpenSpec.ofChange simclockPlaysSpec)

/-- ITS FALSE NEIGHBOUR: 'it returns false'. Refute it at one input. -/
def simclockPlaysWrong : ChangeSpec := { name := "simclockPlays", fn := fun _ => fun
  | [d] => { results := [.lit (.bool false)], args := [d] }
  | _ => none }
def SimclockPlaysWrongFalsely : Prop := simclockPlaysRow.holds Try.pinned (OpenSpec.ofChange simclockPlaysWrong)

/-- 'roboticslaw13.SimclockOrders': WHATEVER THE INPUT: true; the input reads as it did. -/
def simclockOrdersSpec : ChangeSpec := { name := "simclockOrders", fn := fun _ => fun
  | [d1, d2, d3] => { results := [.lit (.bool true)], args := [d1, d2, d3] }
  | _ => none }
def simclockOrdersRow : OpenClaim := { program := "ytiooilkbbfflaaa", sum := "92e4feaf757e25e3ee006ef46c0729d1f1bf55641d7cd56d106f8b2f58ed16cb", func := "robotics/roboticslaw13.SimclockOrders", spec := "simclockOrders", inPlace := ["slices.overlaps[robotics/simclock.timer]"], unfollowed := true, recurses := true, apart := false }
def SimclockOrdersSaid : Prop := simclockOrdersRow.holds Try.pinned (OpenSpec.ofChange simclockOrdersSpec)

/-- ITS FALSE NEIGHBOUR: 'it returns false'. Refute it at one input. -/
def simclockOrdersWrong : ChangeSpec := { name := "simclockOrders", fn := fun _ => fun
  | [d1, d2, d3] => { results := [.lit (.bool false)], args := [d1, d2, d3] }
  | _ => none }
def SimclockOrdersWrongFalsely : Prop := simclockOrdersRow.holds Try.pinned (OpenSpec.ofChange simclockOrdersWrong)

/-- 'roboticslaw13.SimclockKeeps': WHATEVER THE INPUT: true; the input reads as it did. -/
def simclockKeepsSpec : ChangeSpec := { name := "simclockKeeps", fn := fun _ => fun
  | [d1, d2, d3] => { results := [.lit (.bool true)], args := [d1, d2, d3] }
  | _ => none }
def simclockKeepsRow : OpenClaim := { program := "ytiooilkbbfflaaa", sum := "92e4feaf757e25e3ee006ef46c0729d1f1bf55641d7cd56d106f8b2f58ed16cb", func := "robotics/roboticslaw13.SimclockKeeps", spec := "simclockKeeps", inPlace := ["slices.overlaps[robotics/simclock.timer]"], unfollowed := true, recurses := true, apart := false }
def SimclockKeepsSaid : Prop := simclockKeepsRow.holds Try.pinned (OpenSpec.ofChange simclockKeepsSpec)

/-- ITS FALSE NEIGHBOUR: 'it returns false'. Refute it at one input. -/
def simclockKeepsWrong : ChangeSpec := { name := "simclockKeeps", fn := fun _ => fun
  | [d1, d2, d3] => { results := [.lit (.bool false)], args := [d1, d2, d3] }
  | _ => none }
def SimclockKeepsWrongFalsely : Prop := simclockKeepsRow.holds Try.pinned (OpenSpec.ofChange simclockKeepsWrong)

/-- 'roboticslaw13.SimclockSplits': WHATEVER THE INPUT: true; the input reads as it did. -/
def simclockSplitsSpec : ChangeSpec := { name := "simclockSplits", fn := fun _ => fun
  | [d1, d2, d3] => { results := [.lit (.bool true)], args := [d1, d2, d3] }
  | _ => none }
def simclockSplitsRow : OpenClaim := { program := "ytiooilkbbfflaaa", sum := "92e4feaf757e25e3ee006ef46c0729d1f1bf55641d7cd56d106f8b2f58ed16cb", func := "robotics/roboticslaw13.SimclockSplits", spec := "simclockSplits", inPlace := ["slices.overlaps[robotics/simclock.timer]"], unfollowed := true, recurses := true, apart := false }
def SimclockSplitsSaid : Prop := simclockSplitsRow.holds Try.pinned (OpenSpec.ofChange simclockSplitsSpec)

/-- ITS FALSE NEIGHBOUR: 'it returns false'. Refute it at one input. -/
def simclockSplitsWrong : ChangeSpec := { name := "simclockSplits", fn := fun _ => fun
  | [d1, d2, d3] => { results := [.lit (.bool false)], args := [d1, d2, d3] }
  | _ => none }
def SimclockSplitsWrongFalsely : Prop := simclockSplitsRow.holds Try.pinned (OpenSpec.ofChange simclockSplitsWrong)

/-- 'roboticslaw13.SimclockFails': WHATEVER THE INPUT: true; the input reads as it did. -/
def simclockFailsSpec : ChangeSpec := { name := "simclockFails", fn := fun _ => fun
  | [d] => { results := [.lit (.bool true)], args := [d] }
  | _ => none }
def simclockFailsRow : OpenClaim := { program := "ytiooilkbbfflaaa", sum := "92e4feaf757e25e3ee006ef46c0729d1f1bf55641d7cd56d106f8b2f58ed16cb", func := "robotics/roboticslaw13.SimclockFails", spec := "simclockFails", inPlace := ["slices.overlaps[robotics/simclock.timer]"], unfollowed := true, recurses := true, apart := false }
def SimclockFailsSaid : Prop := simclockFailsRow.holds Try.pinned (OpenSpec.ofChange simclockFailsSpec)

/-- ITS FALSE NEIGHBOUR: 'it returns false'. Refute it at one input. -/
def simclockFailsWrong : ChangeSpec := { name := "simclockFails", fn := fun _ => fun
  | [d] => { results := [.lit (.bool false)], args := [d] }
  | _ => none }
def SimclockFailsWrongFalsely : Prop := simclockFailsRow.holds Try.pinned (OpenSpec.ofChange simclockFailsWrong)

/-- 'roboticslaw13.SimclockNobody': WHATEVER THE INPUT: true; the input reads as it did. -/
def simclockNobodySpec : ChangeSpec := { name := "simclockNobody", fn := fun _ => fun
  | [d1, d2] => { results := [.lit (.bool true)], args := [d1, d2] }
  | _ => none }
def simclockNobodyRow : OpenClaim := { program := "ytiooilkbbfflaaa", sum := "92e4feaf757e25e3ee006ef46c0729d1f1bf55641d7cd56d106f8b2f58ed16cb", func := "robotics/roboticslaw13.SimclockNobody", spec := "simclockNobody", inPlace := ["slices.overlaps[robotics/simclock.timer]"], unfollowed := true, recurses := true, apart := false }
def SimclockNobodySaid : Prop := simclockNobodyRow.holds Try.pinned (OpenSpec.ofChange simclockNobodySpec)

/-- ITS FALSE NEIGHBOUR: 'it returns false'. Refute it at one input. -/
def simclockNobodyWrong : ChangeSpec := { name := "simclockNobody", fn := fun _ => fun
  | [d1, d2] => { results := [.lit (.bool false)], args := [d1, d2] }
  | _ => none }
def SimclockNobodyWrongFalsely : Prop := simclockNobodyRow.holds Try.pinned (OpenSpec.ofChange simclockNobodyWrong)

/- THE SECOND FORM. 'bulk': how many values and letters a reading holds, each counted each time it is reached (what is shared counts as often as it is met; a slice's spare places count too). A statement '..UptoSaid' is the law's where the arguments, and the package variables that the reading takes, are together of bulk at most 1048576: NARROWER than '..Said'. Prove '..Said' where nothing that the law and all that it calls make is longer than what came in: it says more and counts as full. Else prove '..UptoSaid'. A law counts once. -/
mutual
def uptoBulk {H : Type} : DataW H → Nat
  | .lit (.string bytes) => bytes.length + 1
  | .lit _ => 1
  | .nil => 1
  | .ptr d => uptoBulk d + 1
  | .slice elems spare => uptoBulkAll elems + uptoBulkAll spare + 1
  | .agg parts => uptoBulkAll parts + 1
  | .iface _ d => uptoBulk d + 1
  | .map entries => uptoBulkEntries entries + 1
  | .held _ => 1
def uptoBulkAll {H : Type} : List (DataW H) → Nat
  | [] => 0
  | d :: r => uptoBulk d + uptoBulkAll r
def uptoBulkEntries {H : Type} : List (Lit × DataW H) → Nat
  | [] => 0
  | x :: r => uptoBulkEntry x + uptoBulkEntries r
def uptoBulkEntry {H : Type} : Lit × DataW H → Nat
  | (.string bytes, d) => bytes.length + uptoBulk d + 1
  | (_, d) => uptoBulk d + 1
 end
def uptoSmall : (H : Type) → List (DataW H) → Bool := fun _ ds => decide (uptoBulkAll ds ≤ 1048576)
def OpenSpec.upto (s : _root_.Go.ChangeSpec) : _root_.Go.OpenSpec := { _root_.Go.OpenSpec.ofChange s with cond := some uptoSmall }

/-- 'roboticslaw13.SimclockPlays', WHERE WHAT IT READS IS OF BULK AT MOST 1048576: true; the input reads as it did. -/
def simclockPlaysUptoRow : OpenClaim := { program := "ytiooilkbbfflaaa", sum := "92e4feaf757e25e3ee006ef46c0729d1f1bf55641d7cd56d106f8b2f58ed16cb", func := "robotics/roboticslaw13.SimclockPlays", spec := "simclockPlays", inPlace := ["slices.overlaps[robotics/simclock.timer]"], unfollowed := true, recurses := true, apart := false, narrowed := true }
def SimclockPlaysUptoSaid : Prop := simclockPlaysUptoRow.holds Try.pinned (OpenSpec.upto simclockPlaysSpec)

/-- 'roboticslaw13.SimclockOrders', WHERE WHAT IT READS IS OF BULK AT MOST 1048576: true; the input reads as it did. -/
def simclockOrdersUptoRow : OpenClaim := { program := "ytiooilkbbfflaaa", sum := "92e4feaf757e25e3ee006ef46c0729d1f1bf55641d7cd56d106f8b2f58ed16cb", func := "robotics/roboticslaw13.SimclockOrders", spec := "simclockOrders", inPlace := ["slices.overlaps[robotics/simclock.timer]"], unfollowed := true, recurses := true, apart := false, narrowed := true }
def SimclockOrdersUptoSaid : Prop := simclockOrdersUptoRow.holds Try.pinned (OpenSpec.upto simclockOrdersSpec)

/-- 'roboticslaw13.SimclockKeeps', WHERE WHAT IT READS IS OF BULK AT MOST 1048576: true; the input reads as it did. -/
def simclockKeepsUptoRow : OpenClaim := { program := "ytiooilkbbfflaaa", sum := "92e4feaf757e25e3ee006ef46c0729d1f1bf55641d7cd56d106f8b2f58ed16cb", func := "robotics/roboticslaw13.SimclockKeeps", spec := "simclockKeeps", inPlace := ["slices.overlaps[robotics/simclock.timer]"], unfollowed := true, recurses := true, apart := false, narrowed := true }
def SimclockKeepsUptoSaid : Prop := simclockKeepsUptoRow.holds Try.pinned (OpenSpec.upto simclockKeepsSpec)

/-- 'roboticslaw13.SimclockSplits', WHERE WHAT IT READS IS OF BULK AT MOST 1048576: true; the input reads as it did. -/
def simclockSplitsUptoRow : OpenClaim := { program := "ytiooilkbbfflaaa", sum := "92e4feaf757e25e3ee006ef46c0729d1f1bf55641d7cd56d106f8b2f58ed16cb", func := "robotics/roboticslaw13.SimclockSplits", spec := "simclockSplits", inPlace := ["slices.overlaps[robotics/simclock.timer]"], unfollowed := true, recurses := true, apart := false, narrowed := true }
def SimclockSplitsUptoSaid : Prop := simclockSplitsUptoRow.holds Try.pinned (OpenSpec.upto simclockSplitsSpec)

/-- 'roboticslaw13.SimclockFails', WHERE WHAT IT READS IS OF BULK AT MOST 1048576: true; the input reads as it did. -/
def simclockFailsUptoRow : OpenClaim := { program := "ytiooilkbbfflaaa", sum := "92e4feaf757e25e3ee006ef46c0729d1f1bf55641d7cd56d106f8b2f58ed16cb", func := "robotics/roboticslaw13.SimclockFails", spec := "simclockFails", inPlace := ["slices.overlaps[robotics/simclock.timer]"], unfollowed := true, recurses := true, apart := false, narrowed := true }
def SimclockFailsUptoSaid : Prop := simclockFailsUptoRow.holds Try.pinned (OpenSpec.upto simclockFailsSpec)

/-- 'roboticslaw13.SimclockNobody', WHERE WHAT IT READS IS OF BULK AT MOST 1048576: true; the input reads as it did. -/
def simclockNobodyUptoRow : OpenClaim := { program := "ytiooilkbbfflaaa", sum := "92e4feaf757e25e3ee006ef46c0729d1f1bf55641d7cd56d106f8b2f58ed16cb", func := "robotics/roboticslaw13.SimclockNobody", spec := "simclockNobody", inPlace := ["slices.overlaps[robotics/simclock.timer]"], unfollowed := true, recurses := true, apart := false, narrowed := true }
def SimclockNobodyUptoSaid : Prop := simclockNobodyUptoRow.holds Try.pinned (OpenSpec.upto simclockNobodySpec)

end Rows
end Go.Proofs.Ytiooilkbbfflaaa

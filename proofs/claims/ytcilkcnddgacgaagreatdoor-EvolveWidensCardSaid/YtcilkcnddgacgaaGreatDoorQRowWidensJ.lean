/-
  The closed facts of the row of EvolveWidens. No conditions.
-/
import Derived.Test.YtcilkcnddgacgaaGreatDoorRows
import Derived.Stop.Joined
namespace Go.Proofs.YtcilkcnddgacgaaGreatDoor
theorem widens_joined : joinedFacts Tryz.pinned.checked.prog 5 Tryz.f5 Rows.evolveWidensSpec Rows.evolveWidensRow = true := by kernel_rfl
end Go.Proofs.YtcilkcnddgacgaaGreatDoor


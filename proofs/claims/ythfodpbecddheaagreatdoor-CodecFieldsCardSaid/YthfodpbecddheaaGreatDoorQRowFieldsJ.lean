/-
  The closed facts of the row of CodecFields. No conditions.
-/
import Derived.Test.YthfodpbecddheaaGreatDoorRows
import Derived.Stop.Joined
namespace Go.Proofs.YthfodpbecddheaaGreatDoor
theorem fields_joined : joinedFacts Tryz.pinned.checked.prog 9 Tryz.f9 Rows.codecFieldsSpec Rows.codecFieldsRow = true := by kernel_rfl
end Go.Proofs.YthfodpbecddheaaGreatDoor


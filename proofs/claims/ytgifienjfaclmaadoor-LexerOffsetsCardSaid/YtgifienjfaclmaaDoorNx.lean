/-
  The law of offsets over values as they come in. No conditions beyond the row's own.
-/
import Derived.Test.YtgifienjfaclmaaDoorNu
import Derived.Test.YtgifienjfaclmaaDoorNq
namespace Go.Proofs.YtgifienjfaclmaaDoor
open Go.RowKit
theorem offsets_row (s : ByteArray) (w : World) (_h : s.size ≤ 9223372036854775807) (z : s.data.toList.length ≤ reachBytes) (hl : laidMetH Tryd.prog Rows.lexerOffsetsRow.laid w) :
    Calls Tryd.prog 5 #[.string s] w (Ib (.bool true) w) := by
  rw [bs_of s]
  exact offsets_row' _ w z (env_laid hl)
end Go.Proofs.YtgifienjfaclmaaDoor

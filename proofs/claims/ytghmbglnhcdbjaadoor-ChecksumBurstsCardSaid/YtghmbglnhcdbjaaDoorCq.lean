/-
  The law of bursts over values as they come in. No conditions beyond the row's own.
-/
import Derived.Test.YtghmbglnhcdbjaaDoorCk
import Derived.Test.YtghmbglnhcdbjaaDoorCp
namespace Go.Proofs.YtghmbglnhcdbjaaDoor
open Go.RowKit Go.Lib
theorem bursts_row (s : ByteArray) (a b : Int) (w : World) (_h : s.size ≤ 9223372036854775807) (_a1 : -9223372036854775808 ≤ a) (_a2 : a ≤ 9223372036854775807) (b1 : 0 ≤ b) (_b2 : b ≤ 4294967295) (z : s.data.toList.length ≤ reachBytes) (hl : laidMetH Tryd.prog Rows.checksumBurstsRow.laid w) :
    Calls Tryd.prog 6 #[.string s, .int .i64 a, .int .u32 b] w (Ib (.bool true) w) := by
  obtain ⟨d, rfl⟩ := Int.eq_ofNat_of_zero_le b1
  rw [bs_of s]
  exact bursts_any _ a d w (Nat.le_trans z (by decide)) (tabs_laid hl)
end Go.Proofs.YtghmbglnhcdbjaaDoor

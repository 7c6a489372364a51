/-
  The law of linearity over values as they come in. No conditions beyond the row's own.
-/
import Derived.Test.YtghmbglnhcdbjaaDoorCl
import Derived.Test.YtghmbglnhcdbjaaDoorCp
namespace Go.Proofs.YtghmbglnhcdbjaaDoor
open Go.RowKit Go.Lib
theorem linear_row (s t u : ByteArray) (w : World) (_h : s.size ≤ 9223372036854775807) (_h2 : t.size ≤ 9223372036854775807) (_h3 : u.size ≤ 9223372036854775807) (z : s.data.toList.length ≤ reachBytes) (_z2 : t.data.toList.length ≤ reachBytes) (_z3 : u.data.toList.length ≤ reachBytes) (hl : laidMetH Tryd.prog Rows.checksumLinearRow.laid w) :
    Calls Tryd.prog 7 #[.string s, .string t, .string u] w (Ib (.bool true) w) := by
  rw [bs_of s, bs_of t, bs_of u]
  exact linear_any _ _ _ w (Nat.le_trans z (by decide)) (tabs_laid hl)
end Go.Proofs.YtghmbglnhcdbjaaDoor

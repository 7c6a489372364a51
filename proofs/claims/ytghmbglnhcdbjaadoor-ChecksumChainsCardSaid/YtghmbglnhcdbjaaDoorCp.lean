/-
  The tables of utf8 read as they were laid, out of the rows' own condition; the laws over strings as they come in. No conditions beyond the rows' own.
-/
import Derived.Test.YtghmbglnhcdbjaaDoorCi
import Derived.Lib.LaidU8
import Derived.PinnedBridge
import Derived.MakeChecks
import Derived.KernelRfl
namespace Go.Proofs.YtghmbglnhcdbjaaDoor
open Go.RowKit Go.Lib
theorem u8extra : U8Extra Tryd.prog Tryd.lays260_ren := { n3 := by kernel_rfl, n4 := by kernel_rfl, y3 := by kernel_rfl, y4 := by kernel_rfl, c5 := by kernel_rfl, c119 := by kernel_rfl, c138 := by kernel_rfl }
theorem first_is : Rows.laid_unicode_utf8_first = firstData := Pinned.utf8First_eq
theorem accept_is : (Rows.laid_unicode_utf8_acceptRanges : DataW Unit) = acceptData := by kernel_rfl
theorem tabs_laid {w : World} (hl : laidMetH Tryd.prog [("unicode/utf8.acceptRanges", Rows.laid_unicode_utf8_acceptRanges), ("unicode/utf8.first", Rows.laid_unicode_utf8_first)] w) : Tabs w := by
  rw [MakeChecks.laidMetH_plain _ _ _ (by kernel_rfl)] at hl
  have h3 := laidMet.reads hl (n := "unicode/utf8.first") (d := Rows.laid_unicode_utf8_first) (List.Mem.tail _ (List.Mem.head _))
  have h4 := laidMet.reads hl (n := "unicode/utf8.acceptRanges") (d := Rows.laid_unicode_utf8_acceptRanges) (List.Mem.head _)
  rw [first_is] at h3
  rw [accept_is] at h4
  exact utf8Tabs_of_reads Tryd.lays260 u8extra h3 h4
theorem crcs_row (s : ByteArray) (w : World) (_h : s.size ≤ 9223372036854775807) (z : s.data.toList.length ≤ reachBytes) (hl : laidMetH Tryd.prog Rows.checksumCrcsRow.laid w) :
    Calls Tryd.prog 3 #[.string s] w (Ib (.bool true) w) := by
  rw [bs_of s]
  exact crcs_any _ w (Nat.le_trans z (by decide)) (tabs_laid hl)
theorem hashes_row (s : ByteArray) (a b : Int) (w : World) (_h : s.size ≤ 9223372036854775807) (a1 : 0 ≤ a) (a2 : a ≤ 255) (b1 : 0 ≤ b) (b2 : b ≤ 255) (z : s.data.toList.length ≤ reachBytes) (hl : laidMetH Tryd.prog Rows.checksumHashesRow.laid w) :
    Calls Tryd.prog 4 #[.string s, .int .u8 a, .int .u8 b] w (Ib (.bool true) w) := by
  obtain ⟨c, rfl⟩ := Int.eq_ofNat_of_zero_le a1
  obtain ⟨d, rfl⟩ := Int.eq_ofNat_of_zero_le b1
  rw [bs_of s]
  exact hashes_any _ c d w (Nat.le_trans z (by decide)) (by omega) (by omega) (tabs_laid hl)
theorem seals_row (s t : ByteArray) (w : World) (_h : s.size ≤ 9223372036854775807) (_k : t.size ≤ 9223372036854775807) (z : s.data.toList.length ≤ reachBytes) (z2 : t.data.toList.length ≤ reachBytes) (hl : laidMetH Tryd.prog Rows.checksumSealsRow.laid w) :
    Calls Tryd.prog 5 #[.string s, .string t] w (Ib (.bool true) w) := by
  rw [bs_of s, bs_of t]
  exact seals_any _ _ w (Nat.le_trans z (by decide)) (Nat.le_trans z2 (by decide)) (tabs_laid hl)
end Go.Proofs.YtghmbglnhcdbjaaDoor

/-
  The tables of utf8 read as they were laid, out of the rows' own condition; the law of unframing over values as they come in. No conditions beyond the row's own.
-/
import Derived.Test.YtcjaaijohapeaaaDoorFf
import Derived.Test.YtcjaaijohapeaaaDoorShelfC
import Derived.Lib.LaidU8
import Derived.PinnedBridge
import Derived.MakeChecks
import Derived.KernelRfl
namespace Go.Proofs.YtcjaaijohapeaaaDoor
open Go.RowKit Go.Lib
theorem u8extra : U8Extra Tryd.prog Tryd.lays260_ren := { n3 := by kernel_rfl, n4 := by kernel_rfl, y3 := by kernel_rfl, y4 := by kernel_rfl, c5 := by kernel_rfl, c119 := by kernel_rfl, c138 := by kernel_rfl }
theorem first_is : Rows.laid_unicode_utf8_first = firstData := Pinned.utf8First_eq
theorem accept_is : (Rows.laid_unicode_utf8_acceptRanges : DataW Unit) = acceptData := by kernel_rfl
theorem tabs_laid {w : World} (hl : laidMetH Tryd.prog [("unicode/utf8.acceptRanges", Rows.laid_unicode_utf8_acceptRanges), ("unicode/utf8.first", Rows.laid_unicode_utf8_first)] w) : Tabs w := by
  rw [MakeChecks.laidMetH_plain _ _ _ (by kernel_rfl)] at hl
  have h3 := laidMet.reads hl (n := "unicode/utf8.first") (d := Rows.laid_unicode_utf8_first) (List.Mem.tail _ (List.Mem.head _))
  have h4 := laidMet.reads hl (n := "unicode/utf8.acceptRanges") (d := Rows.laid_unicode_utf8_acceptRanges) (List.Mem.head _)
  rw [first_is] at h3
  rw [accept_is] at h4
  exact utf8Tabs_of_reads Tryd.lays260 u8extra h3 h4
theorem unframes_row (s : ByteArray) (id ix ct : Int) (t : ByteArray) (w : World) (hs : s.size ≤ 9223372036854775807) (ht : t.size ≤ 9223372036854775807) (hl : laidMetH Tryd.prog Rows.packetUnframesRow.laid w) :
    Calls Tryd.prog 5 #[.string s, .agg #[.int .i64 id, .int .i64 ix, .int .i64 ct, .string t]] w (Ib (.bool true) w) := unframes_law s id ix ct t w hs ht (tabs_laid hl)
end Go.Proofs.YtcjaaijohapeaaaDoor

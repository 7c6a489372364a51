/-
  The law of walks over values as they come in. No conditions beyond the row's own.
-/
import Derived.Test.YtgifienjfaclmaaGreatDoorNy
import Derived.Test.YtgifienjfaclmaaGreatDoorNq
namespace Go.Proofs.YtgifienjfaclmaaGreatDoor
open Go.RowKit
theorem walks_row (s : ByteArray) (A : Option Addr) (n c : Nat) (q : Nat → Nat) (t : ByteArray) (w : World) (h : s.size ≤ 9223372036854775807) (hn : n ≤ 9223372036854775807) (hA : Bys w A n q) (_k : t.size ≤ 9223372036854775807) (hl : laidMetH Tryz.prog Rows.lexerWalksRow.laid w) :
    Calls Tryz.prog 3 #[.string s, .slice A n c, .string t] w (Ib (.bool true) w) := by
  have hs : s.data.toList.length ≤ 9223372036854775807 := by rw [Array.length_toList]; exact h
  rw [bs_of s, bs_of t]
  exact walks_any _ A n c q _ w hs hn hA (env_laid hl)
end Go.Proofs.YtgifienjfaclmaaGreatDoor

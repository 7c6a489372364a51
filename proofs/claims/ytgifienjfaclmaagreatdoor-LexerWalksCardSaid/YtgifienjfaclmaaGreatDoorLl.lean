/-
  The reference's Valid. No conditions but Go's own bounds.
-/
import Derived.Test.YtgifienjfaclmaaGreatDoorLk
namespace Go.Proofs.YtgifienjfaclmaaGreatDoor
open Go.RowKit
/-- A token as it comes in: its kind and its place are any numbers. -/
structure Tv where
  kind : Int
  text : List UInt8
  num : Int
  at_ : Int
/-- The token that it is; a kind below 0 is no token's kind, as 0 is none that can be printed. -/
def Tv.tk (t : Tv) : Tk := ⟨t.kind.toNat, t.text, t.num, t.at_.toNat⟩
theorem str_beq (q l : List UInt8) : ((bs q).toList == (bs l).toList) = (q == l) := by rw [toList_bs, toList_bs]
theorem grown1 {w : World} (o : Obj) : Below w.heap.size w (w.alloc o) := (Below.refl _ w).alloc (Nat.le_refl _) o
/-- One mark. -/
def oneM (t : List UInt8) : Bool := match t with | [c] => isM c | _ => false
theorem okT1 (t : List UInt8) (n a : Int) : okT (Tv.tk ⟨1, t, n, a⟩) = (isN t && n == 0) := rfl
theorem okT2 (t : List UInt8) (n a : Int) : okT (Tv.tk ⟨2, t, n, a⟩) = (t == []) := rfl
theorem okT3 (t : List UInt8) (n a : Int) : okT (Tv.tk ⟨3, t, n, a⟩) = ((t.all fun c => decide (32 ≤ c.toNat) && decide (c.toNat ≤ 126)) && decide (t.length ≤ 200) && n == 0) := rfl
theorem okT4 (t : List UInt8) (n a : Int) : okT (Tv.tk ⟨4, t, n, a⟩) = (oneM t && n == 0) := rfl
theorem okT0 (k : Int) (t : List UInt8) (n a : Int) (h1 : k ≠ 1) (h2 : k ≠ 2) (h3 : k ≠ 3) (h4 : k ≠ 4) : okT (Tv.tk ⟨k, t, n, a⟩) = false := by
  unfold okT Tv.tk
  rw [if_neg (show ¬ k.toNat = 1 by omega), if_neg (show ¬ k.toNat = 2 by omega), if_neg (show ¬ k.toNat = 3 by omega), if_neg (show ¬ k.toNat = 4 by omega)]
end Go.Proofs.YtgifienjfaclmaaGreatDoor

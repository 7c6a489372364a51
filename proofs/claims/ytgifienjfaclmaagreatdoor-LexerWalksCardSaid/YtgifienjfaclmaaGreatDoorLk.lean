/-
  The reference's printing of a string's content, and what a token of a result is. No conditions but Go's own bounds.
-/
import Derived.Test.YtgifienjfaclmaaGreatDoorLj
namespace Go.Proofs.YtgifienjfaclmaaGreatDoor
open Go.RowKit
theorem esc_append (a b : List UInt8) : esc (a ++ b) = esc a ++ esc b := by
  induction a with
  | nil => rfl
  | cons c r ih => simp only [List.cons_append, esc]; split <;> simp [ih]
theorem esc_length (a : List UInt8) : (esc a).length ≤ 2 * a.length := by
  induction a with
  | nil => simp [esc]
  | cons c r ih => simp only [esc]; split <;> simp <;> omega
end Go.Proofs.YtgifienjfaclmaaGreatDoor

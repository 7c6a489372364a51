/-
  The reference's printing of numbers and strings. No conditions but Go's own bounds.
-/
import Derived.Test.YtgifienjfaclmaaGreatDoorLi
namespace Go.Proofs.YtgifienjfaclmaaGreatDoor
open Go.RowKit
theorem bs_digit (d : Nat) (h : d < 10) : (bs [48, 49, 50, 51, 52, 53, 54, 55, 56, 57]).extract d (d + 1) = bs [UInt8.ofNat (48 + d)] := by
  have key : ∀ d : Fin 10, (bs [48, 49, 50, 51, 52, 53, 54, 55, 56, 57]).extract d.val (d.val + 1) = bs [UInt8.ofNat (48 + d.val)] := by
    intro d
    rw [bs_slice]
    congr 1
    revert d
    decide
  exact key ⟨d, h⟩
theorem dg_len (n : Nat) : ∀ k, n < 10 ^ (k + 1) → (dg n).length ≤ k + 1 := by
  induction n using Nat.strongRecOn with
  | _ n ih =>
    intro k h
    by_cases h10 : n < 10
    · rw [dg_small h10]; simp
    · rw [dg_big h10, List.length_append]
      cases k with
      | zero => simp at h; omega
      | succ k =>
        have := ih (n / 10) (by omega) k (by rw [Nat.pow_succ] at h; omega)
        simp; omega
end Go.Proofs.YtgifienjfaclmaaGreatDoor

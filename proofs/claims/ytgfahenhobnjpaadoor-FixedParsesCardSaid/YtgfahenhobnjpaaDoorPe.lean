/-
  The contract of the reference's product. No conditions but those stated.
-/
import Derived.Test.YtgfahenhobnjpaaDoorPd
import Derived.Lib.Mul64
namespace Go.Proofs.YtgfahenhobnjpaaDoor
open Go.RowKit
theorem rm_sat {P : Nat} (h : 9223372036854775808 ≤ P) : qlim P 65536 = 140737488355328 := by unfold qlim; omega
theorem rm_val (P : Nat) : min ((P + 32768) / 65536) 140737488355328 = qlim P 65536 := by unfold qlim; omega
theorem rm_both {x y a b c d : Nat} (hx : x = a * 4294967296 + b) (hy : y = c * 4294967296 + d) (h1 : 0 < a) (h2 : 0 < c) : 9223372036854775808 ≤ x * y := by
  have := Nat.mul_le_mul (show 4294967296 ≤ x by omega) (show 4294967296 ≤ y by omega)
  omega
theorem rm_one {x y a b c d : Nat} (hx : x = a * 4294967296 + b) (hy : y = c * 4294967296 + d) (h : a = 0 ∨ c = 0) : x * y = (a * d + b * c) * 4294967296 + b * d := by
  rw [hx, hy, Lib.split_mul]
  rcases h with rfl | rfl <;> simp
theorem rm_mid {a b c d : Nat} (hb : b ≤ 4294967295) (hd : d ≤ 4294967295) (ha : a ≤ 2147483648) (hc : c ≤ 2147483648) : a * d ≤ 9223372034707292160 ∧ b * c ≤ 9223372034707292160 ∧ b * d ≤ 18446744065119617025 :=
  ⟨Nat.mul_le_mul ha hd, by rw [Nat.mul_comm]; exact Nat.mul_le_mul hc hb, Nat.mul_le_mul hb hd⟩
end Go.Proofs.YtgfahenhobnjpaaDoor

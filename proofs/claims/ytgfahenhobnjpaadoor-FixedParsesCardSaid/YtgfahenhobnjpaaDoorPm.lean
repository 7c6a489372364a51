/-
  Plain mathematics: a division of 128 bits by 64 bits in halves of 32 bits. Nothing of the program is imported. No conditions.
-/
namespace Go.Proofs.YtgfahenhobnjpaaDoor
namespace Dv
variable {U C Y A B Q R q D : Nat}
theorem lt (hU : U < Y) (hC : C < D) : (U * D + C) / Y < D := by
  rw [Nat.div_lt_iff_lt_mul (by omega)]
  have h := Nat.mul_le_mul_right D (show U + 1 ≤ Y from hU)
  rw [Nat.add_mul] at h
  rw [Nat.mul_comm D Y]
  omega
theorem init (hY : Y = A * D + B) (hA : 0 < A) (hC : C < D) : (U * D + C) / Y ≤ U / A := by
  rw [Nat.le_div_iff_mul_le hA]
  have hq := Nat.div_mul_le_self (U * D + C) Y
  generalize (U * D + C) / Y = q at *
  rw [hY, Nat.mul_add, ← Nat.mul_assoc] at hq
  have h : q * A * D < (U + 1) * D := by rw [Nat.add_mul]; omega
  have := Nat.lt_of_mul_lt_mul_right h
  omega
theorem exit_ (hY : Y = A * D + B) (h0 : 0 < Y) (hi : Q * A + R = U) (hq : (U * D + C) / Y ≤ Q) (h : Q * B ≤ R * D + C) : Q = (U * D + C) / Y := by
  refine Nat.le_antisymm ?_ hq
  rw [Nat.le_div_iff_mul_le h0, hY, Nat.mul_add, ← Nat.mul_assoc, ← hi, Nat.add_mul]
  omega
theorem step (hY : Y = A * D + B) (hU : U < Y) (hC : C < D) (hi : Q * A + R = U) (hq : (U * D + C) / Y ≤ Q) (h : D ≤ Q ∨ R * D + C < Q * B) : (U * D + C) / Y + 1 ≤ Q := by
  rcases h with h | h
  · have := lt hU hC; omega
  · rcases Nat.lt_or_ge ((U * D + C) / Y) Q with h1 | h1
    · exact h1
    · have e : Q = (U * D + C) / Y := Nat.le_antisymm h1 hq
      have hq' := Nat.div_mul_le_self (U * D + C) Y
      rw [← e] at hq'
      rw [hY, Nat.mul_add, ← Nat.mul_assoc, ← hi, Nat.add_mul] at hq'
      omega
theorem top (hU : U < A * 4294967296 + B) (hB : B < 4294967296) (hA : 2147483648 ≤ A) : U / A ≤ 4294967297 := by
  have : U / A < 4294967298 := by rw [Nat.div_lt_iff_lt_mul (by omega)]; omega
  omega
theorem late (hB : B < 4294967296) (hQ : Q ≤ 4294967297) (hR : 4294967296 ≤ R) : Q * B ≤ R * 4294967296 + C := by
  have := Nat.mul_le_mul hQ (show B ≤ 4294967295 by omega)
  omega
theorem less (hi : Q * A + R = U) (hQ : 1 ≤ Q) : (Q - 1) * A + (R + A) = U := by
  obtain ⟨k, rfl⟩ : ∃ k, Q = k + 1 := ⟨Q - 1, by omega⟩
  rw [Nat.add_mul] at hi
  simp only [Nat.add_sub_cancel]
  omega
theorem both {E : Nat} (h0 : 0 < Y) : ((U * D + C) * D + E) / Y = (U * D + C) / Y * D + ((U * D + C) % Y * D + E) / Y := by
  have h := Nat.div_add_mod (U * D + C) Y
  generalize (U * D + C) / Y = q at *
  generalize (U * D + C) % Y = r at *
  rw [← h, Nat.add_mul, Nat.add_assoc, Nat.mul_assoc, Nat.mul_add_div h0]
theorem norm {hi lo y s : Nat} (hl : lo < 18446744073709551616) (h1 : hi < y) (hs : s ≤ 63) (hb2 : y * 2 ^ s < 18446744073709551616) :
    hi * 2 ^ s < 18446744073709551616 ∧ lo / 2 ^ (64 - s) < 2 ^ s ∧ hi * 2 ^ s + lo / 2 ^ (64 - s) < y * 2 ^ s ∧
      ((hi * 2 ^ s + lo / 2 ^ (64 - s)) * 18446744073709551616 + lo * 2 ^ s % 18446744073709551616) / (y * 2 ^ s) = (hi * 18446744073709551616 + lo) / y := by
  have hp : 2 ^ s * 2 ^ (64 - s) = 18446744073709551616 := by rw [← Nat.pow_add, show s + (64 - s) = 64 by omega]
  have p1 : 0 < 2 ^ s := Nat.two_pow_pos s
  have p2 : 0 < 2 ^ (64 - s) := Nat.two_pow_pos _
  have a2 : lo / 2 ^ (64 - s) < 2 ^ s := by rw [Nat.div_lt_iff_lt_mul p2, hp]; exact hl
  have a0 := Nat.mul_le_mul_right (2 ^ s) (show hi + 1 ≤ y from h1)
  rw [Nat.add_mul, Nat.one_mul] at a0
  have e : lo * 2 ^ s / 18446744073709551616 = lo / 2 ^ (64 - s) := by
    rw [← hp, Nat.mul_comm (2 ^ s), Nat.mul_div_mul_right _ _ p1]
  have e2 := Nat.div_add_mod (lo * 2 ^ s) 18446744073709551616
  rw [e] at e2
  refine ⟨by omega, a2, by omega, ?_⟩
  have e3 : (hi * 2 ^ s + lo / 2 ^ (64 - s)) * 18446744073709551616 + lo * 2 ^ s % 18446744073709551616 = (hi * 18446744073709551616 + lo) * 2 ^ s := by
    rw [Nat.add_mul, Nat.add_mul, Nat.mul_right_comm hi]
    omega
  rw [e3, Nat.mul_div_mul_right _ _ p1]
theorem or_add {a b s : Nat} (hb : b < 2 ^ s) : a * 2 ^ s ||| b = a * 2 ^ s + b := by
  rw [Nat.mul_comm, Nat.two_pow_add_eq_or_of_lt hb]
end Dv
end Go.Proofs.YtgfahenhobnjpaaDoor

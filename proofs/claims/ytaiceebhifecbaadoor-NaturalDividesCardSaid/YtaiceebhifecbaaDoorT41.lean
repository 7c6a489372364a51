/-
  Contract of estimate: the digit of the quotient, or one more. Conditions: a divisor of 2 to 1000 digits whose leading digit is at least 2^31; the part's leading digits are less than the divisor.
-/
import Derived.Test.YtaiceebhifecbaaDoorT40
namespace Go.Proofs.YtaiceebhifecbaaDoor
open Go.RowKit
namespace Nm
theorem est_up {U V P U3 V2 ul vl Q : Nat} (hU : U = U3 * P + ul) (hul : ul < P) (hV : V = V2 * P + vl) (hQ : Q * V ≤ U) : Q * V2 ≤ U3 := by
  rcases Nat.lt_or_ge U3 (Q * V2) with h | h
  · exfalso
    have h1 := Nat.mul_le_mul_right P (Nat.succ_le_of_lt h)
    have h2 : Q * (V2 * P) ≤ Q * V := Nat.mul_le_mul_left Q (by omega)
    rw [← Nat.mul_assoc] at h2
    rw [Nat.succ_mul] at h1
    omega
  · exact h
theorem est_le {U V P U3 V2 ul vl Q q : Nat} (hU : U = U3 * P + ul) (hV : V = V2 * P + vl) (hvl : vl < P) (hq : q * V2 ≤ U3) (hlt : U < (Q + 1) * V) (hb : q ≤ V2) : q ≤ Q + 1 := by
  rcases Nat.lt_or_ge (Q + 1) q with h | h
  · exfalso
    obtain ⟨t, rfl⟩ : ∃ t, q = t + 1 := ⟨q - 1, by omega⟩
    have h1 : (Q + 1) * V ≤ t * V := Nat.mul_le_mul_right V (by omega)
    have h2 : t * V ≤ t * ((V2 + 1) * P) := Nat.mul_le_mul_left t (by rw [Nat.succ_mul]; omega)
    have h3 := Nat.mul_le_mul_right P hq
    have h4 : t * ((V2 + 1) * P) = t * V2 * P + t * P := by rw [← Nat.mul_assoc, Nat.mul_succ, Nat.add_mul]
    have h5 : (t + 1) * V2 * P = t * V2 * P + V2 * P := by rw [Nat.succ_mul, Nat.add_mul]
    have h6 : t * P ≤ V2 * P := Nat.mul_le_mul_right P (by omega)
    omega
  · exact h
theorem est_lead {U V P a b e L N ul vl : Nat} (hU : U = ((a * 4294967296 + b) * 4294967296 + e) * P + ul) (hV : V = (L * 4294967296 + N) * P + vl) (hvl : vl < P) (hN : N < 4294967296) (h : U < 4294967296 * V) : a ≤ L := by
  rcases Nat.lt_or_ge L a with h1 | h1
  · exfalso
    have h2 : 4294967296 * V < 4294967296 * ((L * 4294967296 + N + 1) * P) := by
      have : V < (L * 4294967296 + N + 1) * P := by rw [hV, Nat.succ_mul]; omega
      omega
    have h3 : (4294967296 * (L * 4294967296 + N + 1)) * P ≤ ((a * 4294967296 + b) * 4294967296 + e) * P := Nat.mul_le_mul_right P (by omega)
    rw [Nat.mul_assoc] at h3
    omega
  · exact h1
theorem est_init {T L N e Q : Nat} (hL : 0 < L) (he : e < 4294967296) (h : Q * (L * 4294967296 + N) ≤ T * 4294967296 + e) : Q ≤ T / L := by
  rw [Nat.le_div_iff_mul_le hL]
  have h1 : Q * (L * 4294967296) ≤ Q * (L * 4294967296 + N) := Nat.mul_le_mul_left Q (by omega)
  rw [← Nat.mul_assoc] at h1
  omega
theorem est_more {T L N e Q q r : Nat} (h : Q * (L * 4294967296 + N) ≤ T * 4294967296 + e) (hr : q * L + r = T) (hq : r * 4294967296 + e < q * N) : Q < q := by
  rcases Nat.lt_or_ge Q q with h1 | h1
  · exact h1
  · exfalso
    have h2 : q * (L * 4294967296 + N) ≤ Q * (L * 4294967296 + N) := Nat.mul_le_mul_right _ h1
    rw [Nat.mul_add, ← Nat.mul_assoc] at h2
    omega
theorem est_done {T L N e q r : Nat} (hr : q * L + r = T) (hq : q * N ≤ r * 4294967296 + e) : q * (L * 4294967296 + N) ≤ T * 4294967296 + e := by
  rw [Nat.mul_add, ← Nat.mul_assoc]
  omega
theorem est_big {T L N e q r : Nat} (hr : q * L + r = T) (hr2 : 4294967296 ≤ r) (hq : q ≤ 4294967295) (hN : N < 4294967296) : q * (L * 4294967296 + N) ≤ T * 4294967296 + e := by
  have h1 : q * N ≤ 4294967295 * 4294967295 := Nat.mul_le_mul hq (by omega)
  rw [Nat.mul_add, ← Nat.mul_assoc]
  omega
theorem est_small {T L a b q r : Nat} (hr : q * L + r = T) (hT : T = a * 4294967296 + b) (ha : a ≤ L) (hb : b < 4294967296) (hr2 : 4294967296 ≤ r) : q ≤ 4294967295 := by
  rcases Nat.lt_or_ge 4294967295 q with h | h
  · exfalso
    have h1 : 4294967296 * L ≤ q * L := Nat.mul_le_mul_right L (by omega)
    omega
  · exact h
theorem est_start {T L a b : Nat} (hT : T = a * 4294967296 + b) (ha : a ≤ L) (hb : b < 4294967296) (hL : 2147483648 ≤ L) : T / L ≤ 4294967297 := by
  have : T / L < 4294967298 := by
    rw [Nat.div_lt_iff_lt_mul (by omega)]
    omega
  omega
theorem two_top (zs : List Nat) (n : Nat) (hl : zs.length = n + 2) : val zs = (zs[n + 1]'(by omega) * 4294967296 + zs[n]'(by omega)) * 4294967296 ^ n + val (zs.take n) := by
  have h1 := val_take_succ zs n (by omega)
  have h2 := val_take_succ zs (n + 1) (by omega)
  rw [List.take_of_length_le (by omega)] at h2
  rw [h2, h1]
  generalize zs[n + 1]'(by omega) = x
  generalize zs[n]'(by omega) = y
  generalize val (zs.take n) = z
  rw [Nat.pow_succ]
  generalize 4294967296 ^ n = P
  have e1 : (x * 4294967296 + y) * P = P * 4294967296 * x + P * y := by
    rw [Nat.add_mul, Nat.mul_comm y P, Nat.mul_comm (x * 4294967296) P, Nat.mul_comm x, Nat.mul_assoc]
  omega
theorem three_top (zs : List Nat) (n : Nat) (hl : zs.length = n + 3) : val zs = ((zs[n + 2]'(by omega) * 4294967296 + zs[n + 1]'(by omega)) * 4294967296 + zs[n]'(by omega)) * 4294967296 ^ n + val (zs.take n) := by
  have h1 := val_take_succ zs n (by omega)
  have h2 : val zs = (zs[n + 2]'(by omega) * 4294967296 + zs[n + 1]'(by omega)) * 4294967296 ^ (n + 1) + val (zs.take (n + 1)) := two_top zs (n + 1) (by omega)
  rw [h2, h1]
  obtain ⟨x, hx⟩ : ∃ x, zs[n + 2]'(by omega) * 4294967296 + zs[n + 1]'(by omega) = x := ⟨_, rfl⟩
  rw [hx]
  generalize zs[n]'(by omega) = y
  generalize val (zs.take n) = z
  rw [Nat.pow_succ]
  generalize 4294967296 ^ n = P
  have e1 : (x * 4294967296 + y) * P = x * (P * 4294967296) + P * y := by
    rw [Nat.add_mul, Nat.mul_comm y P, Nat.mul_assoc, Nat.mul_comm P 4294967296]
  omega
end Nm
end Go.Proofs.YtaiceebhifecbaaDoor

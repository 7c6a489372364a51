/-
  Contracts of products and quotients, the program's and the reference's. No conditions but those stated.
-/
import Derived.Test.YtgfahenhobnjpaaDoorPc
namespace Go.Proofs.YtgfahenhobnjpaaDoor
open Go.RowKit
/-- Do the signs differ? -/
def ngB (a b : Int) : Bool := !(decide (a < 0) == decide (b < 0))
/-- The product of two numbers. -/
def mulI (a b : Int) : Int := sgn (ngB a b) (qlim (a.natAbs * b.natAbs) 65536)
/-- The quotient of two numbers. -/
def divI (a b : Int) : Int := sgn (ngB a b) (qlim (a.natAbs * 65536) b.natAbs)
theorem qlim_le (a d : Nat) : qlim a d ≤ 140737488355328 := by unfold qlim; omega
theorem ng_eq (a b : Int) : (!(decide (a < 0) == decide (b < 0))) = ngB a b := rfl
theorem natAbs_le {n : Int} (h1 : -9223372036854775808 ≤ n) (h2 : n ≤ 9223372036854775807) : n.natAbs ≤ 9223372036854775808 := by omega
theorem mul_any (a b : Int) (w : World) (a1 : -9223372036854775808 ≤ a) (a2 : a ≤ 9223372036854775807) (b1 : -9223372036854775808 ≤ b) (b2 : b ≤ 9223372036854775807) :
    Calls Tryd.prog 25 #[.int .i64 a, .int .i64 b] w (Iq (.int .i64 (mulI a b)) w) := by
  have r := fun w => ratio_any a.natAbs b.natAbs 65536 w (natAbs_le a1 a2) (natAbs_le b1 b2) (by omega) (by omega)
  have s := fun w => signed_any (ngB a b) _ w (qlim_le (a.natAbs * b.natAbs) 65536)
  unfold mulI
  generalize qlim (a.natAbs * b.natAbs) 65536 = q at *
  have ma := fun w => magnitude_any a w a1 a2
  have mb := fun w => magnitude_any b w b1 b2
  have hg := ng_eq a b
  generalize ngB a b = g at *
  go_enter Tryd.func25, Tryd.ntmps25
  go_wp2_with fail
  refine (ma _).mono ?_
  rintro e w' ⟨rfl, rfl⟩
  go_wp2_with fail
  refine (mb _).mono ?_
  rintro e w' ⟨rfl, rfl⟩
  go_wp2_with fail
  refine (r _).mono ?_
  rintro e w' ⟨n, rfl, rfl⟩
  go_wp2_with fail
  refine (s _).mono ?_
  rintro e w' ⟨rfl, rfl⟩
  go_wp2_with fail
  go_ret
  exact ⟨n, rfl, rfl⟩
/-- The call returns these two integers, and at most draws. -/
def Iq2 (v : Int) (k : Int) (w : World) (e : Ending) (w' : World) : Prop := ∃ n : Nat, e = .returned (.tuple #[.int .i64 v, .int .i64 k]) ∧ w' = w.drewN n
theorem div_zero (a : Int) (w : World) :
    Calls Tryd.prog 24 #[.int .i64 a, .int .i64 0] w (Iq2 0 8 w) := by
  go_enter Tryd.func24, Tryd.ntmps24
  go_wp2_with fail
  go_ret2
  exact ⟨0, rfl, rfl⟩
theorem div_any (a b : Int) (w : World) (a1 : -9223372036854775808 ≤ a) (a2 : a ≤ 9223372036854775807) (b1 : -9223372036854775808 ≤ b) (b2 : b ≤ 9223372036854775807) (h0 : ¬ b = 0) :
    Calls Tryd.prog 24 #[.int .i64 a, .int .i64 b] w (Iq2 (divI a b) 0 w) := by
  have r := fun w => ratio_any a.natAbs 65536 b.natAbs w (natAbs_le a1 a2) (by omega) (natAbs_le b1 b2) (by omega)
  have s := fun w => signed_any (ngB a b) _ w (qlim_le (a.natAbs * 65536) b.natAbs)
  unfold divI
  generalize qlim (a.natAbs * 65536) b.natAbs = q at *
  have ma := fun w => magnitude_any a w a1 a2
  have mb := fun w => magnitude_any b w b1 b2
  have hg := ng_eq a b
  generalize ngB a b = g at *
  have h1 : (b == 0) = false := by simpa using h0
  go_enter Tryd.func24, Tryd.ntmps24
  go_wp2_with fail
  refine (ma _).mono ?_
  rintro e w' ⟨rfl, rfl⟩
  go_wp2_with fail
  refine (mb _).mono ?_
  rintro e w' ⟨rfl, rfl⟩
  go_wp2_with fail
  refine (r _).mono ?_
  rintro e w' ⟨n, rfl, rfl⟩
  go_wp2_with fail
  refine (s _).mono ?_
  rintro e w' ⟨rfl, rfl⟩
  go_wp2_with fail
  go_ret2
  exact ⟨n, rfl, rfl⟩
theorem half_div {X y q r : Nat} (h : q * y + r = X) (hr : r < y) : (X + y / 2) / y = if y - r ≤ r then q + 1 else q := by
  have h0 : 0 < y := by omega
  rw [← h, show q * y + r + y / 2 = y * q + (r + y / 2) by rw [Nat.mul_comm]; omega, Nat.mul_add_div h0]
  split
  · have e : (r + y / 2) / y = 1 := by
      have e1 : 1 ≤ (r + y / 2) / y := by rw [Nat.le_div_iff_mul_le h0]; omega
      have e2 : (r + y / 2) / y < 2 := by rw [Nat.div_lt_iff_lt_mul h0]; omega
      omega
    rw [e]
  · rw [Nat.div_eq_of_lt (by omega)]; rfl
theorem sat_div {x y : Nat} (h0 : 0 < y) (h : 2147483648 ≤ x / y) : qlim (x * 65536) y = 140737488355328 := by
  have h1 : 2147483648 * y ≤ x := (Nat.le_div_iff_mul_le h0).1 h
  have h2 : 140737488355328 ≤ (x * 65536 + y / 2) / y := by rw [Nat.le_div_iff_mul_le h0]; omega
  unfold qlim
  omega
/-- What the loop of the long division holds behind k rounds. -/
def LInv (x y : Nat) (k q r : Nat) : Prop := q * y + r = x * 2 ^ k ∧ r < y ∧ q < 2147483648 * 2 ^ k
theorem LInv.twice {x y k q r : Nat} (h : LInv x y k q r) : (2 * q) * y + 2 * r = x * 2 ^ (k + 1) ∧ 2 * q + 1 < 2147483648 * 2 ^ (k + 1) := by
  obtain ⟨h1, h2, h3⟩ := h
  have e : 2 * q * y = 2 * (q * y) := Nat.mul_assoc 2 q y
  rw [e, Nat.pow_succ, ← Nat.mul_assoc x, ← h1]
  omega
theorem LInv.le {x y k q r : Nat} (h : LInv x y k q r) (hk : k ≤ 16) : q < 140737488355328 := by
  have h3 : 2 ^ k ≤ 2 ^ 16 := Nat.pow_le_pow_right (by omega) hk
  have := h.2.2
  omega
end Go.Proofs.YtgfahenhobnjpaaDoor

/-
  Contracts of products and quotients, the program's and the reference's. No conditions but those stated.
-/
import Derived.Test.YtgfahenhobnjpaaPc
namespace Go.Proofs.Ytgfahenhobnjpaa
open Go.RowKit
/-- Do the signs differ? -/
def ngB (a b : Int) : Bool := !(decide (a < 0) == decide (b < 0))
/-- The product of two numbers. -/
def mulI (a b : Int) : Int := sgn (ngB a b) (qlim (a.natAbs * b.natAbs) 65536)
/-- The quotient of two numbers. -/
def divI (a b : Int) : Int := sgn (ngB a b) (qlim (a.natAbs * 65536) b.natAbs)
theorem qlim_le (a d : Nat) : qlim a d ≤ 140737488355328 := by unfold qlim; omega
theorem ng_eq (a b : Int) : (!(decide (a < 0) == decide (b < 0))) = ngB a b := rfl
theorem natAbs_le {n : Int} (h1 : -9223372036854775808 ≤ n) (h2 : n ≤ 9223372036854775807) : n.natAbs ≤ 9223372036854775808 := by omega
theorem mul_any (a b : Int) (w : World) (a1 : -9223372036854775808 ≤ a) (a2 : a ≤ 9223372036854775807) (b1 : -9223372036854775808 ≤ b) (b2 : b ≤ 9223372036854775807) :
    Calls Try.prog 10 #[.int .i64 a, .int .i64 b] w (Iq (.int .i64 (mulI a b)) w) := by
  have r := fun w => ratio_any a.natAbs b.natAbs 65536 w (natAbs_le a1 a2) (natAbs_le b1 b2) (by omega) (by omega)
  have s := fun w => signed_any (ngB a b) _ w (qlim_le (a.natAbs * b.natAbs) 65536)
  unfold mulI
  generalize qlim (a.natAbs * b.natAbs) 65536 = q at *
  have ma := fun w => magnitude_any a w a1 a2
  have mb := fun w => magnitude_any b w b1 b2
  have hg := ng_eq a b
  generalize ngB a b = g at *
  go_enter Try.func10, Try.ntmps10
  go_wp2_with fail
  refine (ma _).mono ?_
  rintro e w' ⟨rfl, rfl⟩
  go_wp2_with fail
  refine (mb _).mono ?_
  rintro e w' ⟨rfl, rfl⟩
  go_wp2_with fail
  refine (r _).mono ?_
  rintro e w' ⟨n, rfl, rfl⟩
  go_wp2_with fail
  refine (s _).mono ?_
  rintro e w' ⟨rfl, rfl⟩
  go_wp2_with fail
  go_ret
  exact ⟨n, rfl, rfl⟩
/-- The call returns these two integers, and at most draws. -/
def Iq2 (v : Int) (k : Int) (w : World) (e : Ending) (w' : World) : Prop := ∃ n : Nat, e = .returned (.tuple #[.int .i64 v, .int .i64 k]) ∧ w' = w.drewN n
theorem div_zero (a : Int) (w : World) :
    Calls Try.prog 8 #[.int .i64 a, .int .i64 0] w (Iq2 0 8 w) := by
  go_enter Try.func8, Try.ntmps8
  go_wp2_with fail
  go_ret2
  exact ⟨0, rfl, rfl⟩
theorem div_any (a b : Int) (w : World) (a1 : -9223372036854775808 ≤ a) (a2 : a ≤ 9223372036854775807) (b1 : -9223372036854775808 ≤ b) (b2 : b ≤ 9223372036854775807) (h0 : ¬ b = 0) :
    Calls Try.prog 8 #[.int .i64 a, .int .i64 b] w (Iq2 (divI a b) 0 w) := by
  have r := fun w => ratio_any a.natAbs 65536 b.natAbs w (natAbs_le a1 a2) (by omega) (natAbs_le b1 b2) (by omega)
  have s := fun w => signed_any (ngB a b) _ w (qlim_le (a.natAbs * 65536) b.natAbs)
  unfold divI
  generalize qlim (a.natAbs * 65536) b.natAbs = q at *
  have ma := fun w => magnitude_any a w a1 a2
  have mb := fun w => magnitude_any b w b1 b2
  have hg := ng_eq a b
  generalize ngB a b = g at *
  have h1 : (b == 0) = false := by simpa using h0
  go_enter Try.func8, Try.ntmps8
  go_wp2_with fail
  refine (ma _).mono ?_
  rintro e w' ⟨rfl, rfl⟩
  go_wp2_with fail
  refine (mb _).mono ?_
  rintro e w' ⟨rfl, rfl⟩
  go_wp2_with fail
  refine (r _).mono ?_
  rintro e w' ⟨n, rfl, rfl⟩
  go_wp2_with fail
  refine (s _).mono ?_
  rintro e w' ⟨rfl, rfl⟩
  go_wp2_with fail
  go_ret2
  exact ⟨n, rfl, rfl⟩
theorem refDiv_zero (a : Int) (w : World) :
    Calls Try.prog 9 #[.int .i64 a, .int .i64 0] w (Iq2 0 8 w) := by
  go_enter Try.func9, Try.ntmps9
  go_wp2_with fail
  go_ret2
  exact ⟨0, rfl, rfl⟩
theorem half_div {X y q r : Nat} (h : q * y + r = X) (hr : r < y) : (X + y / 2) / y = if y - r ≤ r then q + 1 else q := by
  have h0 : 0 < y := by omega
  rw [← h, show q * y + r + y / 2 = y * q + (r + y / 2) by rw [Nat.mul_comm]; omega, Nat.mul_add_div h0]
  split
  · have e : (r + y / 2) / y = 1 := by
      have e1 : 1 ≤ (r + y / 2) / y := by rw [Nat.le_div_iff_mul_le h0]; omega
      have e2 : (r + y / 2) / y < 2 := by rw [Nat.div_lt_iff_lt_mul h0]; omega
      omega
    rw [e]
  · rw [Nat.div_eq_of_lt (by omega)]; rfl
theorem sat_div {x y : Nat} (h0 : 0 < y) (h : 2147483648 ≤ x / y) : qlim (x * 65536) y = 140737488355328 := by
  have h1 : 2147483648 * y ≤ x := (Nat.le_div_iff_mul_le h0).1 h
  have h2 : 140737488355328 ≤ (x * 65536 + y / 2) / y := by rw [Nat.le_div_iff_mul_le h0]; omega
  unfold qlim
  omega
/-- What the loop of the long division holds behind k rounds. -/
def LInv (x y : Nat) (k q r : Nat) : Prop := q * y + r = x * 2 ^ k ∧ r < y ∧ q < 2147483648 * 2 ^ k
theorem LInv.twice {x y k q r : Nat} (h : LInv x y k q r) : (2 * q) * y + 2 * r = x * 2 ^ (k + 1) ∧ 2 * q + 1 < 2147483648 * 2 ^ (k + 1) := by
  obtain ⟨h1, h2, h3⟩ := h
  have e : 2 * q * y = 2 * (q * y) := Nat.mul_assoc 2 q y
  rw [e, Nat.pow_succ, ← Nat.mul_assoc x, ← h1]
  omega
theorem LInv.le {x y k q r : Nat} (h : LInv x y k q r) (hk : k ≤ 16) : q < 140737488355328 := by
  have h3 : 2 ^ k ≤ 2 ^ 16 := Nat.pow_le_pow_right (by omega) hk
  have := h.2.2
  omega
set_option maxRecDepth 100000 in
set_option maxHeartbeats 1000000 in
theorem refDiv_any (a b : Int) (w : World) (a1 : -9223372036854775808 ≤ a) (a2 : a ≤ 9223372036854775807) (b1 : -9223372036854775808 ≤ b) (b2 : b ≤ 9223372036854775807) (h0 : ¬ b = 0) :
    Calls Try.prog 9 #[.int .i64 a, .int .i64 b] w (Iq2 (divI a b) 0 w) := by
  have h1 : (b == 0) = false := by simpa using h0
  have ma := fun w => refMagnitude_any a w a1 a2
  have mb := fun w => refMagnitude_any b w b1 b2
  have hg := ng_eq a b
  unfold divI
  have hx := natAbs_le a1 a2
  have hy := natAbs_le b1 b2
  have hy0 : 0 < b.natAbs := by omega
  generalize ngB a b = g at *
  generalize a.natAbs = x at *
  generalize b.natAbs = y at *
  have e2 : ((y : Int) == 0) = false := by simp; omega
  obtain ⟨q, hq⟩ : ∃ q, x / y = q := ⟨_, rfl⟩
  obtain ⟨r, hr⟩ : ∃ r, x % y = r := ⟨_, rfl⟩
  have k1 : IntKind.u64.wrap ((x : Int) / (y : Int)) = (q : Int) := by
    have := Nat.div_le_self x y
    rw [← Int.natCast_ediv, hq, wrapN _ (by omega)]
  have k2 : (x : Int) % (y : Int) = (r : Int) := by rw [← hr, Int.natCast_emod]
  by_cases h2 : (2147483648 : Int) ≤ (q : Int)
  · have s := fun w => refSigned_any g 140737488355328 w (by omega)
    have hs := sat_div (x := x) hy0 (by rw [hq]; omega)
    rw [hs]
    clear hx hy hq hr hs
    go_enter Try.func9, Try.ntmps9
    go_wp2_with fail
    refine (ma _).mono ?_
    rintro e w' ⟨rfl, rfl⟩
    go_wp2_with fail
    refine (mb _).mono ?_
    rintro e w' ⟨rfl, rfl⟩
    go_wp2_with fail
    go_quiet (fail)
    go_wp2_with fail
    refine (s _).mono ?_
    rintro e w' ⟨rfl, rfl⟩
    go_wp2_with fail
    go_ret2
    exact ⟨_, rfl, rfl⟩
  · have L0 : LInv x y 0 q r := ⟨by rw [← hq, ← hr, Nat.div_add_mod', Nat.pow_zero, Nat.mul_one], by rw [← hr]; exact Nat.mod_lt _ hy0, by omega⟩
    have HY := Lib.hid (And.intro hy hy0)
    have hd2 : decide ((2147483648 : Int) ≤ (q : Int)) = false := by simpa using h2
    clear hx hy hq hr h0 h2
    go_enter Try.func9, Try.ntmps9
    go_wp2_with fail
    refine (ma _).mono ?_
    rintro e w' ⟨rfl, rfl⟩
    go_wp2_with fail
    refine (mb _).mono ?_
    rintro e w' ⟨rfl, rfl⟩
    go_wp2_with fail
    go_quiet (fail)
    go_wp2_with fail
    clear ma mb k1 hg e2 h1
    go_loop [9, 10, 11] (fun u v i => ∃ k q r : Nat, k ≤ 16 ∧ i = .int .i64 (k : Int) ∧ u = .int .u64 (q : Int) ∧ v = .int .u64 (r : Int) ∧ LInv x y k q r) (fun _ _ i => 16 - (intOf i).toNat)
    case atStart => exact ⟨0, q, r, by omega, rfl, rfl, by rw [k2], L0⟩
    case round =>
      obtain ⟨k, q, r, hk, rfl, rfl, rfl, hI⟩ := hrel
      clear k2
      have hy := HY.out
      have t := hI.twice
      have t2 := hI.le hk
      have hr := hI.2.1
      by_cases hlt : k < 16
      · obtain ⟨q2, hq2⟩ : ∃ q2, 2 * q = q2 := ⟨_, rfl⟩
        obtain ⟨r2, hr2⟩ : ∃ r2, 2 * r = r2 := ⟨_, rfl⟩
        obtain ⟨q3, hq3⟩ : ∃ q3, q2 + 1 = q3 := ⟨_, rfl⟩
        obtain ⟨r3, hr3⟩ : ∃ r3, r2 - y = r3 := ⟨_, rfl⟩
        have l1 : IntKind.u64.wrap (2 * (q : Int)) = (q2 : Int) := by rw [show 2 * (q : Int) = (q2 : Int) by omega, wrapN _ (by omega)]
        have l2 : IntKind.u64.wrap (2 * (r : Int)) = (r2 : Int) := by rw [show 2 * (r : Int) = (r2 : Int) by omega, wrapN _ (by omega)]
        have l3 : IntKind.u64.wrap ((q2 : Int) + 1) = (q3 : Int) := by rw [show (q2 : Int) + 1 = (q3 : Int) by omega, wrapN _ (by omega)]
        rw [hq2, hr2] at t
        by_cases hc : (y : Int) ≤ (r2 : Int)
        · have l4 : IntKind.u64.wrap ((r2 : Int) - (y : Int)) = (r3 : Int) := by rw [show (r2 : Int) - (y : Int) = (r3 : Int) by omega, wrapN _ (by omega)]
          have N : LInv x y (k + 1) q3 r3 := ⟨by rw [← hq3, Nat.add_mul]; omega, by omega, by omega⟩
          have HN := Lib.hid N
          clear N t t2 hr hq2 hr2 hq3 hr3 hI hy
          go_wp2_with fail
          go_round
          case rel => exact ⟨k + 1, q3, r3, by omega, by go_num, rfl, rfl, HN.out⟩
          case measure => simp [intOf]; omega
        · have N : LInv x y (k + 1) q2 r2 := ⟨by omega, by omega, by omega⟩
          have HN := Lib.hid N
          clear N t t2 hr hq2 hr2 hq3 hr3 hI hy
          go_wp2_with fail
          go_round
          case rel => exact ⟨k + 1, q2, r2, by omega, by go_num, rfl, rfl, HN.out⟩
          case measure => simp [intOf]; omega
      · obtain rfl : k = 16 := by omega
        have hd := half_div hI.1 hr
        have h1 := hI.1
        obtain ⟨m, hm⟩ : ∃ m, y - r = m := ⟨_, rfl⟩
        have l4 : IntKind.u64.wrap ((y : Int) - (r : Int)) = (m : Int) := by rw [show (y : Int) - (r : Int) = (m : Int) by omega, wrapN _ (by omega)]
        rw [hm] at hd
        by_cases hc : (m : Int) ≤ (r : Int)
        · rw [if_pos (by omega)] at hd
          obtain ⟨q3, hq3⟩ : ∃ q3, q + 1 = q3 := ⟨_, rfl⟩
          have l3 : IntKind.u64.wrap ((q : Int) + 1) = (q3 : Int) := by rw [show (q : Int) + 1 = (q3 : Int) by omega, wrapN _ (by omega)]
          have hd2 : (x * 65536 + y / 2) / y = q3 := by rw [← hq3]; exact hd
          have HQ := Lib.hid (show min q3 140737488355328 = qlim (x * 65536) y by unfold qlim; rw [hd2])
          have s := fun w => refSigned_any g q3 w (by omega)
          clear hd hd2 h1 hm hI hr t t2 hy hq3
          go_wp2_with fail
          refine (s _).mono ?_
          rintro e w' ⟨rfl, rfl⟩
          go_wp2_with fail
          go_ret2
          exact ⟨_, congrArg (fun z => Ending.returned (.tuple #[.int .i64 (sgn g z), .int .i64 0])) HQ.out, rfl⟩
        · rw [if_neg (by omega)] at hd
          have hd2 : (x * 65536 + y / 2) / y = q := hd
          have HQ := Lib.hid (show min q 140737488355328 = qlim (x * 65536) y by unfold qlim; rw [hd2])
          have s := fun w => refSigned_any g q w (by omega)
          clear hd hd2 h1 hm hI hr t t2 hy
          go_wp2_with fail
          refine (s _).mono ?_
          rintro e w' ⟨rfl, rfl⟩
          go_wp2_with fail
          go_ret2
          exact ⟨_, congrArg (fun z => Ending.returned (.tuple #[.int .i64 (sgn g z), .int .i64 0])) HQ.out, rfl⟩
end Go.Proofs.Ytgfahenhobnjpaa

/-
  The contract of the reference's product. No conditions but those stated.
-/
import Derived.Test.YtgfahenhobnjpaaPd
import Derived.Lib.Mul64
namespace Go.Proofs.Ytgfahenhobnjpaa
open Go.RowKit
theorem rm_sat {P : Nat} (h : 9223372036854775808 ≤ P) : qlim P 65536 = 140737488355328 := by unfold qlim; omega
theorem rm_val (P : Nat) : min ((P + 32768) / 65536) 140737488355328 = qlim P 65536 := by unfold qlim; omega
theorem rm_both {x y a b c d : Nat} (hx : x = a * 4294967296 + b) (hy : y = c * 4294967296 + d) (h1 : 0 < a) (h2 : 0 < c) : 9223372036854775808 ≤ x * y := by
  have := Nat.mul_le_mul (show 4294967296 ≤ x by omega) (show 4294967296 ≤ y by omega)
  omega
theorem rm_one {x y a b c d : Nat} (hx : x = a * 4294967296 + b) (hy : y = c * 4294967296 + d) (h : a = 0 ∨ c = 0) : x * y = (a * d + b * c) * 4294967296 + b * d := by
  rw [hx, hy, Lib.split_mul]
  rcases h with rfl | rfl <;> simp
theorem rm_mid {a b c d : Nat} (hb : b ≤ 4294967295) (hd : d ≤ 4294967295) (ha : a ≤ 2147483648) (hc : c ≤ 2147483648) : a * d ≤ 9223372034707292160 ∧ b * c ≤ 9223372034707292160 ∧ b * d ≤ 18446744065119617025 :=
  ⟨Nat.mul_le_mul ha hd, by rw [Nat.mul_comm]; exact Nat.mul_le_mul hc hb, Nat.mul_le_mul hb hd⟩
set_option maxRecDepth 100000 in
set_option maxHeartbeats 1000000 in
theorem refMul_any (a b : Int) (w : World) (a1 : -9223372036854775808 ≤ a) (a2 : a ≤ 9223372036854775807) (b1 : -9223372036854775808 ≤ b) (b2 : b ≤ 9223372036854775807) :
    Calls Try.prog 11 #[.int .i64 a, .int .i64 b] w (Is (.int .i64 (mulI a b)) w) := by
  have ma := fun w => refMagnitude_any a w a1 a2
  have mb := fun w => refMagnitude_any b w b1 b2
  have hg := ng_eq a b
  unfold mulI
  have hx := natAbs_le a1 a2
  have hy := natAbs_le b1 b2
  generalize ngB a b = g at *
  generalize a.natAbs = x at *
  generalize b.natAbs = y at *
  have s : ∀ w, Calls Try.prog 35 #[.bool g, .int .u64 140737488355328] w (Is (.int .i64 (sgn g 140737488355328)) w) := fun w => by
    have h := refSigned_any g 140737488355328 w (by omega)
    rw [Nat.min_self] at h
    exact h
  obtain ⟨xh, hxh⟩ : ∃ q, x / 4294967296 = q := ⟨_, rfl⟩
  obtain ⟨xl, hxl⟩ : ∃ q, x % 4294967296 = q := ⟨_, rfl⟩
  obtain ⟨yh, hyh⟩ : ∃ q, y / 4294967296 = q := ⟨_, rfl⟩
  obtain ⟨yl, hyl⟩ : ∃ q, y % 4294967296 = q := ⟨_, rfl⟩
  have k1 : (x : Int) / 4294967296 = (xh : Int) := by omega
  have k2 : (x : Int) % 4294967296 = (xl : Int) := by omega
  have k3 : (y : Int) / 4294967296 = (yh : Int) := by omega
  have k4 : (y : Int) % 4294967296 = (yl : Int) := by omega
  have k5 := wrapN xh (by omega)
  have k6 := wrapN yh (by omega)
  have ex : x = xh * 4294967296 + xl := by omega
  have ey : y = yh * 4294967296 + yl := by omega
  obtain ⟨m1, m2, m3⟩ := rm_mid (a := xh) (b := xl) (c := yh) (d := yl) (by omega) (by omega) (by omega) (by omega)
  obtain ⟨P1, hP1⟩ : ∃ q, xh * yl = q := ⟨_, rfl⟩
  obtain ⟨P2, hP2⟩ : ∃ q, xl * yh = q := ⟨_, rfl⟩
  obtain ⟨L, hL⟩ : ∃ q, xl * yl = q := ⟨_, rfl⟩
  obtain ⟨M, hM⟩ : ∃ q, P1 + P2 = q := ⟨_, rfl⟩
  rw [hP1] at m1
  rw [hP2] at m2
  rw [hL] at m3
  have l1 : IntKind.u64.wrap ((xh : Int) * (yl : Int)) = (P1 : Int) := by rw [← Int.natCast_mul, hP1, wrapN _ (by omega)]
  have l2 : IntKind.u64.wrap ((xl : Int) * (yh : Int)) = (P2 : Int) := by rw [← Int.natCast_mul, hP2, wrapN _ (by omega)]
  have l3 : IntKind.u64.wrap ((xl : Int) * (yl : Int)) = (L : Int) := by rw [← Int.natCast_mul, hL, wrapN _ (by omega)]
  have l4 : IntKind.u64.wrap ((P1 : Int) + (P2 : Int)) = (M : Int) := by rw [← Int.natCast_add, hM, wrapN _ (by omega)]
  by_cases hA : 0 < xh ∧ 0 < yh
  · obtain ⟨c1, c2⟩ := hA
    have h9 := rm_sat (rm_both ex ey c1 c2)
    rw [h9]
    clear h9 ex ey hxh hxl hyh hyl hP1 hP2 hL hM m1 m2 m3 hx hy
    go_enter Try.func11, Try.ntmps11
    go_wp2_with fail
    refine (ma _).mono ?_
    rintro e w' ⟨rfl, rfl⟩
    go_wp2_with fail
    refine (mb _).mono ?_
    rintro e w' ⟨rfl, rfl⟩
    go_wp2_with fail
    refine (s _).mono ?_
    rintro e w' ⟨rfl, rfl⟩
    go_wp2_with fail
    go_ret
    exact ret_is rfl
  · have hB : xh = 0 ∨ yh = 0 := by omega
    have eP := rm_one ex ey hB
    rw [hP1, hP2, hL, hM] at eP
    rw [eP]
    obtain ⟨MM, hMM⟩ : ∃ q, M * 4294967296 = q := ⟨_, rfl⟩
    obtain ⟨S, hS⟩ : ∃ q, MM + L = q := ⟨_, rfl⟩
    obtain ⟨S2, hS2⟩ : ∃ q, S + 32768 = q := ⟨_, rfl⟩
    obtain ⟨S3, hS3⟩ : ∃ q, S2 / 65536 = q := ⟨_, rfl⟩
    rw [hMM, hS]
    clear eP ex ey hxh hxl hyh hyl hP1 hP2 hL hM hA
    have l5 : M < 2147483648 → IntKind.u64.wrap ((M : Int) * 4294967296) = (MM : Int) := fun h => by rw [show (M : Int) * 4294967296 = (MM : Int) by omega, wrapN _ (by omega)]
    have l6 : M < 2147483648 → L < 9223372036854775808 → IntKind.u64.wrap ((MM : Int) + (L : Int)) = (S : Int) := fun h h' => by rw [← Int.natCast_add, hS, wrapN _ (by omega)]
    have l7 : S < 9223372036854775808 → IntKind.u64.wrap ((S : Int) + 32768) = (S2 : Int) := fun h => by rw [show (S : Int) + 32768 = (S2 : Int) by omega, wrapN _ (by omega)]
    have l8 : (S2 : Int) / 65536 = (S3 : Int) := by omega
    have l9 : S < 9223372036854775808 → IntKind.u64.wrap (S3 : Int) = (S3 : Int) := fun h => wrapN S3 (by omega)
    have q1 : ¬ S < 9223372036854775808 → qlim S 65536 = 140737488355328 := fun h => rm_sat (by omega)
    have q2 : min S3 140737488355328 = qlim S 65536 := by rw [← hS3, ← hS2]; exact rm_val S
    have s2 : S < 9223372036854775808 → ∀ w, Calls Try.prog 35 #[.bool g, .int .u64 (S3 : Int)] w (Is (.int .i64 (sgn g (min S3 140737488355328))) w) := fun h w => refSigned_any g S3 w (by omega)
    rw [q2] at s2
    generalize qlim S 65536 = Z at *
    rcases (show xh = 0 ∨ (0 < xh ∧ yh = 0) by omega) with h | h
    · by_cases c1 : M < 2147483648
      · have l5 := l5 c1
        by_cases c2 : L < 9223372036854775808
        · have l6 := l6 c1 c2
          by_cases c3 : S < 9223372036854775808
          · have l7 := l7 c3
            have l9 := l9 c3
            have s := s2 c3
            have eM : decide ((2147483648 : Int) ≤ (M : Int)) = false := by simp; omega
            have eL : decide ((9223372036854775808 : Int) ≤ (L : Int)) = false := by simp; omega
            have eS : decide ((9223372036854775808 : Int) ≤ (S : Int)) = false := by simp; omega
            have d1 : decide (0 < xh) = false := by simp; omega
            clear q1 s2 h hB c1 c2 c3 hMM hS hS2 hS3 q2 m1 m2 m3 hx hy
            go_enter Try.func11, Try.ntmps11
            go_wp2_with fail
            refine (ma _).mono ?_
            rintro e w' ⟨rfl, rfl⟩
            go_wp2_with fail
            refine (mb _).mono ?_
            rintro e w' ⟨rfl, rfl⟩
            go_wp2_with fail
            (with_reducible refine (s _).mono ?_)
            rintro e w' ⟨rfl, rfl⟩
            go_wp2_with fail
            go_ret
            exact ret_is rfl
          · have q1 := q1 c3
            rw [q1]
            have eM : decide ((2147483648 : Int) ≤ (M : Int)) = false := by simp; omega
            have eL : decide ((9223372036854775808 : Int) ≤ (L : Int)) = false := by simp; omega
            have eS : decide ((9223372036854775808 : Int) ≤ (S : Int)) = true := by simp; omega
            have d1 : decide (0 < xh) = false := by simp; omega
            clear q1 s2 l7 l9 h hB c1 c2 c3 hMM hS hS2 hS3 q2 m1 m2 m3 hx hy
            go_enter Try.func11, Try.ntmps11
            go_wp2_with fail
            refine (ma _).mono ?_
            rintro e w' ⟨rfl, rfl⟩
            go_wp2_with fail
            refine (mb _).mono ?_
            rintro e w' ⟨rfl, rfl⟩
            go_wp2_with fail
            (with_reducible refine (s _).mono ?_)
            rintro e w' ⟨rfl, rfl⟩
            go_wp2_with fail
            go_ret
            exact ret_is rfl
        · have q1 := q1 (by omega)
          rw [q1]
          have eM : decide ((2147483648 : Int) ≤ (M : Int)) = false := by simp; omega
          have eL : decide ((9223372036854775808 : Int) ≤ (L : Int)) = true := by simp; omega
          have d1 : decide (0 < xh) = false := by simp; omega
          clear q1 s2 l7 l9 l6 h hB c1 c2 hMM hS hS2 hS3 q2 m1 m2 m3 hx hy
          go_enter Try.func11, Try.ntmps11
          go_wp2_with fail
          refine (ma _).mono ?_
          rintro e w' ⟨rfl, rfl⟩
          go_wp2_with fail
          refine (mb _).mono ?_
          rintro e w' ⟨rfl, rfl⟩
          go_wp2_with fail
          (with_reducible refine (s _).mono ?_)
          rintro e w' ⟨rfl, rfl⟩
          go_wp2_with fail
          go_ret
          exact ret_is rfl
      · have q1 := q1 (by omega)
        rw [q1]
        have eM : decide ((2147483648 : Int) ≤ (M : Int)) = true := by simp; omega
        have d1 : decide (0 < xh) = false := by simp; omega
        clear q1 s2 l5 l7 l9 l6 h hB c1 hMM hS hS2 hS3 q2 m1 m2 m3 hx hy
        go_enter Try.func11, Try.ntmps11
        go_wp2_with fail
        refine (ma _).mono ?_
        rintro e w' ⟨rfl, rfl⟩
        go_wp2_with fail
        refine (mb _).mono ?_
        rintro e w' ⟨rfl, rfl⟩
        go_wp2_with fail
        (with_reducible refine (s _).mono ?_)
        rintro e w' ⟨rfl, rfl⟩
        go_wp2_with fail
        go_ret
        exact ret_is rfl
    · by_cases c1 : M < 2147483648
      · have l5 := l5 c1
        by_cases c2 : L < 9223372036854775808
        · have l6 := l6 c1 c2
          by_cases c3 : S < 9223372036854775808
          · have l7 := l7 c3
            have l9 := l9 c3
            have s := s2 c3
            have eM : decide ((2147483648 : Int) ≤ (M : Int)) = false := by simp; omega
            have eL : decide ((9223372036854775808 : Int) ≤ (L : Int)) = false := by simp; omega
            have eS : decide ((9223372036854775808 : Int) ≤ (S : Int)) = false := by simp; omega
            have d1 : decide (0 < xh) = true := by simp; omega
            have d2 : decide (0 < yh) = false := by simp; omega
            clear q1 s2 h hB c1 c2 c3 hMM hS hS2 hS3 q2 m1 m2 m3 hx hy
            go_enter Try.func11, Try.ntmps11
            go_wp2_with fail
            refine (ma _).mono ?_
            rintro e w' ⟨rfl, rfl⟩
            go_wp2_with fail
            refine (mb _).mono ?_
            rintro e w' ⟨rfl, rfl⟩
            go_wp2_with fail
            (with_reducible refine (s _).mono ?_)
            rintro e w' ⟨rfl, rfl⟩
            go_wp2_with fail
            go_ret
            exact ret_is rfl
          · have q1 := q1 c3
            rw [q1]
            have eM : decide ((2147483648 : Int) ≤ (M : Int)) = false := by simp; omega
            have eL : decide ((9223372036854775808 : Int) ≤ (L : Int)) = false := by simp; omega
            have eS : decide ((9223372036854775808 : Int) ≤ (S : Int)) = true := by simp; omega
            have d1 : decide (0 < xh) = true := by simp; omega
            have d2 : decide (0 < yh) = false := by simp; omega
            clear q1 s2 l7 l9 h hB c1 c2 c3 hMM hS hS2 hS3 q2 m1 m2 m3 hx hy
            go_enter Try.func11, Try.ntmps11
            go_wp2_with fail
            refine (ma _).mono ?_
            rintro e w' ⟨rfl, rfl⟩
            go_wp2_with fail
            refine (mb _).mono ?_
            rintro e w' ⟨rfl, rfl⟩
            go_wp2_with fail
            (with_reducible refine (s _).mono ?_)
            rintro e w' ⟨rfl, rfl⟩
            go_wp2_with fail
            go_ret
            exact ret_is rfl
        · have q1 := q1 (by omega)
          rw [q1]
          have eM : decide ((2147483648 : Int) ≤ (M : Int)) = false := by simp; omega
          have eL : decide ((9223372036854775808 : Int) ≤ (L : Int)) = true := by simp; omega
          have d1 : decide (0 < xh) = true := by simp; omega
          have d2 : decide (0 < yh) = false := by simp; omega
          clear q1 s2 l7 l9 l6 h hB c1 c2 hMM hS hS2 hS3 q2 m1 m2 m3 hx hy
          go_enter Try.func11, Try.ntmps11
          go_wp2_with fail
          refine (ma _).mono ?_
          rintro e w' ⟨rfl, rfl⟩
          go_wp2_with fail
          refine (mb _).mono ?_
          rintro e w' ⟨rfl, rfl⟩
          go_wp2_with fail
          (with_reducible refine (s _).mono ?_)
          rintro e w' ⟨rfl, rfl⟩
          go_wp2_with fail
          go_ret
          exact ret_is rfl
      · have q1 := q1 (by omega)
        rw [q1]
        have eM : decide ((2147483648 : Int) ≤ (M : Int)) = true := by simp; omega
        have d1 : decide (0 < xh) = true := by simp; omega
        have d2 : decide (0 < yh) = false := by simp; omega
        clear q1 s2 l5 l7 l9 l6 h hB c1 hMM hS hS2 hS3 q2 m1 m2 m3 hx hy
        go_enter Try.func11, Try.ntmps11
        go_wp2_with fail
        refine (ma _).mono ?_
        rintro e w' ⟨rfl, rfl⟩
        go_wp2_with fail
        refine (mb _).mono ?_
        rintro e w' ⟨rfl, rfl⟩
        go_wp2_with fail
        (with_reducible refine (s _).mono ?_)
        rintro e w' ⟨rfl, rfl⟩
        go_wp2_with fail
        go_ret
        exact ret_is rfl
end Go.Proofs.Ytgfahenhobnjpaa

/-
  The laws of products, signs and roots: they return true. No conditions.
-/
import Derived.Test.YtgfahenhobnjpaaPp
namespace Go.Proofs.Ytgfahenhobnjpaa
open Go.RowKit
theorem drewN_add (w : World) (a b : Nat) : (w.drewN a).drewN b = w.drewN (a + b) := by simp [World.drewN, Nat.add_assoc]
theorem below_q {w w' : World} {n : Nat} (hb : Below (w.drewN n).heap.size (w.drewN n) w') : Below w.heap.size w w' := (below_drewN (Below.refl _ _) n).trans hb
set_option maxRecDepth 100000 in
set_option maxHeartbeats 1000000 in
theorem law_muls (a b : Int) (w : World) (a1 : -9223372036854775808 ≤ a) (a2 : a ≤ 9223372036854775807) (b1 : -9223372036854775808 ≤ b) (b2 : b ≤ 9223372036854775807) :
    Calls Try.prog 3 #[.int .i64 a, .int .i64 b] w (Ib (.bool true) w) := by
  have c3 := fun w => mul_any a b w a1 a2 b1 b2
  have c4 := fun w => refMul_any a b w a1 a2 b1 b2
  obtain ⟨q, k, c1, c2⟩ : ∃ q k : Int, (∀ w, Calls Try.prog 8 #[.int .i64 a, .int .i64 b] w (Iq2 q k w)) ∧ (∀ w, Calls Try.prog 9 #[.int .i64 a, .int .i64 b] w (Iq2 q k w)) := by
    by_cases h0 : b = 0
    · subst h0
      exact ⟨0, 8, fun w => div_zero a w, fun w => refDiv_zero a w⟩
    · exact ⟨_, _, fun w => div_any a b w a1 a2 b1 b2 h0, fun w => refDiv_any a b w a1 a2 b1 b2 h0⟩
  clear a1 a2 b1 b2
  generalize mulI a b = m at *
  go_enter Try.func3, Try.ntmps3
  go_wp2_with (first | (go_at_call 8; refine (c1 _).mono ?_; rintro e w' ⟨n1, rfl, rfl⟩) | (go_at_call 9; refine (c2 _).mono ?_; rintro e w' ⟨n2, rfl, rfl⟩) | (go_at_call 10; refine (c3 _).mono ?_; rintro e w' ⟨n3, rfl, rfl⟩) | (go_at_call 11; refine (c4 _).mono ?_; rintro e w' ⟨rfl, rfl⟩) | (go_at_call 12; refine (awake_any _).mono ?_; rintro e w' ⟨rfl, hb⟩))
  go_ret
  exact ⟨by rfl, below_q hb⟩
theorem mulI_comm (a b : Int) : mulI a b = mulI b a := by
  unfold mulI ngB
  rw [Nat.mul_comm, Bool.beq_comm]
theorem sgn_not (b : Bool) (k : Nat) : sgn (!b) k = -sgn b k := by cases b <;> simp [sgn]
theorem sgn_zero (b : Bool) : sgn b 0 = 0 := by cases b <;> rfl
theorem mulI_neg (a b : Int) : mulI (-a) b = -mulI a b := by
  unfold mulI
  rw [Int.natAbs_neg]
  by_cases h : a = 0
  · subst h
    simp only [Int.natAbs_zero, Nat.zero_mul, Int.neg_zero]
    rw [show qlim 0 65536 = 0 by rfl, sgn_zero]; rfl
  · rw [← sgn_not]
    congr 1
    unfold ngB
    by_cases h1 : a < 0
    · rw [show decide (-a < 0) = false by simp; omega, show decide (a < 0) = true by simp; omega]; cases decide (b < 0) <;> rfl
    · rw [show decide (-a < 0) = true by simp; omega, show decide (a < 0) = false by simp; omega]; cases decide (b < 0) <;> rfl
theorem mulI_one (a : Int) (h1 : -140737488355328 ≤ a) (h2 : a ≤ 140737488355328) : mulI a 65536 = a := by
  unfold mulI
  rw [show qlim (a.natAbs * (65536 : Int).natAbs) 65536 = a.natAbs by rw [show (65536 : Int).natAbs = 65536 by rfl]; unfold qlim; omega]
  unfold ngB sgn
  by_cases h : a < 0
  · rw [show decide (a < 0) = true by simp; omega]; simp; omega
  · rw [show decide (a < 0) = false by simp; omega]; simp; omega
theorem mulI_le (a b : Int) : -140737488355328 ≤ mulI a b ∧ mulI a b ≤ 140737488355328 := by
  have := qlim_le (a.natAbs * b.natAbs) 65536
  unfold mulI sgn
  split <;> omega
set_option maxRecDepth 100000 in
set_option maxHeartbeats 1000000 in
theorem law_signs (a b : Int) (w : World) (a1 : -9223372036854775808 ≤ a) (a2 : a ≤ 9223372036854775807) (b1 : -9223372036854775808 ≤ b) (b2 : b ≤ 9223372036854775807) :
    Calls Try.prog 4 #[.int .i64 a, .int .i64 b] w (Ib (.bool true) w) := by
  by_cases h0 : a < -140737488355328
  · have d0 : decide (a < -140737488355328) = true := by simpa using h0
    clear a1 a2 b1 b2 h0
    go_enter Try.func4, Try.ntmps4
    go_wp2_with (go_at_call 12; refine (awake_any _).mono ?_; rintro e w' ⟨rfl, hb⟩)
    go_ret
    exact ⟨by rfl, hb⟩
  have d0 : decide (a < -140737488355328) = false := by simpa using h0
  by_cases h1 : 140737488355328 < a
  · have d1 : decide (140737488355328 < a) = true := by simpa using h1
    clear a1 a2 b1 b2 h0 h1
    go_enter Try.func4, Try.ntmps4
    go_wp2_with (go_at_call 12; refine (awake_any _).mono ?_; rintro e w' ⟨rfl, hb⟩)
    go_ret
    exact ⟨by rfl, hb⟩
  have d1 : decide (140737488355328 < a) = false := by simpa using h1
  by_cases h2 : b < -140737488355328
  · have d2 : decide (b < -140737488355328) = true := by simpa using h2
    clear a1 a2 b1 b2 h0 h1 h2
    go_enter Try.func4, Try.ntmps4
    go_wp2_with (go_at_call 12; refine (awake_any _).mono ?_; rintro e w' ⟨rfl, hb⟩)
    go_ret
    exact ⟨by rfl, hb⟩
  have d2 : decide (b < -140737488355328) = false := by simpa using h2
  by_cases h3 : 140737488355328 < b
  · have d3 : decide (140737488355328 < b) = true := by simpa using h3
    clear a1 a2 b1 b2 h0 h1 h2 h3
    go_enter Try.func4, Try.ntmps4
    go_wp2_with (go_at_call 12; refine (awake_any _).mono ?_; rintro e w' ⟨rfl, hb⟩)
    go_ret
    exact ⟨by rfl, hb⟩
  have d3 : decide (140737488355328 < b) = false := by simpa using h3
  have c1 := fun w => mul_any a b w a1 a2 b1 b2
  have c2 := fun w => mul_any b a w b1 b2 a1 a2
  have c3 := fun w => mul_any (-a) b w (by omega) (by omega) b1 b2
  have c4 := fun w => mul_any a 65536 w a1 a2 (by omega) (by omega)
  rw [mulI_comm] at c2
  rw [mulI_neg] at c3
  rw [mulI_one a (by omega) (by omega)] at c4
  have hm := mulI_le a b
  generalize mulI a b = m at *
  have l1 : wrap64 (-a) = -a := wrap64_in (by omega) (by omega)
  have l2 : wrap64 (-m) = -m := wrap64_in (by omega) (by omega)
  clear h0 h1 h2 h3 a1 a2 b1 b2 hm
  go_enter Try.func4, Try.ntmps4
  go_wp2_with fail
  refine (c1 _).mono ?_
  rintro e w' ⟨n1, rfl, rfl⟩
  go_wp2_with fail
  refine (c2 _).mono ?_
  rintro e w' ⟨n2, rfl, rfl⟩
  go_wp2_with fail
  refine (c3 _).mono ?_
  rintro e w' ⟨n3, rfl, rfl⟩
  go_wp2_with fail
  refine (c1 _).mono ?_
  rintro e w' ⟨n4, rfl, rfl⟩
  go_wp2_with fail
  refine (c4 _).mono ?_
  rintro e w' ⟨n5, rfl, rfl⟩
  go_wp2_with (go_at_call 12; refine (awake_any _).mono ?_; rintro e w' ⟨rfl, hb⟩)
  go_ret
  exact ⟨by rfl, below_q hb⟩
set_option maxRecDepth 100000 in
set_option maxHeartbeats 1000000 in
theorem law_roots (n l h : Int) (w : World) (h1 : -9223372036854775808 ≤ n) (h2 : n ≤ 9223372036854775807) :
    Calls Try.prog 5 #[.int .i64 n, .int .i64 l, .int .i64 h] w (Ib (.bool true) w) := by
  have c1 := fun w => root_any n w h2
  have c2 := fun w => clamp_any n l h w
  have c3 := fun w => refClamp_any n l h w
  have g1 : l ≤ h → decide (clampI n l h < l) = false := fun hl => by unfold clampI; simp; split <;> (try split) <;> omega
  have g2 : l ≤ h → decide (h < clampI n l h) = false := fun hl => by unfold clampI; simp; split <;> (try split) <;> omega
  generalize clampI n l h = c at *
  by_cases h0 : n < 0
  · have e : rootI n = 0 := by unfold rootI; rw [show n.toNat = 0 by omega]; rfl
    rw [e] at c1
    have dn : decide (n < 0) = true := by simpa using h0
    clear e h1 h2 h0
    by_cases hl : l ≤ h
    · have g1 := g1 hl
      have g2 := g2 hl
      have dl : decide (l ≤ h) = true := by simpa using hl
      clear hl
      go_enter Try.func5, Try.ntmps5
      go_wp2_with (first | (go_at_call 13; refine (c1 _).mono ?_; rintro e w' ⟨rfl, rfl⟩) | (go_at_call 14; refine (c2 _).mono ?_; rintro e w' ⟨rfl, rfl⟩) | (go_at_call 15; refine (c3 _).mono ?_; rintro e w' ⟨rfl, rfl⟩) | (go_at_call 12; refine (awake_any _).mono ?_; rintro e w' ⟨rfl, hb⟩))
      go_ret
      exact ⟨by rfl, hb⟩
    · have dl : decide (l ≤ h) = false := by simpa using hl
      clear g1 g2 hl
      go_enter Try.func5, Try.ntmps5
      go_wp2_with (first | (go_at_call 13; refine (c1 _).mono ?_; rintro e w' ⟨rfl, rfl⟩) | (go_at_call 14; refine (c2 _).mono ?_; rintro e w' ⟨rfl, rfl⟩) | (go_at_call 15; refine (c3 _).mono ?_; rintro e w' ⟨rfl, rfl⟩) | (go_at_call 12; refine (awake_any _).mono ?_; rintro e w' ⟨rfl, hb⟩))
      go_ret
      exact ⟨by rfl, hb⟩
  · obtain ⟨N, rfl⟩ : ∃ N : Nat, n = (N : Int) := ⟨n.toNat, by omega⟩
    have e : rootI (N : Int) = (isq N : Nat) := by unfold rootI; rw [Int.toNat_natCast]
    rw [e] at c1
    have hR := isq_le (n := N) (by omega)
    obtain ⟨s1, s2⟩ := isq_spec N
    generalize isq N = R at *
    obtain ⟨S, hS⟩ : ∃ S, R * R = S := ⟨_, rfl⟩
    have q : (R + 1) * (R + 1) = S + 2 * R + 1 := by rw [← hS]; grind
    obtain ⟨D, hD⟩ : ∃ D, N - S = D := ⟨_, rfl⟩
    have k1 : wrap64 ((R : Int) * (R : Int)) = (S : Int) := wrap64_sq hS hR
    have k2 : (N : Int) - (S : Int) = (D : Int) := by omega
    have k3 : decide ((R : Int) ≤ 3037000499) = true := by simp; omega
    have k4 : decide (S ≤ N) = true := by simp; omega
    have k5 : 2 * (R : Int) = ((2 * R : Nat) : Int) := by omega
    have k6 : decide (D ≤ 2 * R) = true := by simp; omega
    have k7 := wrap64_in (a := (D : Int)) (by omega) (by omega)
    have k8 := wrap64_in (a := ((2 * R : Nat) : Int)) (by omega) (by omega)
    have k9 : wrap64 ((N : Int) - (S : Int)) = (D : Int) := by rw [k2, k7]
    generalize 2 * R = R2 at *
    clear e h1 h2 h0 hR s1 s2 hS q hD
    have dn : decide ((N : Int) < 0) = false := by simp
    by_cases h9 : (R : Int) = 3037000499
    · have d9 : ((R : Int) == 3037000499) = true := by simpa using h9
      clear h9
      by_cases hl : l ≤ h
      · have g1 := g1 hl
        have g2 := g2 hl
        have dl : decide (l ≤ h) = true := by simpa using hl
        clear hl
        go_enter Try.func5, Try.ntmps5
        go_wp2_with (first | (go_at_call 13; refine (c1 _).mono ?_; rintro e w' ⟨rfl, rfl⟩) | (go_at_call 14; refine (c2 _).mono ?_; rintro e w' ⟨rfl, rfl⟩) | (go_at_call 15; refine (c3 _).mono ?_; rintro e w' ⟨rfl, rfl⟩) | (go_at_call 12; refine (awake_any _).mono ?_; rintro e w' ⟨rfl, hb⟩))
        go_ret
        exact ⟨by rfl, hb⟩
      · have dl : decide (l ≤ h) = false := by simpa using hl
        clear g1 g2 hl
        go_enter Try.func5, Try.ntmps5
        go_wp2_with (first | (go_at_call 13; refine (c1 _).mono ?_; rintro e w' ⟨rfl, rfl⟩) | (go_at_call 14; refine (c2 _).mono ?_; rintro e w' ⟨rfl, rfl⟩) | (go_at_call 15; refine (c3 _).mono ?_; rintro e w' ⟨rfl, rfl⟩) | (go_at_call 12; refine (awake_any _).mono ?_; rintro e w' ⟨rfl, hb⟩))
        go_ret
        exact ⟨by rfl, hb⟩
    · have d9 : ((R : Int) == 3037000499) = false := by simpa using h9
      clear h9
      by_cases hl : l ≤ h
      · have g1 := g1 hl
        have g2 := g2 hl
        have dl : decide (l ≤ h) = true := by simpa using hl
        clear hl
        go_enter Try.func5, Try.ntmps5
        go_wp2_with (first | (go_at_call 13; refine (c1 _).mono ?_; rintro e w' ⟨rfl, rfl⟩) | (go_at_call 14; refine (c2 _).mono ?_; rintro e w' ⟨rfl, rfl⟩) | (go_at_call 15; refine (c3 _).mono ?_; rintro e w' ⟨rfl, rfl⟩) | (go_at_call 12; refine (awake_any _).mono ?_; rintro e w' ⟨rfl, hb⟩))
        go_ret
        exact ⟨by rfl, hb⟩
      · have dl : decide (l ≤ h) = false := by simpa using hl
        clear g1 g2 hl
        go_enter Try.func5, Try.ntmps5
        go_wp2_with (first | (go_at_call 13; refine (c1 _).mono ?_; rintro e w' ⟨rfl, rfl⟩) | (go_at_call 14; refine (c2 _).mono ?_; rintro e w' ⟨rfl, rfl⟩) | (go_at_call 15; refine (c3 _).mono ?_; rintro e w' ⟨rfl, rfl⟩) | (go_at_call 12; refine (awake_any _).mono ?_; rintro e w' ⟨rfl, hb⟩))
        go_ret
        exact ⟨by rfl, hb⟩
theorem law_roots2 (n l h : Int) (w : World) (h1 : -9223372036854775808 ≤ n) (h2 : n ≤ 9223372036854775807) (_ : -9223372036854775808 ≤ l) (_ : l ≤ 9223372036854775807) (_ : -9223372036854775808 ≤ h) (_ : h ≤ 9223372036854775807) :
    Calls Try.prog 5 #[.int .i64 n, .int .i64 l, .int .i64 h] w (Ib (.bool true) w) := law_roots n l h w h1 h2
end Go.Proofs.Ytgfahenhobnjpaa

/-
  The law of points, for every input: it returns true. No conditions.
-/
import Derived.Test.YtgfahenhobnjpaaPx
namespace Go.Proofs.Ytgfahenhobnjpaa
open Go.RowKit
theorem lt_of_sq {m n : Int} (hn : 0 ≤ n) (h : m * m < n * n) : m < n := by
  rcases Int.lt_or_le m n with h1 | h1
  · exact h1
  · have := Int.mul_le_mul h1 h1 hn (by omega)
    omega
theorem sq0 (x : Int) : 0 ≤ x * x := by rw [← Int.natAbs_mul_self]; omega
theorem rootI_spec {n : Int} (h : 0 ≤ n) : 0 ≤ rootI n ∧ rootI n * rootI n ≤ n ∧ n < (rootI n + 1) * (rootI n + 1) := by
  obtain ⟨m, rfl⟩ : ∃ m : Nat, n = (m : Int) := ⟨n.toNat, by omega⟩
  unfold rootI
  rw [Int.toNat_natCast]
  obtain ⟨a, b⟩ := isq_spec m
  exact ⟨by omega, by exact_mod_cast a, by exact_mod_cast b⟩
theorem sqI_nonneg (x y : Int) : 0 ≤ sqI x y := by
  have h1 : 0 ≤ x * x := sq0 x
  have h2 : 0 ≤ y * y := sq0 y
  unfold sqI; omega
/-- A root of the square of a difference is at most the roots' sum and 1. -/
theorem triangle (x y z t : Int) : rootI (sqI (x - z) (y - t)) ≤ rootI (sqI x y) + rootI (sqI z t) + 1 := by
  obtain ⟨a0, _, a2⟩ := rootI_spec (sqI_nonneg x y)
  obtain ⟨b0, _, b2⟩ := rootI_spec (sqI_nonneg z t)
  obtain ⟨d0, d1, _⟩ := rootI_spec (sqI_nonneg (x - z) (y - t))
  have e : sqI (x - z) (y - t) = sqI x y + sqI z t - 2 * (x * z + y * t) := by unfold sqI; grind
  have ha := sqI_nonneg x y
  have hb := sqI_nonneg z t
  have cs : (x * z + y * t) * (x * z + y * t) + (x * t - y * z) * (x * t - y * z) = sqI x y * sqI z t := by unfold sqI; grind
  have cs0 : 0 ≤ (x * t - y * z) * (x * t - y * z) := sq0 _
  generalize rootI (sqI (x - z) (y - t)) = r at *
  rw [e] at d1
  clear e
  generalize rootI (sqI x y) = p at *
  generalize rootI (sqI z t) = q at *
  generalize sqI x y = A at *
  generalize sqI z t = B at *
  generalize (x * t - y * z) * (x * t - y * z) = E at *
  generalize x * z + y * t = m at *
  have hAB : A * B < ((p + 1) * (p + 1)) * ((q + 1) * (q + 1)) := by
    have h1 := Int.mul_le_mul (Int.le_of_lt a2) (Int.le_of_lt b2) hb (sq0 (p + 1))
    rcases Int.lt_or_le (A * B) (((p + 1) * (p + 1)) * ((q + 1) * (q + 1))) with h | h
    · exact h
    · exfalso
      have h3 : A * B ≤ A * ((q + 1) * (q + 1)) := Int.mul_le_mul_of_nonneg_left (Int.le_of_lt b2) ha
      have h4 : A * ((q + 1) * (q + 1)) < ((p + 1) * (p + 1)) * ((q + 1) * (q + 1)) := Int.mul_lt_mul_of_pos_right a2 (by omega)
      omega
  have hm : -m < (p + 1) * (q + 1) := by
    refine lt_of_sq (Int.mul_nonneg (by omega) (by omega)) ?_
    have e1 : (p + 1) * (q + 1) * ((p + 1) * (q + 1)) = ((p + 1) * (p + 1)) * ((q + 1) * (q + 1)) := by grind
    have e2 : -m * -m = m * m := by grind
    rw [e1, e2]
    omega
  have hr : r < p + q + 2 := by
    refine lt_of_sq (by omega) ?_
    have e3 : (p + q + 2) * (p + q + 2) = (p + 1) * (p + 1) + (q + 1) * (q + 1) + 2 * ((p + 1) * (q + 1)) := by grind
    rw [e3]
    generalize (p + 1) * (q + 1) = PQ at *
    generalize (p + 1) * (p + 1) = PP at *
    generalize (q + 1) * (q + 1) = QQ at *
    generalize r * r = RR at *
    omega
  omega
theorem rootI_le {n c : Int} (h0 : 0 ≤ n) (hc : 0 ≤ c) (h : n < c * c) : 0 ≤ rootI n ∧ rootI n < c := by
  obtain ⟨a, b, _⟩ := rootI_spec h0
  exact ⟨a, lt_of_sq hc (by omega)⟩
theorem sq_mul {x y : Int} (h1 : -1048576 ≤ x) (h2 : x ≤ 1048576) (h3 : -1048576 ≤ y) (h4 : y ≤ 1048576) : -1099511627776 ≤ x * y ∧ x * y ≤ 1099511627776 := by
  have h5 := Nat.mul_le_mul (show x.natAbs ≤ 1048576 by omega) (show y.natAbs ≤ 1048576 by omega)
  have h6 : (x * y).natAbs = x.natAbs * y.natAbs := Int.natAbs_mul x y
  omega
theorem law_points (a b c d : Int) (w : World) (a1 : -2147483648 ≤ a) (a2 : a ≤ 2147483647) (b1 : -2147483648 ≤ b) (b2 : b ≤ 2147483647) (c1 : -2147483648 ≤ c) (c2 : c ≤ 2147483647) (d1 : -2147483648 ≤ d) (d2 : d ≤ 2147483647) :
    Calls Try.prog 7 #[.agg #[.int .i32 a, .int .i32 b], .agg #[.int .i32 c, .int .i32 d]] w (Ib (.bool true) w) := by
  have p1 := fun w => point_any a b w a1 a2 b1 b2
  have p2 := fun w => point_any c d w c1 c2 d1 d2
  have f1 := fun w => far_any a b w a1 a2 b1 b2
  have f2 := fun w => far_any c d w c1 c2 d1 d2
  have hx := tmod_in a
  have hy := tmod_in b
  have hz := tmod_in c
  have ht := tmod_in d
  generalize a.tmod 1048577 = x at *
  generalize b.tmod 1048577 = y at *
  generalize c.tmod 1048577 = z at *
  generalize d.tmod 1048577 = t at *
  have e : sqI (z - x) (t - y) = sqI (x - z) (y - t) := by unfold sqI; grind
  have m1 := sqI_le (x := x) (y := y) (by omega) (by omega) (by omega) (by omega)
  have m2 := sqI_le (x := z) (y := t) (by omega) (by omega) (by omega) (by omega)
  have m3 := sqI_le (x := x - z) (y := y - t) (by omega) (by omega) (by omega) (by omega)
  have r1 := rootI_le (c := 6000000) m1.1 (by omega) (by omega)
  have r2 := rootI_le (c := 6000000) m2.1 (by omega) (by omega)
  have tr := triangle x y z t
  refine law_points0 a b c d x y z t (a * 512) (b * 512) (c * 512) (d * 512) (rootI (sqI (x - z) (y - t))) (rootI (sqI x y)) (rootI (sqI z t)) (rootI (sqI x y) + rootI (sqI z t)) (rootI (sqI x y) + rootI (sqI z t) + 1) (x - z) (y - t) (a * 512 + c * 512) (b * 512 + d * 512) (a * 512 - c * 512) (b * 512 - d * 512) (x + z) (y + t) (x * z + y * t) w p1 p2 f1 f2
    (fun w => distance_any x y z t w (by omega) (by omega) (by omega) (by omega)) (fun w => ?_) (fun w => refDistance_any x y z t w (by omega) (by omega) (by omega) (by omega))
    (fun w => length_any x y w (by omega) (by omega) (by omega) (by omega)) (fun w => length_any z t w (by omega) (by omega) (by omega) (by omega)) (fun w => refLength_any x y w (by omega) (by omega) (by omega) (by omega))
    (fun w => sub_any x y z t _ _ w (wrap64_in (by omega) (by omega)) (wrap64_in (by omega) (by omega))) (fun w => refSub_any x y z t _ _ w (wrap64_in (by omega) (by omega)) (wrap64_in (by omega) (by omega)))
    (fun w => add_any (x - z) (y - t) z t _ _ w (by rw [wrap64_in (by omega) (by omega)]; omega) (by rw [wrap64_in (by omega) (by omega)]; omega))
    (fun w => add_any _ _ _ _ _ _ w (wrap64_in (by omega) (by omega)) (wrap64_in (by omega) (by omega))) (fun w => refAdd_any _ _ _ _ _ _ w (wrap64_in (by omega) (by omega)) (wrap64_in (by omega) (by omega)))
    (fun w => sub_any _ _ _ _ _ _ w (wrap64_in (by omega) (by omega)) (wrap64_in (by omega) (by omega))) (fun w => refSub_any _ _ _ _ _ _ w (wrap64_in (by omega) (by omega)) (wrap64_in (by omega) (by omega)))
    (fun w => add_any _ _ _ _ _ _ w (wrap64_in (by omega) (by omega)) (wrap64_in (by omega) (by omega))) (fun w => refAdd_any _ _ _ _ _ _ w (wrap64_in (by omega) (by omega)) (wrap64_in (by omega) (by omega)))
    (fun w => dot_any x y z t (x * z) (y * t) _ w ?_ ?_ ?_) (fun w => refDot_any x y z t (x * z) (y * t) _ w ?_ ?_ ?_) ?_ ?_ ?_
  · have h := distance_any z t x y w (by omega) (by omega) (by omega) (by omega)
    rwa [e] at h
  · exact wrap64_in (by have := sq_mul (x := x) (y := z) (by omega) (by omega) (by omega) (by omega); omega) (by have := sq_mul (x := x) (y := z) (by omega) (by omega) (by omega) (by omega); omega)
  · exact wrap64_in (by have := sq_mul (x := y) (y := t) (by omega) (by omega) (by omega) (by omega); omega) (by have := sq_mul (x := y) (y := t) (by omega) (by omega) (by omega) (by omega); omega)
  · exact wrap64_in (by have := sq_mul (x := x) (y := z) (by omega) (by omega) (by omega) (by omega); have := sq_mul (x := y) (y := t) (by omega) (by omega) (by omega) (by omega); omega) (by have := sq_mul (x := x) (y := z) (by omega) (by omega) (by omega) (by omega); have := sq_mul (x := y) (y := t) (by omega) (by omega) (by omega) (by omega); omega)
  · exact wrap64_in (by have := sq_mul (x := x) (y := z) (by omega) (by omega) (by omega) (by omega); omega) (by have := sq_mul (x := x) (y := z) (by omega) (by omega) (by omega) (by omega); omega)
  · exact wrap64_in (by have := sq_mul (x := y) (y := t) (by omega) (by omega) (by omega) (by omega); omega) (by have := sq_mul (x := y) (y := t) (by omega) (by omega) (by omega) (by omega); omega)
  · exact wrap64_in (by have := sq_mul (x := x) (y := z) (by omega) (by omega) (by omega) (by omega); have := sq_mul (x := y) (y := t) (by omega) (by omega) (by omega) (by omega); omega) (by have := sq_mul (x := x) (y := z) (by omega) (by omega) (by omega) (by omega); have := sq_mul (x := y) (y := t) (by omega) (by omega) (by omega) (by omega); omega)
  · exact IntWalk.i64_in _ (by omega)
  · exact IntWalk.i64_in _ (by omega)
  · simp; omega
end Go.Proofs.Ytgfahenhobnjpaa

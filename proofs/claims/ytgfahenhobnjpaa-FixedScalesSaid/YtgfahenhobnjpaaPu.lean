/-
  The law of scaling, for every input: it returns true. No conditions.
-/
import Derived.Test.YtgfahenhobnjpaaPzb
namespace Go.Proofs.Ytgfahenhobnjpaa
open Go.RowKit
theorem mul_in {x y c d : Int} (h1 : -c ≤ x) (h2 : x ≤ c) (h3 : -d ≤ y) (h4 : y ≤ d) : -(c * d) ≤ x * y ∧ x * y ≤ c * d := by
  have hc : 0 ≤ c := by omega
  have hd : 0 ≤ d := by omega
  have h5 := Nat.mul_le_mul (show x.natAbs ≤ c.natAbs by omega) (show y.natAbs ≤ d.natAbs by omega)
  have h6 : (x * y).natAbs = x.natAbs * y.natAbs := Int.natAbs_mul x y
  have h7 : ((c.natAbs * d.natAbs : Nat) : Int) = c * d := by rw [Int.natCast_mul]; congr 1 <;> omega
  omega
/-- A component scaled by m / L, m less than L. -/
theorem part {X m L : Int} (hm : 0 ≤ m) (hL : m < L) : (0 ≤ X → 0 ≤ (X * m).tdiv L ∧ (X * m).tdiv L ≤ X) ∧ (X ≤ 0 → (X * m).tdiv L ≤ 0 ∧ X ≤ (X * m).tdiv L) ∧ ((X * m).tdiv L * L) * ((X * m).tdiv L * L) ≤ (X * m) * (X * m) := by
  have hL0 : 0 < L := by omega
  have pos : ∀ Z : Int, 0 ≤ Z → 0 ≤ (Z * m).tdiv L ∧ (Z * m).tdiv L ≤ Z ∧ (Z * m).tdiv L * L ≤ Z * m := fun Z hZ => by
    have h1 : 0 ≤ Z * m := Int.mul_nonneg hZ hm
    rw [Int.tdiv_eq_ediv_of_nonneg h1]
    have h2 : Z * m / L * L ≤ Z * m := Int.ediv_mul_le _ (by omega)
    refine ⟨Int.ediv_nonneg h1 (by omega), ?_, h2⟩
    have h3 : Z * m ≤ Z * L := Int.mul_le_mul_of_nonneg_left (by omega) hZ
    exact Int.le_of_mul_le_mul_right (Int.le_trans h2 h3) hL0
  have neg : ((-X) * m).tdiv L = -((X * m).tdiv L) := by rw [Int.neg_mul, Int.neg_tdiv]
  refine ⟨fun h => ⟨(pos X h).1, (pos X h).2.1⟩, fun h => ?_, ?_⟩
  · have := pos (-X) (by omega)
    rw [neg] at this
    omega
  · rcases Int.le_total 0 X with h | h
    · have h1 := pos X h
      have h2 : 0 ≤ (X * m).tdiv L * L := Int.mul_nonneg h1.1 (by omega)
      exact Int.mul_le_mul h1.2.2 h1.2.2 h2 (Int.mul_nonneg h hm)
    · have h1 := pos (-X) (by omega)
      rw [neg] at h1
      have h2 : 0 ≤ -((X * m).tdiv L) * L := Int.mul_nonneg h1.1 (by omega)
      have h3 := Int.mul_le_mul h1.2.2 h1.2.2 h2 (Int.mul_nonneg (by omega) hm)
      have e1 : -((X * m).tdiv L) * L * (-((X * m).tdiv L) * L) = (X * m).tdiv L * L * ((X * m).tdiv L * L) := by grind
      have e2 : -X * m * (-X * m) = X * m * (X * m) := by grind
      rw [e1, e2] at h3
      exact h3
theorem law_scales (x y most : Int) (w : World) (x1 : -2147483648 ≤ x) (x2 : x ≤ 2147483647) (y1 : -2147483648 ≤ y) (y2 : y ≤ 2147483647) (_ : -9223372036854775808 ≤ most) (_ : most ≤ 9223372036854775807) :
    Calls Try.prog 6 #[.int .i32 x, .int .i32 y, .int .i64 most] w (Ib (.bool true) w) := by
  have p1 := fun w => point_any x y w x1 x2 y1 y2
  have hx := tmod_in x
  have hy := tmod_in y
  generalize x.tmod 1048577 = X at *
  generalize y.tmod 1048577 = Y at *
  have b1 := sq_le (x := X) (c := 1048576) (by omega) hx.2
  have b2 := sq_le (x := Y) (c := 1048576) (by omega) hy.2
  have bn : 0 ≤ sqI X Y ∧ sqI X Y ≤ 2199023255552 := by unfold sqI; omega
  have cL := fun w => lengthUp_any X Y w (by omega) (by omega) (by omega) (by omega)
  have c3 := fun w => refSquare_any X Y w (by omega) (by omega) (by omega) (by omega)
  have r3 := fun w => refRoot_any (sqI X Y) w (by omega)
  have hn : sqI X Y = X * X + Y * Y := rfl
  obtain ⟨u1, u2, u3, u4⟩ := upI_spec bn.1
  have u5 : upI (sqI X Y) ≤ 1482911 := (upI_le bn.1 (by omega)).2 (by omega)
  have s1 := rootI_spec bn.1
  have hm0 : 0 ≤ max most 0 := by omega
  by_cases h : upI (sqI X Y) ≤ max most 0
  · have h1 := (upI_le bn.1 hm0).1 h
    have hmm : max 0 (min most 2097152) * max 0 (min most 2097152) ≥ sqI X Y ∧ max 0 (min most 2097152) * max 0 (min most 2097152) ≤ 4398046511104 ∧ 0 ≤ max 0 (min most 2097152) * max 0 (min most 2097152) := by
      have q := sq_le (x := max 0 (min most 2097152)) (c := 2097152) (by omega) (by omega)
      refine ⟨?_, by omega, q.1⟩
      rcases Int.le_total (max most 0) 2097152 with hh | hh
      · rw [show max 0 (min most 2097152) = max most 0 by omega]; omega
      · rw [show max 0 (min most 2097152) = 2097152 by omega]; omega
    refine law_scales_b x y most X Y (sqI X Y) _ (X * X) (Y * Y) (X * X + Y * Y) _ w p1
      (fun w => scale_short X Y most _ _ w cL rfl (by simpa using h)) (fun w => refScale_short X Y most (max most 0) (max most 0 * max most 0) (sqI X Y) w c3 rfl ?_) c3 rfl (IntWalk.i64_in _ (by omega)) (IntWalk.i64_in _ (by omega)) (IntWalk.i64_in _ (by omega)) (IntWalk.i64_in _ (by omega)) ?_ ⟨fun _ => by omega, fun _ => by omega⟩ ⟨fun _ => by omega, fun _ => by omega⟩ (wrap64_in (by omega) (by omega)) ?_
    · by_cases hb : 4194304 < max most 0
      · exact .inl (by simpa using hb)
      · have q := sq_le (x := max most 0) (c := 4194304) (by omega) (by omega)
        exact .inr ⟨by simpa using hb, wrap64_in (by omega) (by omega), by simpa using h1⟩
    · simp; omega
    · simp; omega
  · have hlt : max most 0 < upI (sqI X Y) := by omega
    have hlim : max 0 (min most 2097152) = max most 0 := by omega
    have k1 := u3 _ hm0 hlt
    obtain ⟨a1, a2, a3⟩ := part (X := X) hm0 hlt
    obtain ⟨e1, e2, e3⟩ := part (X := Y) hm0 hlt
    have hU : -1048576 ≤ (X * max most 0).tdiv (upI (sqI X Y)) ∧ (X * max most 0).tdiv (upI (sqI X Y)) ≤ 1048576 := by
      rcases Int.le_total 0 X with hh | hh
      · have := a1 hh; omega
      · have := a2 hh; omega
    have hV : -1048576 ≤ (Y * max most 0).tdiv (upI (sqI X Y)) ∧ (Y * max most 0).tdiv (upI (sqI X Y)) ≤ 1048576 := by
      rcases Int.le_total 0 Y with hh | hh
      · have := e1 hh; omega
      · have := e2 hh; omega
    have q1 := mul_in (x := X) (y := max most 0) (c := 1048576) (d := 1482911) (by omega) (by omega) (by omega) (by omega)
    have q2 := mul_in (x := Y) (y := max most 0) (c := 1048576) (d := 1482911) (by omega) (by omega) (by omega) (by omega)
    have q3 := sq_le (x := max most 0) (c := 1482911) (by omega) (by omega)
    have q4 := sq_le (x := rootI (sqI X Y)) (c := 1482911) (by omega) (by have := u4; have := (rootI_le (c := 1482911 + 1) bn.1 (by omega) (by omega)).2; omega)
    have hS : (X * max most 0).tdiv (upI (sqI X Y)) * (X * max most 0).tdiv (upI (sqI X Y)) + (Y * max most 0).tdiv (upI (sqI X Y)) * (Y * max most 0).tdiv (upI (sqI X Y)) ≤ max most 0 * max most 0 := by
      generalize (X * max most 0).tdiv (upI (sqI X Y)) = U at *
      generalize (Y * max most 0).tdiv (upI (sqI X Y)) = V at *
      generalize upI (sqI X Y) = L at *
      generalize max most 0 = m at *
      have hLL : 0 < L * L := Int.mul_pos (by omega) (by omega)
      refine Int.le_of_mul_le_mul_right ?_ hLL
      have f1 : (U * U + V * V) * (L * L) = U * L * (U * L) + V * L * (V * L) := by grind
      have f2 : X * m * (X * m) + Y * m * (Y * m) = sqI X Y * (m * m) := by rw [hn]; grind
      have f3 : sqI X Y * (m * m) ≤ L * L * (m * m) := Int.mul_le_mul_of_nonneg_right u2 (sq0 m)
      have f4 : L * L * (m * m) = m * m * (L * L) := Int.mul_comm _ _
      rw [f1]
      omega
    refine law_scales_a x y most X Y ((X * max most 0).tdiv (upI (sqI X Y))) ((Y * max most 0).tdiv (upI (sqI X Y))) (sqI X Y) (max most 0) _ _ _ _ w p1
      (fun w => scale_long X Y most _ _ (X * max most 0) (Y * max most 0) _ _ w cL rfl (by omega) (by simpa using h) (IntWalk.i64_in _ (by omega)) (IntWalk.i64_in _ (by omega)) (IntWalk.i64_in _ (by omega)) (IntWalk.i64_in _ (by omega)))
      (fun w => refScale_long X Y most _ (max most 0 * max most 0) (sqI X Y) (rootI (sqI X Y)) (rootI (sqI X Y) * rootI (sqI X Y)) (upI (sqI X Y)) (X * max most 0) (Y * max most 0) _ _ w c3 r3 rfl (by simp; omega) (wrap64_in (by omega) (by omega)) (by simp; omega) (wrap64_in (by omega) (by omega)) ?_ (by omega) (IntWalk.i64_in _ (by omega)) (IntWalk.i64_in _ (by omega)) (IntWalk.i64_in _ (by omega)) (IntWalk.i64_in _ (by omega)))
      c3 hlim (IntWalk.i64_in _ ?_) (IntWalk.i64_in _ ?_) (IntWalk.i64_in _ ?_) (IntWalk.i64_in _ (by omega)) ?_ ⟨a1, a2⟩ ⟨e1, e2⟩ (wrap64_in (by omega) (by omega)) ?_
    · unfold upI
      by_cases hr : rootI (sqI X Y) * rootI (sqI X Y) < sqI X Y
      · rw [if_pos hr]
        exact .inl ⟨by simpa using hr, wrap64_in (by omega) (by have := (rootI_le (c := 1482911 + 1) bn.1 (by omega) (by omega)).2; omega)⟩
      · rw [if_neg hr]
        exact .inr ⟨by simpa using hr, rfl⟩
    · have := sq_le (c := 1048576) (by omega) hU.2; omega
    · have := sq_le (c := 1048576) (by omega) hV.2; omega
    · have := sq_le (c := 1048576) (by omega) hU.2; have := sq_le (c := 1048576) (by omega) hV.2; omega
    · simp; omega
    · simp; omega
end Go.Proofs.Ytgfahenhobnjpaa

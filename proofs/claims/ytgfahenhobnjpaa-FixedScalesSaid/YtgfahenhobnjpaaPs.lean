/-
  Contracts of scaling, the program's and the reference's. No conditions but those stated.
-/
import Derived.Test.YtgfahenhobnjpaaPy
namespace Go.Proofs.Ytgfahenhobnjpaa
open Go.RowKit
/-- The root, rounded up. -/
def upI (n : Int) : Int := if rootI n * rootI n < n then rootI n + 1 else rootI n
theorem upI_spec {n : Int} (h : 0 ≤ n) : 0 ≤ upI n ∧ n ≤ upI n * upI n ∧ (∀ m, 0 ≤ m → m < upI n → m * m < n) ∧ upI n ≤ rootI n + 1 := by
  obtain ⟨a, b, c⟩ := rootI_spec h
  unfold upI
  split
  · refine ⟨by omega, by omega, fun m h0 hm => ?_, by omega⟩
    have h1 := Int.mul_le_mul (show m ≤ rootI n by omega) (show m ≤ rootI n by omega) h0 a
    omega
  · refine ⟨a, by omega, fun m h0 hm => ?_, by omega⟩
    rcases Int.lt_or_le (m * m) n with h2 | h2
    · exact h2
    · exfalso
      have h3 : (m + 1) * (m + 1) ≤ rootI n * rootI n := Int.mul_le_mul (by omega) (by omega) (by omega) a
      have h4 : (m + 1) * (m + 1) = m * m + 2 * m + 1 := by grind
      omega
theorem upI_le {n m : Int} (h : 0 ≤ n) (hm : 0 ≤ m) : upI n ≤ m ↔ n ≤ m * m := by
  obtain ⟨a, b, c, _⟩ := upI_spec h
  constructor
  · intro h1
    have := Int.mul_le_mul h1 h1 a hm
    omega
  · intro h1
    rcases Int.lt_or_le m (upI n) with h2 | h2
    · have := c m hm h2; omega
    · exact h2
theorem upI_bound {x y : Int} (x1 : -4194304 ≤ x) (x2 : x ≤ 4194304) (y1 : -4194304 ≤ y) (y2 : y ≤ 4194304) : 0 ≤ upI (sqI x y) ∧ upI (sqI x y) ≤ 6000000 ∧ 0 ≤ rootI (sqI x y) ∧ rootI (sqI x y) ≤ 6000000 := by
  have m1 := sqI_le x1 x2 y1 y2
  have r1 := rootI_le (c := 6000000) m1.1 (by omega) (by omega)
  have m3 : upI (sqI x y) ≤ 6000000 := (upI_le m1.1 (by omega)).2 (by omega)
  have m2 := upI_spec m1.1
  omega
theorem lengthUp_any (x y : Int) (w : World) (x1 : -4194304 ≤ x) (x2 : x ≤ 4194304) (y1 : -4194304 ≤ y) (y2 : y ≤ 4194304) :
    Calls Try.prog 36 #[pt x y] w (Ib (.int .i64 (upI (sqI x y))) w) := by
  have c := fun w => square_any x y w x1 x2 y1 y2
  have m1 := sqI_le x1 x2 y1 y2
  have r := fun w => root_any (sqI x y) w (by omega)
  obtain ⟨_, _, r1, r2⟩ := upI_bound x1 x2 y1 y2
  unfold upI
  generalize sqI x y = n at *
  generalize rootI n = s at *
  have l1 : wrap64 (s * s) = s * s := by
    have := sq_le (x := s) (c := 6000000) (by omega) r2
    exact wrap64_in (by omega) (by omega)
  obtain ⟨q, hq⟩ : ∃ q, s * s = q := ⟨_, rfl⟩
  have l2 : wrap64 (s * s) = q := by rw [l1, hq]
  rw [hq]
  clear x1 x2 y1 y2 m1 l1 hq
  by_cases h : q < n
  · have hd : decide (q < n) = true := by simpa using h
    rw [if_pos h]
    clear h
    go_enter Try.func36, Try.ntmps36
    go_wp2_with fail
    refine (c _).mono ?_
    rintro e w1 ⟨rfl, hb⟩
    go_wp2_with fail
    refine (r _).mono ?_
    rintro e w1 ⟨rfl, rfl⟩
    have k0 := (bcell hb).1 w.heap.size 0 (by simp)
    have k1 := (bcell hb).1 w.heap.size 1 (by simp)
    simp at k0 k1
    go_wp2_with fail
    refine (c _).mono ?_
    rintro e w2 ⟨rfl, hb2⟩
    go_wp2_with fail
    go_ret
    exact ⟨by rfl, up (up (one _ _) hb) hb2⟩
  · have hd : decide (q < n) = false := by simpa using h
    rw [if_neg h]
    clear h
    go_enter Try.func36, Try.ntmps36
    go_wp2_with fail
    refine (c _).mono ?_
    rintro e w1 ⟨rfl, hb⟩
    go_wp2_with fail
    refine (r _).mono ?_
    rintro e w1 ⟨rfl, rfl⟩
    have k0 := (bcell hb).1 w.heap.size 0 (by simp)
    have k1 := (bcell hb).1 w.heap.size 1 (by simp)
    simp at k0 k1
    go_wp2_with fail
    refine (c _).mono ?_
    rintro e w2 ⟨rfl, hb2⟩
    go_wp2_with fail
    go_ret
    exact ⟨by rfl, up (up (one _ _) hb) hb2⟩
section
variable {ops : Array Oper} {Q : Exit → Act → World → Prop} {F : Nat → Fact} {base : List Nat} {N : Nat} {o : Oper}
/-- A quotient of two slots. -/
theorem ob_quo2 (t s d : Nat) (y z r : Int) (ty ty' : TypeId) (h0 : z ≠ 0) (hr : IntKind.i64.wrap (y.tdiv z) = r) (ho : o.op = .binOp .quo ty (.tmp t) (.tmp s) ty') (hd : o.dst = some d) (hg : GuardOk ops F base N o) (hk : known ops base o t = true) (hk2 : known ops base o s = true) (hv : F t = Fact.eq (.int .i64 y)) (hv2 : F s = Fact.eq (.int .i64 z)) (hF : F d = Fact.eq (.int .i64 r)) : Ob ops Q F base N o :=
  ob_two t s d _ _ _ hd hg hk hk2 hv hv2 hF fun a w h1 h2 => by
    subst hr
    simp [execOp, ho, h1, h2]
    go_simp
/-- A point out of two slots. -/
theorem ob_buildpt (t s d : Nat) (y z : Int) (ho : o.op = .build 32 #[(0, .tmp t), (1, .tmp s)]) (hd : o.dst = some d) (hg : GuardOk ops F base N o) (hk : known ops base o t = true) (hk2 : known ops base o s = true) (hv : F t = Fact.eq (.int .i64 y)) (hv2 : F s = Fact.eq (.int .i64 z)) (hF : F d = Fact.eq (pt y z)) : Ob ops Q F base N o :=
  ob_two t s d _ _ _ hd hg hk hk2 hv hv2 hF fun a w h1 h2 => by
    simp [execOp, ho, h1, h2]
    go_simp
end
end Go.Proofs.Ytgfahenhobnjpaa

/-
  Contracts of the functions of points, the program's and the reference's. No conditions but those stated.
-/
import Derived.Test.YtgfahenhobnjpaaDoorPr
import Derived.WalkSmall
namespace Go.Proofs.YtgfahenhobnjpaaDoor
open Go.RowKit
/-- The call returns this value, and all memory that was there is as it was. -/
def Ib (v : Value) (w : World) (e : Ending) (w' : World) : Prop := e = .returned v ∧ Below w.heap.size w w'
theorem Is.ib {v : Value} {w : World} {e : Ending} {w' : World} (h : Is v w e w') : Ib v w e w' := ⟨h.1, h.2 ▸ Below.refl _ _⟩
theorem Iq.ib {v : Value} {w : World} {e : Ending} {w' : World} (h : Iq v w e w') : Ib v w e w' := by
  obtain ⟨n, h1, h2⟩ := h
  exact ⟨h1, h2 ▸ below_drewN (Below.refl _ _) n⟩
theorem one' (w : World) (o : Obj) : Below w.heap.size w (w.alloc o) := (Below.refl _ _).alloc (Nat.le_refl _) o
theorem up' {a w w1 : World} (h : Below a.heap.size a w) (hb : Below w.heap.size w w1) : Below a.heap.size a w1 := h.trans (hb.mono h.size)
theorem bcell {W w1 : World} (hb : Below W.heap.size W w1) : (∀ b o, b < W.heap.size → w1.cell? ⟨b, o, none⟩ = W.cell? ⟨b, o, none⟩) ∧ (∀ b o, b < W.heap.size → w1.frozen? ⟨b, o, none⟩ = W.frozen? ⟨b, o, none⟩) :=
  ⟨fun b o h => hb.cell (p := ⟨b, o, none⟩) h, fun b o h => hb.frozen (p := ⟨b, o, none⟩) h⟩
theorem ret_int {k : IntKind} {a b : Int} (h : a = b) : Ending.returned (.int k a) = .returned (.int k b) := by rw [h]
/-- A point. -/
abbrev pt (x y : Int) : Value := .agg #[.int .i64 x, .int .i64 y]
/-- The square of a length. -/
def sqI (x y : Int) : Int := x * x + y * y
theorem sq_le {x c : Int} (h1 : -c ≤ x) (h2 : x ≤ c) : 0 ≤ x * x ∧ x * x ≤ c * c := by
  have h3 : x.natAbs ≤ c.natAbs := by omega
  have h4 := Nat.mul_le_mul h3 h3
  have e1 : ((x.natAbs * x.natAbs : Nat) : Int) = x * x := by rw [Int.natAbs_mul_self]
  have e2 : ((c.natAbs * c.natAbs : Nat) : Int) = c * c := by rw [Int.natAbs_mul_self]
  omega
theorem sqI_le {x y : Int} (x1 : -4194304 ≤ x) (x2 : x ≤ 4194304) (y1 : -4194304 ≤ y) (y2 : y ≤ 4194304) : 0 ≤ sqI x y ∧ sqI x y ≤ 35184372088832 := by
  have := sq_le x1 x2
  have := sq_le y1 y2
  unfold sqI
  omega
theorem dot_any (a b c d u v s : Int) (w : World) (h1 : wrap64 (a * c) = u) (h2 : wrap64 (b * d) = v) (h3 : wrap64 (u + v) = s) :
    Calls Tryd.prog 42 #[pt a b, pt c d] w (Ib (.int .i64 s) w) := by
  go_enter Tryd.func42, Tryd.ntmps42
  go_wp2_with fail
  go_ret
  exact ⟨ret_int h3, up' (one' _ _) (one' _ _)⟩
theorem wrap64_in {a : Int} (h : -9223372036854775808 ≤ a) (h2 : a ≤ 9223372036854775807) : wrap64 a = a := by unfold wrap64; omega
theorem square_any (x y : Int) (w : World) (x1 : -4194304 ≤ x) (x2 : x ≤ 4194304) (y1 : -4194304 ≤ y) (y2 : y ≤ 4194304) :
    Calls Tryd.prog 34 #[pt x y] w (Ib (.int .i64 (sqI x y)) w) := by
  have c := fun w => dot_any x y x y (x * x) (y * y) (sqI x y) w (by have := sq_le x1 x2; exact wrap64_in (by omega) (by omega)) (by have := sq_le y1 y2; exact wrap64_in (by omega) (by omega)) (by have := sqI_le x1 x2 y1 y2; exact wrap64_in (by unfold sqI at this; omega) (by unfold sqI at this; omega))
  go_enter Tryd.func34, Tryd.ntmps34
  go_wp2_with (go_at_call 42; refine (c _).mono ?_; rintro e w' ⟨rfl, hb⟩)
  go_ret
  exact ⟨by rfl, up' (one' _ _) hb⟩
theorem length_any (x y : Int) (w : World) (x1 : -4194304 ≤ x) (x2 : x ≤ 4194304) (y1 : -4194304 ≤ y) (y2 : y ≤ 4194304) :
    Calls Tryd.prog 27 #[pt x y] w (Ib (.int .i64 (rootI (sqI x y))) w) := by
  have c := fun w => square_any x y w x1 x2 y1 y2
  have r := fun w => root_any (sqI x y) w (by have := sqI_le x1 x2 y1 y2; omega)
  go_enter Tryd.func27, Tryd.ntmps27
  go_wp2_with (first | (go_at_call 34; refine (c _).mono ?_; rintro e w' ⟨rfl, hb⟩) | (go_at_call 26; refine (r _).mono ?_; rintro e w' ⟨rfl, rfl⟩))
  go_ret
  exact ⟨by rfl, up' (one' _ _) hb⟩
theorem awake_any (w : World) :
    Calls Tryd.prog 8 #[] w (Ib (.bool true) w) := by
  have c1 : ∀ w, Calls Tryd.prog 24 #[.int .i64 1, .int .i64 3] w (Iq2 21845 0 w) := fun w => div_any 1 3 w (by omega) (by omega) (by omega) (by omega) (by omega)
  have c2 : ∀ w, Calls Tryd.prog 25 #[.int .i64 98304, .int .i64 (-1)] w (Iq (.int .i64 (-2)) w) := fun w => mul_any 98304 (-1) w (by omega) (by omega) (by omega) (by omega)
  have c3 : ∀ w, Calls Tryd.prog 26 #[.int .i64 99] w (Is (.int .i64 9) w) := fun w => by
    have h := root_any 99 w (by omega)
    rwa [show rootI 99 = 9 by unfold rootI; rw [isq_uniq (r := 9) (by decide) (by decide)]; rfl] at h
  have c4 : ∀ w, Calls Tryd.prog 27 #[pt 3 (-4)] w (Ib (.int .i64 5) w) := fun w => by
    have h := length_any 3 (-4) w (by omega) (by omega) (by omega) (by omega)
    rwa [show rootI (sqI 3 (-4)) = 5 by unfold rootI; rw [isq_uniq (r := 5) (by decide) (by decide)]; rfl] at h
  go_enter Tryd.func8, Tryd.ntmps8
  go_wp2_with (first | (go_at_call 24; refine (c1 _).mono ?_; rintro e w' ⟨n1, rfl, rfl⟩) | (go_at_call 25; refine (c2 _).mono ?_; rintro e w' ⟨n2, rfl, rfl⟩) | (go_at_call 26; refine (c3 _).mono ?_; rintro e w' ⟨rfl, rfl⟩) | (go_at_call 27; refine (c4 _).mono ?_; rintro e w' ⟨rfl, hb⟩))
  go_ret
  exact ⟨by rfl, (below_drewN (Below.refl _ _) (n1 + n2)).trans hb⟩
end Go.Proofs.YtgfahenhobnjpaaDoor

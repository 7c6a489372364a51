/-
  Entries by their number: the developers' indexOf, field and Field, the reference's Field. No conditions beyond those that each names.
-/
import Derived.Test.YthfodpbecddheaaGreatDoorQM08
import Derived.Lib.Overlaps
import Derived.Lib.AppendZerosOnto
import Derived.Laws.CopyRow
import Derived.Laws.Externs
import Derived.Shelf.Spec.SlicesInsert
import Derived.Shelf.Spec.SlicesInsertGrow
import Derived.Laws.CopyOwn
namespace Go.Proofs.YthfodpbecddheaaGreatDoor
open Go.RowKit Go.Sort
def ixI : Option Nat → Int
  | none => -1
  | some i => (i : Int)
theorem findIdx_at {α : Type} {p : α → Bool} {l : List α} {k : Nat} (h : k < l.length) (hp : p (l[k]'h) = true) (hb : ∀ j (hj : j < l.length), j < k → p (l[j]'hj) = false) : l.findIdx? p = some k := by
  rw [List.findIdx?_eq_some_iff_getElem]
  exact ⟨h, hp, fun j hj => by simp [hb j (by omega) hj]⟩
theorem findIdx_none {α : Type} {p : α → Bool} {l : List α} (hb : ∀ j (hj : j < l.length), p (l[j]'hj) = false) : l.findIdx? p = none := by
  rw [List.findIdx?_eq_none_iff]
  intro x hx
  obtain ⟨j, hj, rfl⟩ := List.mem_iff_getElem.1 hx
  exact hb j hj
end Go.Proofs.YthfodpbecddheaaGreatDoor
/-
  The developers' field and Field, the reference's Field. No conditions beyond those that each names.
-/
namespace Go.Proofs.YthfodpbecddheaaGreatDoor
open Go.RowKit Go.Sort
def vl0 : Vl := .mk 0 0 [] [] []
def FdP (o : Option Vl) (w : World) (e : Ending) (w' : World) : Prop := ∃ s, e = .returned (.tuple #[.agg #[.int .i64 (o.getD vl0).kind, .int .i64 (o.getD vl0).n, .string (bs (o.getD vl0).s), .slice s.A (o.getD vl0).l.length s.c, .slice s.B (o.getD vl0).f.length s.d], .bool o.isSome]) ∧ RdV w' (o.getD vl0) s ∧ Below w.heap.size w w'
theorem rd0 (w : World) : RdV w vl0 ⟨none, 0, none, 0⟩ := ⟨.inl rfl, .inl rfl⟩
/-- The same, its lists where they lay in an elder world. -/
def FdQ (W0 : World) (o : Option Vl) (w : World) (e : Ending) (w' : World) : Prop := ∃ s, e = .returned (.tuple #[.agg #[.int .i64 (o.getD vl0).kind, .int .i64 (o.getD vl0).n, .string (bs (o.getD vl0).s), .slice s.A (o.getD vl0).l.length s.c, .slice s.B (o.getD vl0).f.length s.d], .bool o.isSome]) ∧ RdV W0 (o.getD vl0) s ∧ Below w.heap.size w w'
theorem FdQ.none_ {W0 w w' : World} (hb : Below w.heap.size w w') : FdQ W0 none w (.returned (.tuple #[.agg #[.int .i64 0, .int .i64 0, .string ⟨#[]⟩, .slice none 0 0, .slice none 0 0], .bool false])) w' := ⟨⟨none, 0, none, 0⟩, rfl, rd0 _, hb⟩
theorem FdQ.some_ {W0 w w' : World} {u : Vl} {s : Sb} (hr : RdV W0 u s) (hb : Below w.heap.size w w') : FdQ W0 (some u) w (.returned (.tuple #[.agg #[.int .i64 u.kind, .int .i64 u.n, .string (bs u.s), .slice s.A u.l.length s.c, .slice s.B u.f.length s.d], .bool true])) w' := ⟨s, rfl, hr, hb⟩
theorem FdP.none_ {w w' : World} (hb : Below w.heap.size w w') : FdP none w (.returned (.tuple #[.agg #[.int .i64 0, .int .i64 0, .string ⟨#[]⟩, .slice none 0 0, .slice none 0 0], .bool false])) w' := ⟨⟨none, 0, none, 0⟩, rfl, rd0 _, hb⟩
theorem FdP.some_ {w w' : World} {u : Vl} {s : Sb} (hr : RdV w' u s) (hb : Below w.heap.size w w') : FdP (some u) w (.returned (.tuple #[.agg #[.int .i64 u.kind, .int .i64 u.n, .string (bs u.s), .slice s.A u.l.length s.c, .slice s.B u.f.length s.d], .bool true])) w' := ⟨s, rfl, hr, hb⟩
theorem gb5 {W w' : World} (hb : Below W.heap.size W w') {b : Nat} (hle : W.heap.size ≤ b) (v0 v1 v2 v3 v4 : Value) : Below W.heap.size W (((((w'.setCell ⟨b, 0, none⟩ v0).setCell ⟨b, 1, none⟩ v1).setCell ⟨b, 2, none⟩ v2).setCell ⟨b, 3, none⟩ v3).setCell ⟨b, 4, none⟩ v4) :=
  ((((hb.setCell hle v0).setCell hle v1).setCell hle v2).setCell hle v3).setCell hle v4
theorem VlA.sb {w : World} {t : Vl} {p : Addr} (h : VlA w t p) : ∃ s : Sb, w.cell? p = some (.int .i64 t.kind) ∧ w.cell? (nx1 p 1) = some (.int .i64 t.n) ∧ w.cell? (nx1 p 2) = some (.string (bs t.s)) ∧ w.cell? (nx1 p 3) = some (.slice s.A t.l.length s.c) ∧ w.cell? (nx1 p 4) = some (.slice s.B t.f.length s.d) ∧ RdV w t s := by
  obtain ⟨h0, h1, h2, ⟨A, c, h3, h4⟩, A2, c2, h5, h6⟩ := h.cells
  exact ⟨⟨A, c, A2, c2⟩, h0, h1, h2, h3, h5, h4, h6⟩
theorem EtA.sb {w : World} {x : Int × Vl} {p : Addr} (h : EtA w x p) : ∃ s : Sb, w.cell? p = some (.int .i64 x.1) ∧ w.cell? (nx1 p 1) = some (.int .i64 x.2.kind) ∧ w.cell? (nx1 p 2) = some (.int .i64 x.2.n) ∧ w.cell? (nx1 p 3) = some (.string (bs x.2.s)) ∧ w.cell? (nx1 p 4) = some (.slice s.A x.2.l.length s.c) ∧ w.cell? (nx1 p 5) = some (.slice s.B x.2.f.length s.d) ∧ RdV w x.2 s := by
  obtain ⟨h0, h⟩ := h
  obtain ⟨s, h1, h2, h3, h4, h5, h6⟩ := h.sb
  exact ⟨s, h0, h1, h2, h3, h4, h5, h6⟩
end Go.Proofs.YthfodpbecddheaaGreatDoor
/-
  The developers' renew of a value without lists. No conditions beyond those that each names.
-/
namespace Go.Proofs.YthfodpbecddheaaGreatDoor
open Go.RowKit Go.Shelf
end Go.Proofs.YthfodpbecddheaaGreatDoor
/-
  slices.Insert at the end of a row of the call's own. No conditions beyond those that each names.
-/
namespace Go.Proofs.YthfodpbecddheaaGreatDoor
open Go.RowKit Go.Shelf
theorem IL.snoc {α β : Type} {z : Nat} {enc : α → β → List Value} {P : Nat → α → β → Prop} {l : List α} {xs : List Value} (h : IL z enc P l xs) (y : α) (b : β) (hz : (enc y b).length = z) (hP : P l.length y b) : IL z enc P (l ++ [y]) (xs ++ enc y b) := by
  refine ⟨by rw [List.length_append, List.length_append, h.1, hz, Nat.add_mul]; simp, fun j hj => ?_⟩
  rw [List.length_append] at hj
  by_cases e : j < l.length
  · obtain ⟨b', h1, h2⟩ := h.2 j e
    rw [List.getElem_append_left e]
    refine ⟨b', fun i hi => ?_, h2⟩
    rw [List.getElem?_append_left (by rw [h.1]; exact mulz e hi)]
    exact h1 i hi
  · have e2 : j = l.length := by simp at hj; omega
    subst e2
    rw [List.getElem_append_right (Nat.le_refl _)]
    simp only [Nat.sub_self, List.getElem_cons_zero]
    refine ⟨b, fun i hi => ?_, hP⟩
    rw [List.getElem?_append_right (by rw [h.1]; omega), h.1, Nat.add_sub_cancel_left]
end Go.Proofs.YthfodpbecddheaaGreatDoor
/-
  'copy' between rows of elements of several cells; slices.Insert ahead of an element where there is room. No conditions beyond those that each names.
-/
namespace Go.Proofs.YthfodpbecddheaaGreatDoor
open Go.RowKit Go.Shelf
end Go.Proofs.YthfodpbecddheaaGreatDoor
/-
  slices.Insert ahead of an element, with or without room. No conditions beyond those that each names.
-/
namespace Go.Proofs.YthfodpbecddheaaGreatDoor
open Go.RowKit Go.Shelf Go.Lib
end Go.Proofs.YthfodpbecddheaaGreatDoor
/-
  'clear' of elements of several cells; slices.DeleteFunc of the entries with a number. No conditions beyond those that each names.
-/
namespace Go.Proofs.YthfodpbecddheaaGreatDoor
open Go.RowKit Go.Shelf Go.Sort
/-- How the row stands when the places before k have been gone through and i of them stay. -/
def DelM (p : Int × Vl → Bool) (l M : List (Int × Vl)) (i k : Nat) : Prop := M.length = l.length ∧ M.take i = (l.take k).filter p ∧ M.drop k = l.drop k
theorem DelM.get {p : Int × Vl → Bool} {l M : List (Int × Vl)} {i k : Nat} (h : DelM p l M i k) (hk : k < l.length) : M[k]'(by rw [h.1]; exact hk) = l[k]'hk := by
  have h1 := congrArg (fun x => x[0]?) h.2.2
  simp only [List.getElem?_drop, Nat.add_zero] at h1
  rw [List.getElem?_eq_getElem (by rw [h.1]; exact hk), List.getElem?_eq_getElem hk] at h1
  exact Option.some.inj h1
theorem drop_succ_of {α : Type} {l m : List α} {k : Nat} (h : m.drop k = l.drop k) : m.drop (k + 1) = l.drop (k + 1) := by
  rw [← List.drop_drop, ← List.drop_drop, h]
theorem DelM.skip {p : Int × Vl → Bool} {l M : List (Int × Vl)} {i k : Nat} (h : DelM p l M i k) (hk : k < l.length) (hp : p (l[k]'hk) = false) : DelM p l M i (k + 1) := by
  refine ⟨h.1, ?_, drop_succ_of h.2.2⟩
  rw [h.2.1, List.take_succ_eq_append_getElem hk, List.filter_append, List.filter_cons_of_neg (by rw [hp]; decide), List.filter_nil, List.append_nil]
theorem DelM.keep {p : Int × Vl → Bool} {l M : List (Int × Vl)} {i k : Nat} (h : DelM p l M i k) (hk : k < l.length) (hik : i < k) (hp : p (l[k]'hk) = true) : DelM p l (M.set i (l[k]'hk)) (i + 1) (k + 1) := by
  have hM : i < M.length := by rw [h.1]; omega
  refine ⟨by rw [List.length_set]; exact h.1, ?_, ?_⟩
  · rw [List.take_succ_eq_append_getElem (by rw [List.length_set]; exact hM), List.getElem_set_self, List.take_set_of_le (Nat.le_refl _), h.2.1, List.take_succ_eq_append_getElem hk, List.filter_append, List.filter_cons_of_pos hp, List.filter_nil]
  · rw [List.drop_set_of_lt (by omega)]
    exact drop_succ_of h.2.2
theorem DelM.first {p : Int × Vl → Bool} {l : List (Int × Vl)} {i : Nat} (hi : i < l.length) (h1 : p (l[i]'hi) = false) (h2 : ∀ j (hj : j < l.length), j < i → p (l[j]'hj) = true) : DelM p l l i (i + 1) := by
  refine ⟨rfl, ?_, rfl⟩
  rw [List.take_succ_eq_append_getElem hi, List.filter_append, List.filter_cons_of_neg (by rw [h1]; decide), List.filter_nil, List.append_nil]
  refine (List.filter_eq_self.2 fun x hx => ?_).symm
  obtain ⟨j, hj, rfl⟩ := List.getElem_of_mem hx
  rw [List.getElem_take]
  rw [List.length_take] at hj
  exact h2 j (by omega) (by omega)
theorem IL.take {α β : Type} {z : Nat} {enc : α → β → List Value} {P : α → β → Prop} {l : List α} {xs : List Value} (h : IL z enc (fun _ x s => P x s) l xs) (i : Nat) (hi : i ≤ l.length) : IL z enc (fun _ x s => P x s) (l.take i) (xs.take (i * z)) := by
  have hm : i * z ≤ l.length * z := Nat.mul_le_mul_right z hi
  refine ⟨by rw [List.length_take, List.length_take, h.1, Nat.min_eq_left hi, Nat.min_eq_left hm], fun j hj => ?_⟩
  rw [List.length_take] at hj
  obtain ⟨b, h1, h2⟩ := h.2 j (by omega)
  rw [List.getElem_take]
  refine ⟨b, fun q hq => ?_, h2⟩
  rw [List.getElem?_take, if_pos (mulz (k := i) (by omega) hq)]
  exact h1 q hq
end Go.Proofs.YthfodpbecddheaaGreatDoor


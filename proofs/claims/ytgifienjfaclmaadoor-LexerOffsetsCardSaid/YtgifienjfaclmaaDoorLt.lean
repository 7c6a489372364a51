/-
  The reference's scanner: NewScanner, Peek, Next, Mark, Word. No conditions but Go's own bounds.
-/
import Derived.Test.YtgifienjfaclmaaDoorLs
import Derived.Test.YtgifienjfaclmaaDoorLr
import Derived.Test.YtgifienjfaclmaaDoorG4
import Derived.Deep.DeepCutAuto
namespace Go.Proofs.YtgifienjfaclmaaDoor
open Go.RowKit
/-- What NewScanner leaves. -/
def NewP (R : Except (Nat × Nat) (List Tk)) (w : World) (e : Ending) (w' : World) : Prop := Below w.heap.size w w' ∧ match R with
  | .error (x, p) => e = .returned (.tuple #[.agg #[.slice none 0 0, .int .i64 0], .int .i64 (x : Int), .int .i64 (p : Int)])
  | .ok ts => ∃ v, e = .returned (.tuple #[.agg #[v, .int .i64 0], .int .i64 0, .int .i64 0]) ∧ Ot w.heap.size w' v ts
theorem NewP.err {R : Except (Nat × Nat) (List Tk)} {w w' : World} {x p : Nat} (h : R = .error (x, p)) (hb : Below w.heap.size w w') : NewP R w (.returned (.tuple #[.agg #[.slice none 0 0, .int .i64 0], .int .i64 (x : Int), .int .i64 (p : Int)])) w' := by
  subst h
  exact ⟨hb, rfl⟩
theorem NewP.ok {R : Except (Nat × Nat) (List Tk)} {w w' : World} {ts : List Tk} {v : Value} (h : R = .ok ts) (hb : Below w.heap.size w w') (ho : Ot w.heap.size w' v ts) : NewP R w (.returned (.tuple #[.agg #[v, .int .i64 0], .int .i64 0, .int .i64 0])) w' := by
  subst h
  exact ⟨hb, v, rfl, ho⟩
/-- A scanner at block g: its tokens, and the place of the next one. -/
structure Sn (w : World) (g : Nat) (A : Option Addr) (c : Nat) (l : List Tk) (j : Nat) : Prop where
  lt : g < w.heap.size
  c0 : w.cell? ⟨g, 0, none⟩ = some (.slice A l.length c)
  c1 : w.cell? ⟨g, 1, none⟩ = some (.int .i64 (j : Int))
  f1 : w.frozen? ⟨g, 1, none⟩ = false
  ne : ∀ a, A = some a → a.block ≠ g
  tr : Tr w A l
theorem Sn.next {w w' : World} {g : Nat} {A : Option Addr} {c : Nat} {l : List Tk} {j : Nat} (h : Sn w g A c l j) (hb : Below w.heap.size w w') : Sn w' g A c l j :=
  ⟨Nat.lt_of_lt_of_le h.lt hb.size, (hb.cell h.lt).trans h.c0, (hb.cell h.lt).trans h.c1, (hb.frozen h.lt).trans h.f1, h.ne, h.tr.next hb⟩
/-- A token as a value. -/
def Tk.val (t : Tk) : Value := .agg #[.int .i64 (t.kind : Int), .string (bs t.text), .int .i64 t.num, .int .i64 (t.at_ : Int)]
/-- A variable of four cells at block b. -/
structure V4 (w : World) (b : Nat) (x y z u : Value) : Prop where
  lt : b < w.heap.size
  c0 : w.cell? ⟨b, 0, none⟩ = some x
  c1 : w.cell? ⟨b, 1, none⟩ = some y
  c2 : w.cell? ⟨b, 2, none⟩ = some z
  c3 : w.cell? ⟨b, 3, none⟩ = some u
  f0 : w.frozen? ⟨b, 0, none⟩ = false
  f1 : w.frozen? ⟨b, 1, none⟩ = false
  f2 : w.frozen? ⟨b, 2, none⟩ = false
  f3 : w.frozen? ⟨b, 3, none⟩ = false
theorem V4.next {w w' : World} {b : Nat} {x y z u : Value} (h : V4 w b x y z u) (hb : Below w.heap.size w w') : V4 w' b x y z u :=
  ⟨Nat.lt_of_lt_of_le h.lt hb.size, (hb.cell h.lt).trans h.c0, (hb.cell h.lt).trans h.c1, (hb.cell h.lt).trans h.c2, (hb.cell h.lt).trans h.c3, (hb.frozen h.lt).trans h.f0, (hb.frozen h.lt).trans h.f1, (hb.frozen h.lt).trans h.f2, (hb.frozen h.lt).trans h.f3⟩
theorem V4.new (w : World) (x y z u : Value) (t : TypeId) : V4 (w.alloc (Obj.cells #[x, y, z, u] t)) w.heap.size x y z u :=
  ⟨by simp, by simp, by simp, by simp, by simp, by simp, by simp, by simp, by simp⟩
end Go.Proofs.YtgifienjfaclmaaDoor

/-
  The reference's scanner: NewScanner, Next, Mark, Word. No conditions but Go's own bounds.
-/
import Derived.Test.YtgifienjfaclmaaDoorLt
namespace Go.Proofs.YtgifienjfaclmaaDoor
open Go.RowKit
/-- A variable of two cells at block b. -/
structure V2 (w : World) (b : Nat) (x y : Value) : Prop where
  lt : b < w.heap.size
  c0 : w.cell? ⟨b, 0, none⟩ = some x
  c1 : w.cell? ⟨b, 1, none⟩ = some y
  f0 : w.frozen? ⟨b, 0, none⟩ = false
  f1 : w.frozen? ⟨b, 1, none⟩ = false
theorem V2.next {w w' : World} {b : Nat} {x y : Value} (h : V2 w b x y) (hb : Below w.heap.size w w') : V2 w' b x y :=
  ⟨Nat.lt_of_lt_of_le h.lt hb.size, (hb.cell h.lt).trans h.c0, (hb.cell h.lt).trans h.c1, (hb.frozen h.lt).trans h.f0, (hb.frozen h.lt).trans h.f1⟩
theorem V2.new (w : World) (x y : Value) (t : TypeId) : V2 (w.alloc (Obj.cells #[x, y] t)) w.heap.size x y :=
  ⟨by simp, by simp, by simp, by simp, by simp⟩
theorem Ot.low {B B' : Nat} {w : World} {v : Value} {l : List Tk} (h : Ot B w v l) (hB : B' ≤ B) : Ot B' w v l := by
  refine ⟨h.1, ?_⟩
  rcases h.2 with h1 | ⟨g, cap, cur, h1, h2, h3, h4⟩
  · exact .inl h1
  · exact .inr ⟨g, cap, cur, h1, Nat.le_trans hB h2, h3, h4⟩
theorem Ot.set {B : Nat} {w : World} {v : Value} {l : List Tk} (h : Ot B w v l) (b o : Nat) (x : Value) (hb : b < B) : Ot B (w.setCell ⟨b, o, none⟩ x) v l := by
  refine ⟨h.1, ?_⟩
  rcases h.2 with h1 | ⟨g, cap, cur, h1, h2, h3, h4⟩
  · exact .inl h1
  · exact .inr ⟨g, cap, cur, h1, h2, (Below.heap_setCell _ _ _ _ (fun e => by have : g = b := e; omega)).trans h3, h4⟩
end Go.Proofs.YtgifienjfaclmaaDoor

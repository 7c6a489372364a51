/-
  The reference's scanner: NewScanner, Next, Mark, Word. No conditions but Go's own bounds.
-/
import Derived.Test.YtgifienjfaclmaaGreatDoorLt
namespace Go.Proofs.YtgifienjfaclmaaGreatDoor
open Go.RowKit
/-- A variable of two cells at block b. -/
structure V2 (w : World) (b : Nat) (x y : Value) : Prop where
  lt : b < w.heap.size
  c0 : w.cell? ⟨b, 0, none⟩ = some x
  c1 : w.cell? ⟨b, 1, none⟩ = some y
  f0 : w.frozen? ⟨b, 0, none⟩ = false
  f1 : w.frozen? ⟨b, 1, none⟩ = false
theorem V2.next {w w' : World} {b : Nat} {x y : Value} (h : V2 w b x y) (hb : Below w.heap.size w w') : V2 w' b x y :=
  ⟨Nat.lt_of_lt_of_le h.lt hb.size, (hb.cell h.lt).trans h.c0, (hb.cell h.lt).trans h.c1, (hb.frozen h.lt).trans h.f0, (hb.frozen h.lt).trans h.f1⟩
theorem V2.new (w : World) (x y : Value) (t : TypeId) : V2 (w.alloc (Obj.cells #[x, y] t)) w.heap.size x y :=
  ⟨by simp, by simp, by simp, by simp, by simp⟩
theorem Ot.low {B B' : Nat} {w : World} {v : Value} {l : List Tk} (h : Ot B w v l) (hB : B' ≤ B) : Ot B' w v l := by
  refine ⟨h.1, ?_⟩
  rcases h.2 with h1 | ⟨g, cap, cur, h1, h2, h3, h4⟩
  · exact .inl h1
  · exact .inr ⟨g, cap, cur, h1, Nat.le_trans hB h2, h3, h4⟩
theorem Ot.set {B : Nat} {w : World} {v : Value} {l : List Tk} (h : Ot B w v l) (b o : Nat) (x : Value) (hb : b < B) : Ot B (w.setCell ⟨b, o, none⟩ x) v l := by
  refine ⟨h.1, ?_⟩
  rcases h.2 with h1 | ⟨g, cap, cur, h1, h2, h3, h4⟩
  · exact .inl h1
  · exact .inr ⟨g, cap, cur, h1, h2, (Below.heap_setCell _ _ _ _ (fun e => by have : g = b := e; omega)).trans h3, h4⟩
set_option maxRecDepth 100000 in
set_option maxHeartbeats 2000000 in
theorem refNew_any (l : List UInt8) (w : World) (hl : l.length ≤ 9223372036854775807) :
    Calls Tryz.prog 6 #[.string (bs l)] w (NewP (scan l) w) := by
  have cS := fun W => scan_any l W hl
  obtain ⟨R, hR⟩ : ∃ R, scan l = R := ⟨_, rfl⟩
  rw [hR] at cS ⊢
  clear hR hl
  have hv := V2.new w (.slice none 0 0) (.int .i64 0) 30
  have hg := grown1 (w := w) (Obj.cells #[.slice none 0 0, .int .i64 0] 30)
  have hsz : (w.alloc (Obj.cells #[.slice none 0 0, .int .i64 0] 30)).heap.size = w.heap.size + 1 := by simp
  go_enter Tryz.func6, Tryz.ntmps6
  go_wp2_with fail
  refine (cS _).mono ?_
  rintro e w2 ⟨h2, h3⟩
  have hb2 := Below.next hg h2
  obtain ⟨v0, v1, v2, v3, v4⟩ := hv.next h2
  clear hv hg cS
  rcases R with ⟨x, p⟩ | ts
  · replace h3 : e = .returned (.tuple #[.slice none 0 0, .int .i64 (x : Int), .int .i64 (p : Int)]) := h3
    subst h3
    go_wp2_with fail
    refine bodyPost_ret (v := .tuple #[.agg #[.slice none 0 0, .int .i64 0], .int .i64 (x : Int), .int .i64 (p : Int)]) (by simp [results, Tryz.results6, go_sem, v1, v2]) rfl (NewP.err rfl ?_)
    exact (hb2.setCell (by simp) _).setCell (by simp) _
  · replace h3 : ∃ v, e = .returned (.tuple #[v, .int .i64 0, .int .i64 0]) ∧ Ot (w.alloc (Obj.cells #[.slice none 0 0, .int .i64 0] 30)).heap.size w2 v ts := h3
    rw [hsz] at h3
    obtain ⟨v, rfl, ho⟩ := h3
    obtain ⟨A, c, rfl, _, _⟩ := ho.tr
    go_wp2_with fail
    refine bodyPost_ret (v := .tuple #[.agg #[.slice A ts.length c, .int .i64 0], .int .i64 0, .int .i64 0]) (by simp [results, Tryz.results6, go_sem, v1, v2]) rfl (NewP.ok rfl ?_ ?_)
    · exact (hb2.setCell (by simp) _).setCell (by simp) _
    · exact ((ho.set _ _ _ (by omega)).set _ _ _ (by omega)).low (by omega)
end Go.Proofs.YtgifienjfaclmaaGreatDoor

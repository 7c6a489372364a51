/-
  The reference's scanner: Next. No conditions but Go's own bounds.
-/
import Derived.Test.YtgifienjfaclmaaDoorLu
namespace Go.Proofs.YtgifienjfaclmaaDoor
open Go.RowKit
theorem gb_below {w w' : World} {g : Nat} (h : Below w.heap.size w w') : w.grownBy w' (some g) := ⟨h.os, h.tape, h.output, h.size, fun k hk _ => h.block k hk⟩
theorem gb_set {w w' : World} {g : Nat} (h : w.grownBy w' (some g)) (o : Nat) (v : Value) : w.grownBy (w'.setCell ⟨g, o, none⟩ v) (some g) :=
  ⟨h.os, h.tape, h.output, by simpa [World.setCell] using h.size, fun k hk hne => (Below.heap_setCell _ _ _ _ (fun e => hne (by rw [e]))).trans (h.block k hk hne)⟩
theorem gb_new {w w' : World} {g b : Nat} (h : w.grownBy w' (some g)) (hb : w.heap.size ≤ b) (o : Nat) (v : Value) : w.grownBy (w'.setCell ⟨b, o, none⟩ v) (some g) :=
  ⟨h.os, h.tape, h.output, by simpa [World.setCell] using h.size, fun k hk hne => (Below.heap_setCell _ _ _ _ (fun e => by have : k = b := e; omega)).trans (h.block k hk hne)⟩
theorem V4.set4 {w : World} {B : Nat} {x0 y0 z0 u0 : Value} (h : V4 w B x0 y0 z0 u0) (x y z u : Value) : V4 ((((w.setCell ⟨B, 0, none⟩ x).setCell ⟨B, 1, none⟩ y).setCell ⟨B, 2, none⟩ z).setCell ⟨B, 3, none⟩ u) B x y z u := by
  obtain ⟨lt, c0, c1, c2, c3, f0, f1, f2, f3⟩ := h
  have n : ∀ i j : Nat, i ≠ j → (⟨B, i, none⟩ : Addr) ≠ ⟨B, j, none⟩ := fun i j h e => by injection e with _ e; exact h e
  refine ⟨by simpa [World.setCell] using lt, ?_, ?_, ?_, ?_, by simp [f0], by simp [f1], by simp [f2], by simp [f3]⟩
  · rw [World.cell?_setCell_other _ _ _ _ (n 3 0 (by decide)), World.cell?_setCell_other _ _ _ _ (n 2 0 (by decide)), World.cell?_setCell_other _ _ _ _ (n 1 0 (by decide))]
    exact World.cell?_setCell_same _ _ _ c0
  · rw [World.cell?_setCell_other _ _ _ _ (n 3 1 (by decide)), World.cell?_setCell_other _ _ _ _ (n 2 1 (by decide))]
    exact World.cell?_setCell_same _ _ _ ((World.cell?_setCell_other _ _ _ _ (n 0 1 (by decide))).trans c1)
  · rw [World.cell?_setCell_other _ _ _ _ (n 3 2 (by decide))]
    exact World.cell?_setCell_same _ _ _ ((World.cell?_setCell_other _ _ _ _ (n 1 2 (by decide))).trans ((World.cell?_setCell_other _ _ _ _ (n 0 2 (by decide))).trans c2))
  · exact World.cell?_setCell_same _ _ _ ((World.cell?_setCell_other _ _ _ _ (n 2 3 (by decide))).trans ((World.cell?_setCell_other _ _ _ _ (n 1 3 (by decide))).trans ((World.cell?_setCell_other _ _ _ _ (n 0 3 (by decide))).trans c3)))
theorem V4.off {w w' : World} {g B : Nat} {x y z u : Value} (h : V4 w B x y z u) (hg : w.grownBy w' (some g)) (hne : B ≠ g) : V4 w' B x y z u := by
  have hb := hg.block B h.lt (fun k => hne (Option.some.inj k))
  exact ⟨Nat.lt_of_lt_of_le h.lt hg.size, (World.cell?_of_block (a := ⟨B, 0, none⟩) hb).trans h.c0, (World.cell?_of_block (a := ⟨B, 1, none⟩) hb).trans h.c1, (World.cell?_of_block (a := ⟨B, 2, none⟩) hb).trans h.c2, (World.cell?_of_block (a := ⟨B, 3, none⟩) hb).trans h.c3,
    (World.frozen?_of_block (a := ⟨B, 0, none⟩) hb).trans h.f0, (World.frozen?_of_block (a := ⟨B, 1, none⟩) hb).trans h.f1, (World.frozen?_of_block (a := ⟨B, 2, none⟩) hb).trans h.f2, (World.frozen?_of_block (a := ⟨B, 3, none⟩) hb).trans h.f3⟩
theorem Tr.off {w w' : World} {b : Nat} {A : Option Addr} {l : List Tk} (h : Tr w A l) (hg : w.grownBy w' (some b)) (hA : ∀ a, A = some a → a.block ≠ b) : Tr w' A l := by
  rcases h with h | ⟨a, h1, h2, h3⟩
  · exact .inl h
  · refine .inr ⟨a, h1, Nat.lt_of_lt_of_le h2 hg.size, fun i hi => ?_⟩
    obtain ⟨c0, c1, c2, c3⟩ := h3 i hi
    have hb := hg.block a.block h2 (fun k => hA a h1 (Option.some.inj k))
    have ad : ∀ k, w'.cell? ((a.add (i * 4)).add k) = w.cell? ((a.add (i * 4)).add k) := fun k => World.cell?_of_block (a := (a.add (i * 4)).add k) (by rw [add_block, add_block]; exact hb)
    exact ⟨(ad 0).trans c0, (ad 1).trans c1, (ad 2).trans c2, (ad 3).trans c3⟩
theorem Sn.off {w w' : World} {g b : Nat} {A : Option Addr} {c : Nat} {l : List Tk} {j : Nat} (h : Sn w g A c l j) (hg : w.grownBy w' (some b)) (hne : g ≠ b) (hA : ∀ a, A = some a → a.block ≠ b) : Sn w' g A c l j := by
  have hb := hg.block g h.lt (fun k => hne (Option.some.inj k))
  exact ⟨Nat.lt_of_lt_of_le h.lt hg.size, (World.cell?_of_block (a := ⟨g, 0, none⟩) hb).trans h.c0, (World.cell?_of_block (a := ⟨g, 1, none⟩) hb).trans h.c1, (World.frozen?_of_block (a := ⟨g, 1, none⟩) hb).trans h.f1, h.ne, h.tr.off hg hA⟩
theorem gb_refl (w : World) (g : Nat) : w.grownBy w (some g) := gb_below (Below.refl _ _)
/-- The scanner moved on. -/
theorem Sn.adv {w : World} {g : Nat} {A : Option Addr} {c : Nat} {l : List Tk} {j : Nat} (h : Sn w g A c l j) (k : Nat) : Sn (w.setCell ⟨g, 1, none⟩ (.int .i64 (k : Int))) g A c l k := by
  refine ⟨by simpa [World.setCell] using h.lt, (World.cell?_setCell_other _ _ _ _ (by intro h; cases h)).trans h.c0, World.cell?_setCell_same _ _ _ h.c1, by simp [h.f1], h.ne, ?_⟩
  exact h.tr.off (gb_set (gb_refl w g) 1 _) h.ne
/-- The call returns v; of old memory it wrote to the scanner alone, which then stands at place j. -/
def In (v : Value) (g : Nat) (A : Option Addr) (c : Nat) (l : List Tk) (j : Nat) (w : World) (e : Ending) (w' : World) : Prop := e = .returned v ∧ w.grownBy w' (some g) ∧ Sn w' g A c l j
theorem Sn.low {w : World} {g : Nat} {A : Option Addr} {c : Nat} {l : List Tk} {j : Nat} (h : Sn w g A c l j) (hj : j < l.length) : ∀ a, A = some a → a.block < w.heap.size := fun a ha => by
  rcases h.tr with h0 | ⟨a', h1, h2, _⟩
  · omega
  · rw [ha] at h1
    injection h1 with h1
    rw [h1]
    exact h2
end Go.Proofs.YtgifienjfaclmaaDoor

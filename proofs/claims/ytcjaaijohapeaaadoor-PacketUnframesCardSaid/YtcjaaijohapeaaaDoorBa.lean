import Derived.Test.YtcjaaijohapeaaaDoorHa
import Derived.Test.YtcjaaijohapeaaaDoorG4
import Derived.Test.YtcjaaijohapeaaaDoorLr
import Derived.StillTailTactics
import Derived.Maps.RangeWalk
import Derived.Deep.AppendSrc
/-
  Exact cells of rows; which blocks change; rows of numbers at any offset. No conditions beyond those that each names.
-/
namespace Go.Proofs.YtcjaaijohapeaaaDoor
open Go.RowKit Go.Shelf Go.Lib
/-- The cells of a row. -/
def tc {α : Type} (enc : α → List Value) (l : List α) : List Value := l.flatMap enc
theorem tc_nil {α : Type} (enc : α → List Value) : tc enc [] = [] := rfl
theorem tc_cons {α : Type} (enc : α → List Value) (x : α) (l : List α) : tc enc (x :: l) = enc x ++ tc enc l := rfl
theorem tc_app {α : Type} (enc : α → List Value) (l m : List α) : tc enc (l ++ m) = tc enc l ++ tc enc m := by simp [tc]
theorem tc_one {α : Type} (enc : α → List Value) (x : α) : tc enc [x] = enc x := by simp [tc]
theorem tc_len {α : Type} {enc : α → List Value} {z : Nat} (hz : ∀ x, (enc x).length = z) : ∀ l : List α, (tc enc l).length = l.length * z
  | [] => by simp [tc]
  | x :: l => by rw [tc_cons, List.length_append, hz, tc_len hz l, List.length_cons, Nat.add_mul, Nat.one_mul, Nat.add_comm]
theorem tc_take {α : Type} {enc : α → List Value} {z : Nat} (hz : ∀ x, (enc x).length = z) (l : List α) (i : Nat) (hi : i ≤ l.length) : (tc enc l).take (i * z) = tc enc (l.take i) := by
  have h1 : (tc enc (l.take i)).length = i * z := by rw [tc_len hz, List.length_take, Nat.min_eq_left hi]
  have e : tc enc l = tc enc (l.take i) ++ tc enc (l.drop i) := by rw [← tc_app, List.take_append_drop]
  rw [e, ← h1, List.take_left]
theorem tc_drop {α : Type} {enc : α → List Value} {z : Nat} (hz : ∀ x, (enc x).length = z) (l : List α) (i : Nat) (hi : i ≤ l.length) : (tc enc l).drop (i * z) = tc enc (l.drop i) := by
  have h1 : (tc enc (l.take i)).length = i * z := by rw [tc_len hz, List.length_take, Nat.min_eq_left hi]
  have e : tc enc l = tc enc (l.take i) ++ tc enc (l.drop i) := by rw [← tc_app, List.take_append_drop]
  rw [e, ← h1, List.drop_left]
theorem tc_get {α : Type} {enc : α → List Value} {z : Nat} (hz : ∀ x, (enc x).length = z) (l : List α) (i j : Nat) (hi : i < l.length) (hj : j < z) : (tc enc l)[i * z + j]? = (enc (l[i]'hi))[j]? := by
  have h1 : ((tc enc l).drop (i * z))[j]? = (enc (l[i]'hi))[j]? := by
    rw [tc_drop hz l i (by omega), List.drop_eq_getElem_cons hi, tc_cons, List.getElem?_append_left (by rw [hz]; exact hj)]
  rw [List.getElem?_drop] at h1
  exact h1
theorem tc_one' {α : Type} {enc : α → List Value} (hz : ∀ x (u : Value), u ∈ enc x → u.oneCell' = true) (l : List α) : ∀ u ∈ tc enc l, u.oneCell' = true := fun u hu => by
  obtain ⟨x, -, hx⟩ := List.mem_flatMap.1 hu
  exact hz x u hx
/-- Where a slice's row lies behind a call: where it lay, or in new memory. -/
def NB (w : World) (v v' : Value) : Prop := v'.ownBlock = v.ownBlock ∨ ∃ g, v'.ownBlock = some g ∧ w.heap.size ≤ g
theorem NB.of {w : World} {v v' : Value} (h : v'.ownBlock = v.ownBlock ∨ v'.ownBlock = some w.heap.size) : NB w v v' := h.imp id fun h => ⟨_, h, Nat.le_refl _⟩
theorem NB.trans {w w1 : World} {v v1 v2 : Value} (h : NB w v v1) (hs : w.heap.size ≤ w1.heap.size) (k : NB w1 v1 v2) : NB w v v2 := by
  rcases k with k | ⟨g, k1, k2⟩
  · rcases h with h | ⟨g, h1, h2⟩
    · exact .inl (k.trans h)
    · exact .inr ⟨g, k.trans h1, h2⟩
  · exact .inr ⟨g, k1, Nat.le_trans hs k2⟩
theorem own_nil_or {w : World} {B : Nat} {e : TypeId} {z n : Nat} {v : Value} {xs : List Value} (h : w.ownsRow B e z v n xs) : ∃ A c, v = .slice A n c ∧ (A = none ∧ c = 0 ∧ n = 0 ∨ ∃ g, A = some ⟨g, 0, none⟩ ∧ B ≤ g ∧ g < w.heap.size ∧ n ≤ c) := by
  rcases h.2 with ⟨h1, h2⟩ | ⟨g, cap, cur, h1, h2, h3, h4, -⟩
  · subst h2; exact ⟨_, _, h1, .inl ⟨rfl, rfl, rfl⟩⟩
  · exact ⟨_, _, h1, .inr ⟨g, rfl, h2, (Array.getElem?_eq_some_iff.1 h3).1, h4⟩⟩
/-- The cells of an element. -/
theorem own_cells {α : Type} {enc : α → List Value} {z : Nat} (hz : ∀ x, (enc x).length = z) {w : World} {B : Nat} {e : TypeId} {l : List α} {g c : Nat} (h : w.ownsRow B e z (.slice (some ⟨g, 0, none⟩) l.length c) l.length (tc enc l)) (i : Nat) (hi : i < l.length) (j : Nat) (v : Value) (hv : (enc (l[i]'hi))[j]? = some v) : w.cell? ⟨g, i * z + j, none⟩ = some v := by
  have hj : j < z := by have := (List.getElem?_eq_some_iff.1 hv).1; rw [hz] at this; exact this
  have h1 := h.cells (g := g) rfl (i * z + j) v (by rw [tc_get hz l i j hi hj]; exact hv)
  rw [show (⟨g, 0, none⟩ : Addr).add (i * z + j) = ⟨g, i * z + j, none⟩ by unfold Addr.add; split <;> simp_all] at h1
  exact h1
/-- Only the blocks of s change, and memory grows. -/
structure Fm (s : Nat → Prop) (w w' : World) : Prop where
  os : w'.os = w.os
  tape : w'.tape = w.tape
  output : w'.output = w.output
  size : w.heap.size ≤ w'.heap.size
  blk : ∀ i, i < w.heap.size → ¬ s i → w'.heap[i]? = w.heap[i]?
theorem Fm.of {w w' : World} (s : Nat → Prop) (h : Below w.heap.size w w') : Fm s w w' := ⟨h.os, h.tape, h.output, h.size, fun i hi _ => h.block i hi⟩
theorem Fm.gb {w w' : World} {s : Nat → Prop} {q : Option Nat} (h : w.grownBy w' q) (hs : ∀ i, q = some i → s i) : Fm s w w' := ⟨h.os, h.tape, h.output, h.size, fun i hi hn => h.block i hi (fun e => hn (hs i e.symm))⟩
theorem Fm.trans {s t : Nat → Prop} {w w1 w2 : World} (h : Fm s w w1) (k : Fm t w1 w2) (hs : ∀ i, i < w.heap.size → t i → s i) : Fm s w w2 :=
  ⟨k.os.trans h.os, k.tape.trans h.tape, k.output.trans h.output, Nat.le_trans h.size k.size, fun i hi hn => (k.blk i (Nat.lt_of_lt_of_le hi h.size) (fun e => hn (hs i hi e))).trans (h.blk i hi hn)⟩
theorem Fm.refl (s : Nat → Prop) (w : World) : Fm s w w := ⟨rfl, rfl, rfl, Nat.le_refl _, fun _ _ _ => rfl⟩
theorem Fm.below {s : Nat → Prop} {w w' : World} {B : Nat} (h : Fm s w w') (hB : B ≤ w.heap.size) (hs : ∀ i, s i → B ≤ i) : Below B w w' :=
  ⟨h.os, h.tape, h.output, h.size, fun i hi => h.blk i (Nat.lt_of_lt_of_le hi hB) (fun e => by have := hs i e; omega)⟩
theorem Fm.weak {s t : Nat → Prop} {w w' : World} (h : Fm s w w') (k : ∀ i, s i → t i) : Fm t w w' := ⟨h.os, h.tape, h.output, h.size, fun i hi hn => h.blk i hi fun e => hn (k i e)⟩
theorem fr_set (w : World) (p j i : Nat) (u : Value) : (w.setCell ⟨p, j, none⟩ u).frozen? ⟨p, i, none⟩ = w.frozen? ⟨p, i, none⟩ := by simp
end Go.Proofs.YtcjaaijohapeaaaDoor

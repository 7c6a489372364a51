/-
  Memory of the digits: when a slice of uint32 reads as a list of digits (Rd), when such a row can be written (Own), when it is new (Fr), and what a call that writes into one row leaves (Wr). No conditions.
-/
import Derived.Test.YtaiceebhifecbaaDoorRows
import Derived.Test.YtaiceebhifecbaaDoorMath
import Derived.WalkKit
import Derived.WalkSpells
import Derived.WalkLawsBesides
import Derived.Lib.Hide
import Derived.IntWalk
import Derived.BigQuiet
import Derived.Deep.QuietTactic
import Derived.Deep.LoopGhost
import Derived.Deep.AppendLies
import Derived.StillTailTactics
namespace Go.Proofs.YtaiceebhifecbaaDoor
open Go.RowKit

/-- A cell that holds a digit. -/
abbrev dv (z : Nat) : Value := .int .u32 (z : Int)

/-- The cells of block g from off on hold the digits zs. -/
def Row (w : World) (g off : Nat) (zs : List Nat) : Prop := ∀ i (h : i < zs.length), w.cell? ⟨g, off + i, none⟩ = some (.int .u32 (zs[i] : Int))

/-- They hold the digits zs, and can be written. -/
def Own (w : World) (g off : Nat) (zs : List Nat) : Prop := Row w g off zs ∧ ∀ i, i < zs.length → w.frozen? ⟨g, off + i, none⟩ = false

/-- The slice at A reads as the digits zs. -/
def Rd (w : World) (A : Option Addr) (zs : List Nat) : Prop := zs = [] ∨ ∃ g off, A = some ⟨g, off, none⟩ ∧ Row w g off zs

/-- The slice at A reads as the digits zs, in memory of its own: in a block from B on. -/
def Fr (B : Nat) (w : World) (A : Option Addr) (zs : List Nat) : Prop := zs = [] ∨ ∃ g off, A = some ⟨g, off, none⟩ ∧ B ≤ g ∧ Own w g off zs

/-- The slice at A lies outside block g (or is empty). -/
def Off (g : Nat) (A : Option Addr) (zs : List Nat) : Prop := zs = [] ∨ ∃ g' off, A = some ⟨g', off, none⟩ ∧ g' ≠ g

/-- The world w' is as w was, but for the row of block g from off on, which holds zs (and for the draws). -/
structure Wr (w w' : World) (g off : Nat) (zs : List Nat) : Prop where
  grown : w.grownBy w' (some g)
  size : w'.heap.size = w.heap.size
  own : Own w' g off zs
  rest : ∀ o, (o < off ∨ off + zs.length ≤ o) → w'.cell? ⟨g, o, none⟩ = w.cell? ⟨g, o, none⟩
  soft : ∀ o, w'.frozen? ⟨g, o, none⟩ = w.frozen? ⟨g, o, none⟩

section
variable {w w' : World} {g off B : Nat} {A : Option Addr} {zs : List Nat}

theorem Rd.at_ (h : Rd w A zs) {i : Nat} (hi : i < zs.length) : ∃ g off, A = some ⟨g, off, none⟩ ∧ Row w g off zs := by
  rcases h with rfl | h
  · simp at hi
  · exact h
theorem Row.lt (h : Row w g off zs) (hn : 0 < zs.length) : g < w.heap.size := World.block_lt_of_cell? w _ (h 0 hn)
theorem Row.of_block (h : Row w g off zs) (e : w'.heap[g]? = w.heap[g]?) : Row w' g off zs := fun i hi => (World.cell?_of_block (w := w) (a := ⟨g, off + i, none⟩) e).trans (h i hi)
theorem Own.of_block (h : Own w g off zs) (e : w'.heap[g]? = w.heap[g]?) : Own w' g off zs :=
  ⟨h.1.of_block e, fun i hi => (World.frozen?_of_block (w := w) (a := ⟨g, off + i, none⟩) e).trans (h.2 i hi)⟩
theorem Rd.nil (w : World) (A : Option Addr) : Rd w A [] := .inl rfl
theorem Fr.nil (B : Nat) (w : World) (A : Option Addr) : Fr B w A [] := .inl rfl
theorem Fr.rd (h : Fr B w A zs) : Rd w A zs := by
  rcases h with h | ⟨g, off, hA, _, ho⟩
  · exact .inl h
  · exact .inr ⟨g, off, hA, ho.1⟩
theorem Rd.below (h : Rd w A zs) (hb : Below w.heap.size w w') : Rd w' A zs := by
  rcases h with h | ⟨g, off, hA, hr⟩
  · exact .inl h
  · rcases Nat.eq_zero_or_pos zs.length with h0 | h0
    · exact .inl (List.eq_nil_of_length_eq_zero h0)
    · exact .inr ⟨g, off, hA, hr.of_block (hb.block g (hr.lt h0))⟩
theorem Fr.below (h : Fr B w A zs) (hb : Below w.heap.size w w') : Fr B w' A zs := by
  rcases h with h | ⟨g, off, hA, hg, hr⟩
  · exact .inl h
  · rcases Nat.eq_zero_or_pos zs.length with h0 | h0
    · exact .inl (List.eq_nil_of_length_eq_zero h0)
    · exact .inr ⟨g, off, hA, hg, hr.of_block (hb.block g (hr.1.lt h0))⟩
theorem Fr.mono (h : Fr B w A zs) {B' : Nat} (hb : B' ≤ B) : Fr B' w A zs := by
  rcases h with h | ⟨g, off, hA, hg, hr⟩
  · exact .inl h
  · exact .inr ⟨g, off, hA, by omega, hr⟩
theorem Rd.drew (h : Rd w A zs) : Rd w.drew A zs := h
theorem Rd.drewN (h : Rd w A zs) (n : Nat) : Rd (w.drewN n) A zs := h
theorem Rd.alloc (h : Rd w A zs) (o : Obj) : Rd (w.alloc o) A zs := h.below ((Below.refl _ _).alloc (Nat.le_refl _) o)
theorem Fr.alloc (h : Fr B w A zs) (o : Obj) : Fr B (w.alloc o) A zs := h.below ((Below.refl _ _).alloc (Nat.le_refl _) o)
theorem Rd.setCell (h : Rd w A zs) {p : Addr} {v u : Value} (hc : w.cell? p = some v) (hv : ∀ n, v ≠ .int .u32 n) : Rd (w.setCell p u) A zs := by
  rcases h with h | ⟨g, off, hA, hr⟩
  · exact .inl h
  · refine .inr ⟨g, off, hA, fun i hi => ?_⟩
    rw [World.cell?_setCell_other]
    · exact hr i hi
    · rintro rfl
      rw [hr i hi] at hc
      injection hc with hc
      exact hv _ hc.symm
theorem Fr.setCell (h : Fr B w A zs) {p : Addr} {v u : Value} (hc : w.cell? p = some v) (hv : ∀ n, v ≠ .int .u32 n) : Fr B (w.setCell p u) A zs := by
  rcases h with h | ⟨g, off, hA, hg, hr⟩
  · exact .inl h
  · refine .inr ⟨g, off, hA, hg, fun i hi => ?_, fun i hi => by rw [World.frozen?_setCell]; exact hr.2 i hi⟩
    rw [World.cell?_setCell_other]
    · exact hr.1 i hi
    · rintro rfl
      rw [hr.1 i hi] at hc
      injection hc with hc
      exact hv _ hc.symm
theorem Rd.take (h : Rd w A zs) (n : Nat) : Rd w A (zs.take n) := by
  rcases h with h | ⟨g, off, hA, hr⟩
  · exact .inl (by rw [h]; simp)
  · exact .inr ⟨g, off, hA, fun i hi => by simpa using hr i (by simp at hi; omega)⟩
theorem Fr.take (h : Fr B w A zs) (n : Nat) : Fr B w A (zs.take n) := by
  rcases h with h | ⟨g, off, hA, hg, hr⟩
  · exact .inl (by rw [h]; simp)
  · exact .inr ⟨g, off, hA, hg, fun i hi => by simpa using hr.1 i (by simp at hi; omega), fun i hi => hr.2 i (by simp at hi; omega)⟩
theorem Row.new (w : World) (t : TypeId) (cs : Array Value) (zs : List Nat) (h : ∀ i (hi : i < zs.length), cs[i]? = some (.int .u32 (zs[i] : Int))) : Own (w.alloc (.cells cs t)) w.heap.size 0 zs :=
  ⟨fun i hi => by simpa using h i hi, fun i hi => by simp⟩

theorem Wr.refl (h : Own w g off zs) : Wr w w g off zs := ⟨World.grownBy.refl w _, rfl, h, fun _ _ => rfl, fun _ => rfl⟩
theorem Wr.drewN (h : Wr w w' g off zs) (n : Nat) : Wr w (w'.drewN n) g off zs := ⟨⟨h.grown.os, h.grown.tape, h.grown.output, h.grown.size, h.grown.block⟩, h.size, h.own, h.rest, h.soft⟩
theorem Wr.drew (h : Wr w w' g off zs) : Wr w w'.drew g off zs := h.drewN 1
theorem Own.set (h : Own w g off zs) (k : Nat) (x : Nat) : Own (w.setCell ⟨g, off + k, none⟩ (.int .u32 (x : Int))) g off (zs.set k x) := by
  refine ⟨fun i hi => ?_, fun i hi => by rw [World.frozen?_setCell]; exact h.2 i (by simpa using hi)⟩
  have hi' : i < zs.length := by simpa using hi
  by_cases hk : k = i
  · subst hk
    rw [World.cell?_setCell_same (u := _) _ _ _ (h.1 k hi')]
    simp
  · rw [World.cell?_setCell_other _ _ _ _ (by intro e; injection e; omega), h.1 i hi']
    simp [hk]
theorem Wr.set (h : Wr w w' g off zs) (k : Nat) (hk : k < zs.length) (x : Nat) : Wr w (w'.setCell ⟨g, off + k, none⟩ (.int .u32 (x : Int))) g off (zs.set k x) := by
  refine ⟨⟨h.grown.os, h.grown.tape, h.grown.output, by simpa using h.grown.size, fun i hi hne => ?_⟩, by simpa using h.size, h.own.set k x, fun o ho => ?_, fun o => by rw [World.frozen?_setCell]; exact h.soft o⟩
  · rw [Below.heap_setCell _ _ _ _ (by rintro rfl; exact hne rfl)]
    exact h.grown.block i hi hne
  · rw [World.cell?_setCell_other _ _ _ _ (by intro e; injection e; simp at ho; omega)]
    exact h.rest o (by simpa using ho)
theorem Rd.wr (h : Rd w A zs) {ys : List Nat} (hw : Wr w w' g off ys) (ho : Off g A zs) : Rd w' A zs := by
  rcases h with h | ⟨g', o', hA, hr⟩
  · exact .inl h
  · rcases Nat.eq_zero_or_pos zs.length with h0 | h0
    · exact .inl (List.eq_nil_of_length_eq_zero h0)
    · rcases ho with ho | ⟨g2, o2, h2, hne⟩
      · exact .inl ho
      · rw [hA] at h2
        injection h2 with h2
        injection h2 with h2
        subst h2
        exact .inr ⟨g', o', hA, hr.of_block (hw.grown.block g' (hr.lt h0) (by intro e; injection e with e; exact hne e))⟩
theorem Rd.offOf (h : Rd w A zs) (hg : w.heap.size ≤ g) : Off g A zs := by
  rcases h with h | ⟨g', o', hA, hr⟩
  · exact .inl h
  · rcases Nat.eq_zero_or_pos zs.length with h0 | h0
    · exact .inl (List.eq_nil_of_length_eq_zero h0)
    · exact .inr ⟨g', o', hA, by have := hr.lt h0; omega⟩
theorem Off.takeN (h : Off g A zs) (n : Nat) : Off g A (zs.take n) := by
  rcases h with h | h
  · exact .inl (by rw [h]; simp)
  · exact .inr h
theorem Wr.below {w0 : World} {B : Nat} (h : Below B w0 w) {ys : List Nat} (hw : Wr w w' g off ys) (hg : B ≤ g) (hB : B ≤ w.heap.size) : Below B w0 w' :=
  h.grown hw.grown hB (fun k hk => by injection hk with hk; omega)
theorem Below.then_ {w0 w1 w2 : World} (h : Below w0.heap.size w0 w1) (k : Below w1.heap.size w1 w2) : Below w0.heap.size w0 w2 := h.trans (k.mono h.size)
theorem below_drewN {B : Nat} {a w : World} (h : Below B a w) (n : Nat) : Below B a (w.drewN n) := ⟨h.os, h.tape, h.output, h.size, h.block⟩
end

theorem seen {W w1 : World} (hb : Below W.heap.size W w1) : (∀ b o, b < W.heap.size → w1.cell? ⟨b, o, none⟩ = W.cell? ⟨b, o, none⟩) ∧ (∀ b o, b < W.heap.size → w1.frozen? ⟨b, o, none⟩ = W.frozen? ⟨b, o, none⟩) :=
  ⟨fun b o h => hb.cell (p := ⟨b, o, none⟩) h, fun b o h => hb.frozen (p := ⟨b, o, none⟩) h⟩
theorem sizeUp {W w1 : World} (hb : Below W.heap.size W w1) : W.heap.size ≤ w1.heap.size := hb.size
theorem one (w : World) (o : Obj) : Below w.heap.size w (w.alloc o) := (Below.refl _ _).alloc (Nat.le_refl _) o
theorem two (w : World) (o o' : Obj) : Below w.heap.size w ((w.alloc o).alloc o') := (one w o).alloc (by simp) o'
theorem three (w : World) (o o' o2 : Obj) : Below w.heap.size w (((w.alloc o).alloc o').alloc o2) := (two w o o').alloc (by simp; omega) o2
theorem up {a w w1 : World} (h : Below a.heap.size a w) (hb : Below w.heap.size w w1) : Below a.heap.size a w1 := h.trans (hb.mono h.size)
theorem Fr.base {a w w1 : World} {A : Option Addr} {zs : List Nat} (h : Fr w.heap.size w1 A zs) (hb : Below a.heap.size a w) : Fr a.heap.size w1 A zs := h.mono hb.size
theorem digit_ne {z : Nat} (h : z ≠ 0) : ((z : Int) == 0) = false := by rw [beq_eq_false_iff_ne]; omega
theorem ret_slice {A : Option Addr} {a b : Nat} (h : a = b) : Ending.returned (.slice A a a) = .returned (.slice A b b) := by rw [h]
theorem ret_int {k : IntKind} {a b : Int} (h : a = b) : Ending.returned (.int k a) = .returned (.int k b) := by rw [h]
theorem ret_bool {a b : Bool} (h : a = b) : Ending.returned (.bool a) = .returned (.bool b) := by rw [h]

/-- The struct of type 24 over a slice. -/
abbrev nt (A : Option Addr) (n c : Nat) : Value := .agg #[.slice A n c]

end Go.Proofs.YtaiceebhifecbaaDoor

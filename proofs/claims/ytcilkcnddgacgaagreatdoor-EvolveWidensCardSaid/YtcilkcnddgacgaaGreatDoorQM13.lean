/-
  The developers' Compare and Equal: the library's comparisons. No conditions beyond those that each names.
-/
import Derived.Test.YtcilkcnddgacgaaGreatDoorQM12
import Derived.Test.YtcilkcnddgacgaaGreatDoorQM02
import Derived.Test.YtcilkcnddgacgaaGreatDoorQM11
import Derived.Test.YtcilkcnddgacgaaGreatDoorShelfB
import Derived.Laws.OwnMore
namespace Go.Proofs.YtcilkcnddgacgaaGreatDoor
open Go.RowKit Go.Sort
end Go.Proofs.YtcilkcnddgacgaaGreatDoor
/-
  The developers' Compare and Equal. No conditions beyond those that each names.
-/
namespace Go.Proofs.YtcilkcnddgacgaaGreatDoor
open Go.RowKit Go.Sort
/-- An entry as a value. -/
def EtV (w : World) (x : Int × Vl) (v : Value) : Prop := ∃ A c A2 c2, v = .agg #[.int .i64 x.1, .int .i64 x.2.kind, .int .i64 x.2.n, .string (bs x.2.s), .slice A x.2.l.length c, .slice A2 x.2.f.length c2] ∧ Rw VlA 5 w x.2.l A ∧ Rw EtA 6 w x.2.f A2
theorem EtV.next {w w' : World} (hb : Below w.heap.size w w') {t : Int × Vl} {v : Value} (h : EtV w t v) : EtV w' t v := by
  obtain ⟨A, c, A2, c2, e, h1, h2⟩ := h
  exact ⟨A, c, A2, c2, e, h1.next fun x p => VlA.next hb x p, h2.next fun x p => EtA.next hb x p⟩
end Go.Proofs.YtcilkcnddgacgaaGreatDoor
/-
  Rows of structs that a call owns; values and entries in new memory; copies of lists. No conditions beyond those that each names.
-/
namespace Go.Proofs.YtcilkcnddgacgaaGreatDoor
open Go.RowKit Go.Shelf
/-- From block lo on, what was there is as it was. -/
structure Kpl (lo : Nat) (w w' : World) : Prop where
  size : w.heap.size ≤ w'.heap.size
  blk : ∀ i, lo ≤ i → i < w.heap.size → w'.heap[i]? = w.heap[i]?
theorem Kpl.refl (lo : Nat) (w : World) : Kpl lo w w := ⟨Nat.le_refl _, fun _ _ _ => rfl⟩
theorem Kpl.of {lo : Nat} {w w' : World} (hb : Below w.heap.size w w') : Kpl lo w w' := ⟨hb.size, fun i _ hi => hb.block i hi⟩
theorem Kpl.trans {lo : Nat} {w w1 w2 : World} (h : Kpl lo w w1) (k : Kpl lo w1 w2) : Kpl lo w w2 := ⟨Nat.le_trans h.size k.size, fun i h1 h2 => (k.blk i h1 (Nat.lt_of_lt_of_le h2 h.size)).trans (h.blk i h1 h2)⟩
theorem Kpl.mono {lo hi : Nat} {w w' : World} (h : Kpl lo w w') (hl : lo ≤ hi) : Kpl hi w w' := ⟨h.size, fun i h1 h2 => h.blk i (Nat.le_trans hl h1) h2⟩
theorem Kpl.gb {g hi : Nat} {w w' : World} (h : w.grownBy w' (some g)) (hg : g < hi) : Kpl hi w w' := ⟨h.size, fun i h1 h2 => h.block i h2 (fun e => by cases e; omega)⟩
theorem Kpl.set {lo : Nat} {w w' : World} (h : Kpl lo w w') {p : Addr} (hp : p.block < lo) (u : Value) : Kpl lo w (w'.setCell p u) :=
  ⟨Nat.le_trans h.size (Below.setCell (Below.refl 0 w') (Nat.zero_le p.block) u).size, fun i hi h2 => (Below.heap_setCell w' p u i (by omega)).trans (h.blk i hi h2)⟩
theorem gbq_of {w w' : World} (hb : Below w.heap.size w w') (row : Option Nat) : w.grownBy w' row := ⟨hb.os, hb.tape, hb.output, hb.size, fun i hi _ => hb.block i hi⟩
theorem own_next {w w' : World} {base : Nat} {e : TypeId} {z n : Nat} {v : Value} {xs : List Value} (h : w.ownsRow base e z v n xs) (hb : Below w.heap.size w w') : w'.ownsRow base e z v n xs := by
  cases hv : v.ownBlock with
  | none => exact h.kept (gbq_of hb none) (.inl hv)
  | some g => exact h.kept (gbq_of hb none) (.inr (by rw [hv]; simp))
/-- Values from place p on. -/
def putAt : List Value → Nat → List Value → List Value
  | xs, _, [] => xs
  | xs, p, v :: vs => putAt (xs.set p v) (p + 1) vs
theorem putAt_len : ∀ (vs xs : List Value) (p : Nat), (putAt xs p vs).length = xs.length
  | [], _, _ => rfl
  | v :: vs, xs, p => by rw [putAt, putAt_len vs, List.length_set]
theorem putAt_other : ∀ (vs xs : List Value) (p i : Nat), (i < p ∨ p + vs.length ≤ i) → (putAt xs p vs)[i]? = xs[i]?
  | [], _, _, _, _ => rfl
  | v :: vs, xs, p, i, h => by
    rw [List.length_cons] at h
    rw [putAt, putAt_other vs _ _ _ (by omega), List.getElem?_set_ne (by omega)]
theorem putAt_same : ∀ (vs xs : List Value) (p i : Nat), i < vs.length → p + vs.length ≤ xs.length → (putAt xs p vs)[p + i]? = vs[i]?
  | v :: vs, xs, p, 0, _, hx => by
    rw [List.length_cons] at hx
    rw [putAt, putAt_other vs _ _ _ (by omega), Nat.add_zero, List.getElem?_set_self (by omega)]
    rfl
  | v :: vs, xs, p, i + 1, hi, hx => by
    rw [List.length_cons] at hx hi
    rw [putAt, show p + (i + 1) = p + 1 + i by omega, putAt_same vs _ _ _ (by omega) (by rw [List.length_set]; omega)]
    rfl
/-- The elements of a row, z cells each. -/
def IL {α β : Type} (z : Nat) (enc : α → β → List Value) (P : Nat → α → β → Prop) (l : List α) (xs : List Value) : Prop :=
  xs.length = l.length * z ∧ ∀ j (h : j < l.length), ∃ b, (∀ i, i < z → xs[j * z + i]? = (enc (l[j]'h) b)[i]?) ∧ P j (l[j]'h) b
theorem IL.mono {α β : Type} {z : Nat} {enc : α → β → List Value} {P Q : Nat → α → β → Prop} {l : List α} {xs : List Value} (h : IL z enc P l xs) (hPQ : ∀ j (h : j < l.length) b, P j (l[j]'h) b → Q j (l[j]'h) b) : IL z enc Q l xs :=
  ⟨h.1, fun j hj => by obtain ⟨b, h1, h2⟩ := h.2 j hj; exact ⟨b, h1, hPQ j hj b h2⟩⟩
theorem IL.nil {α β : Type} (z : Nat) (enc : α → β → List Value) (P : Nat → α → β → Prop) : IL z enc P [] [] := ⟨by simp, fun j h => absurd h (Nat.not_lt_zero _)⟩
theorem mulz {j k z i : Nat} (h : j < k) (hi : i < z) : j * z + i < k * z := by
  have h1 : (j + 1) * z ≤ k * z := Nat.mul_le_mul_right z h
  rw [Nat.add_mul, Nat.one_mul] at h1
  omega
theorem IL.put {α β : Type} {z : Nat} {enc : α → β → List Value} {P Q : Nat → α → β → Prop} {l : List α} {xs : List Value} (h : IL z enc P l xs) {k : Nat} (hk : k < l.length) (y : α) (b : β) (hz : (enc y b).length = z)
    (hP : ∀ j (h : j < l.length) b, j ≠ k → P j (l[j]'h) b → Q j (l[j]'h) b) (hQ : Q k y b) : IL z enc Q (l.set k y) (putAt xs (k * z) (enc y b)) := by
  refine ⟨by rw [putAt_len, h.1, List.length_set], fun j hj => ?_⟩
  have hj2 : j < l.length := by simpa using hj
  by_cases e : j = k
  · subst e
    refine ⟨b, fun i hi => ?_, ?_⟩
    · rw [putAt_same _ _ _ _ (by omega) (by rw [h.1, hz]; have := mulz (z := z) hk (i := 0) (by omega); have h1 : (j + 1) * z ≤ l.length * z := Nat.mul_le_mul_right z hk; rw [Nat.add_mul, Nat.one_mul] at h1; omega)]
      rw [List.getElem_set_self]
    · rw [List.getElem_set_self]; exact hQ
  · obtain ⟨b', h1, h2⟩ := h.2 j hj2
    rw [List.getElem_set_ne (by omega)]
    refine ⟨b', fun i hi => ?_, hP j hj2 b' e h2⟩
    rw [putAt_other _ _ _ _ ?_, h1 i hi]
    rw [hz]
    rcases Nat.lt_or_gt_of_ne e with h3 | h3
    · exact .inl (by have := mulz h3 hi; omega)
    · right
      have h1 : (k + 1) * z ≤ j * z := Nat.mul_le_mul_right z h3
      rw [Nat.add_mul, Nat.one_mul] at h1
      omega
/-- Where a value's lists lie. -/
structure Sb where
  A : Option Addr
  c : Nat
  B : Option Addr
  d : Nat
def encE (x : Int × Vl) (s : Sb) : List Value := [.int .i64 x.1, .int .i64 x.2.kind, .int .i64 x.2.n, .string (bs x.2.s), .slice s.A x.2.l.length s.c, .slice s.B x.2.f.length s.d]
/-- What a value's lists are. -/
def RdV (w : World) (t : Vl) (s : Sb) : Prop := Rw VlA 5 w t.l s.A ∧ Rw EtA 6 w t.f s.B
/-- The same, whatever becomes of blocks before hi. -/
def NwV (hi : Nat) (w : World) (t : Vl) (s : Sb) : Prop := ∀ w', Kpl hi w w' → RdV w' t s
theorem RdV.next {w w' : World} {t : Vl} {s : Sb} (hb : Below w.heap.size w w') (h : RdV w t s) : RdV w' t s := ⟨h.1.next fun x p => VlA.next hb x p, h.2.next fun x p => EtA.next hb x p⟩
theorem NwV.next {hi : Nat} {w w' : World} {t : Vl} {s : Sb} (h : NwV hi w t s) (k : Kpl hi w w') : NwV hi w' t s := fun w2 k2 => h w2 (k.trans k2)
theorem NwV.low {lo hi : Nat} {w : World} {t : Vl} {s : Sb} (h : NwV hi w t s) (hl : lo ≤ hi) : NwV lo w t s := fun w2 k2 => h w2 (k2.mono hl)
theorem spot_none0 {w : World} {a : Addr} {v : Value} (h : w.cell? a = some v) : a.spot = none := by
  unfold World.cell? at h
  split at h
  · split at h
    · cases h
    · rename_i h1; simpa using h1
  · cases h
end Go.Proofs.YtcilkcnddgacgaaGreatDoor
/-
  The developers' renew: a value in new memory. No conditions beyond those that each names.
-/
namespace Go.Proofs.YtcilkcnddgacgaaGreatDoor
open Go.RowKit Go.Shelf
/-- From block lo on, but for block g, what was there is as it was. -/
structure Kpx (lo : Nat) (g : Option Nat) (w w' : World) : Prop where
  size : w.heap.size ≤ w'.heap.size
  blk : ∀ i, lo ≤ i → i < w.heap.size → some i ≠ g → w'.heap[i]? = w.heap[i]?
theorem Kpx.of {lo : Nat} {g : Option Nat} {w w' : World} (h : Kpl lo w w') : Kpx lo g w w' := ⟨h.size, fun i h1 h2 _ => h.blk i h1 h2⟩
theorem Kpx.trans {lo : Nat} {g : Option Nat} {w w1 w2 : World} (h : Kpx lo g w w1) (k : Kpx lo g w1 w2) : Kpx lo g w w2 := ⟨Nat.le_trans h.size k.size, fun i h1 h2 h3 => (k.blk i h1 (Nat.lt_of_lt_of_le h2 h.size) h3).trans (h.blk i h1 h2 h3)⟩
theorem Kpx.gb {lo : Nat} {g : Option Nat} {w w' : World} (h : w.grownBy w' g) : Kpx lo g w w' := ⟨h.size, fun i _ h2 h3 => h.block i h2 h3⟩
theorem own_form {w : World} {base : Nat} {e : TypeId} {z n : Nat} {v : Value} {xs : List Value} (h : w.ownsRow base e z v n xs) : ∃ B d, v = .slice B n d := by
  rcases h.2 with ⟨rfl, rfl⟩ | ⟨g, cap, cur, rfl, -⟩
  · exact ⟨_, _, rfl⟩
  · exact ⟨_, _, rfl⟩
theorem own_some {w : World} {base : Nat} {e : TypeId} {z n d : Nat} {B : Option Addr} {xs : List Value} (h : w.ownsRow base e z (.slice B n d) n xs) (hn : n ≠ 0) : ∃ g, B = some ⟨g, 0, none⟩ := by
  rcases h.2 with ⟨-, h⟩ | ⟨g, cap, cur, h, -⟩
  · exact absurd h hn
  · injection h with h; exact ⟨g, h⟩
theorem Bx.gb {w w' : World} {b g : Nat} {vs : List Value} (h : Bx w b vs) (hg : w.grownBy w' (some g)) (hne : b ≠ g) : Bx w' b vs := by
  have hk := hg.block b h.lt (fun e => hne (by injection e))
  exact ⟨Nat.lt_of_lt_of_le h.lt hg.size, fun j v e => ⟨(World.cell?_of_block (w := w) (a := ⟨b, j, none⟩) hk).trans (h.at_ j v e).1, (World.frozen?_of_block (w := w) (a := ⟨b, j, none⟩) hk).trans (h.at_ j v e).2⟩⟩
/-- The elements before number k are renewed. -/
def RnV (w0 : World) (hi : Nat) (w : World) (k : Nat) (j : Nat) (t : Vl) (s : Sb) : Prop := if j < k then NwV hi w t s else RdV w0 t s
theorem RnV.next {w0 : World} {hi k j : Nat} {w w' : World} {t : Vl} {s : Sb} (h : RnV w0 hi w k j t s) (hk : Kpl hi w w') : RnV w0 hi w' k j t s := by
  unfold RnV at h ⊢
  split
  · rename_i e; rw [if_pos e] at h; exact h.next hk
  · rename_i e; rw [if_neg e] at h; exact h
theorem RnV.step {w0 : World} {hi k j : Nat} {w : World} {t : Vl} {s : Sb} (h : RnV w0 hi w k j t s) (hj : j ≠ k) : RnV w0 hi w (k + 1) j t s := by
  unfold RnV at h ⊢
  by_cases e : j < k
  · rw [if_pos e] at h; rw [if_pos (by omega)]; exact h
  · rw [if_neg e] at h; rw [if_neg (by omega)]; exact h
end Go.Proofs.YtcilkcnddgacgaaGreatDoor


/-
  Types, fields, structs, enumerations and schemas as they lie in memory; variables of several cells. No conditions beyond those that each names.
-/
import Derived.Test.YtcilkcnddgacgaaGreatDoorQM04
import Derived.Test.YtcilkcnddgacgaaGreatDoorQM02
import Derived.Maps.OwnSet
import Derived.Sort.KeysCollected
import Derived.Deep.DeepCutAuto
import Derived.Test.YtcilkcnddgacgaaGreatDoorQM01
import Derived.Test.YtcilkcnddgacgaaGreatDoorQM03
namespace Go.Proofs.YtcilkcnddgacgaaGreatDoor
open Go.RowKit
/-- Place j behind p. -/
abbrev nx1 (p : Addr) (j : Nat) : Addr := ⟨p.block, p.off + j, none⟩
theorem blk_lt {w : World} {p : Addr} {v : Value} (h : w.cell? p = some v) : p.block < w.heap.size := World.block_lt_of_cell? w p h
theorem cell_next {w w' : World} (hb : Below w.heap.size w w') {p : Addr} {v : Value} (h : w.cell? p = some v) : w'.cell? p = some v := (hb.cell (blk_lt h)).trans h
/-- A variable of several cells at block b. -/
structure Bx (w : World) (b : Nat) (vs : List Value) : Prop where
  lt : b < w.heap.size
  at_ : ∀ j v, vs[j]? = some v → w.cell? ⟨b, j, none⟩ = some v ∧ w.frozen? ⟨b, j, none⟩ = false
theorem Bx.next {w w' : World} {b : Nat} {vs : List Value} (h : Bx w b vs) (hb : Below w.heap.size w w') : Bx w' b vs :=
  ⟨Nat.lt_of_lt_of_le h.lt hb.size, fun j v e => ⟨(hb.cell h.lt).trans (h.at_ j v e).1, (hb.frozen h.lt).trans (h.at_ j v e).2⟩⟩
theorem Bx.c {w : World} {b : Nat} {vs : List Value} (h : Bx w b vs) (j : Nat) {v : Value} (e : vs[j]? = some v) : w.cell? ⟨b, j, none⟩ = some v := (h.at_ j v e).1
theorem Bx.f {w : World} {b : Nat} {vs : List Value} (h : Bx w b vs) (j : Nat) {v : Value} (e : vs[j]? = some v) : w.frozen? ⟨b, j, none⟩ = false := (h.at_ j v e).2
theorem Bx.new1 (w : World) (t : TypeId) (x : Value) : Bx (w.alloc (Obj.cells #[x] t)) w.heap.size [x] :=
  ⟨by simp, fun j v e => by
    match j, e with
    | 0, e => cases e; exact ⟨by simp, by simp⟩⟩
theorem Bx.new2 (w : World) (t : TypeId) (x y : Value) : Bx (w.alloc (Obj.cells #[x, y] t)) w.heap.size [x, y] :=
  ⟨by simp, fun j v e => by
    match j, e with
    | 0, e => cases e; exact ⟨by simp, by simp⟩
    | 1, e => cases e; exact ⟨by simp, by simp⟩⟩
theorem Bx.new3 (w : World) (t : TypeId) (x y z : Value) : Bx (w.alloc (Obj.cells #[x, y, z] t)) w.heap.size [x, y, z] :=
  ⟨by simp, fun j v e => by
    match j, e with
    | 0, e => cases e; exact ⟨by simp, by simp⟩
    | 1, e => cases e; exact ⟨by simp, by simp⟩
    | 2, e => cases e; exact ⟨by simp, by simp⟩⟩
theorem Bx.new4 (w : World) (t : TypeId) (x y z u : Value) : Bx (w.alloc (Obj.cells #[x, y, z, u] t)) w.heap.size [x, y, z, u] :=
  ⟨by simp, fun j v e => by
    match j, e with
    | 0, e => cases e; exact ⟨by simp, by simp⟩
    | 1, e => cases e; exact ⟨by simp, by simp⟩
    | 2, e => cases e; exact ⟨by simp, by simp⟩
    | 3, e => cases e; exact ⟨by simp, by simp⟩⟩
theorem Bx.new7 (w : World) (t : TypeId) (x y z u p q r : Value) : Bx (w.alloc (Obj.cells #[x, y, z, u, p, q, r] t)) w.heap.size [x, y, z, u, p, q, r] :=
  ⟨by simp, fun j v e => by
    match j, e with
    | 0, e => cases e; exact ⟨by simp, by simp⟩
    | 1, e => cases e; exact ⟨by simp, by simp⟩
    | 2, e => cases e; exact ⟨by simp, by simp⟩
    | 3, e => cases e; exact ⟨by simp, by simp⟩
    | 4, e => cases e; exact ⟨by simp, by simp⟩
    | 5, e => cases e; exact ⟨by simp, by simp⟩
    | 6, e => cases e; exact ⟨by simp, by simp⟩⟩
/-- Rows: elements of z cells each, of which P tells. -/
def Rw {α : Type} (P : World → α → Addr → Prop) (z : Nat) (w : World) (l : List α) (A : Option Addr) : Prop := l = [] ∨ ∃ a, A = some a ∧ ∀ i (h : i < l.length), P w (l[i]'h) (a.add (i * z))
theorem Rw.next {α : Type} {P : World → α → Addr → Prop} {z : Nat} {w w' : World} {l : List α} {A : Option Addr} (hP : ∀ x p, P w x p → P w' x p) (h : Rw P z w l A) : Rw P z w' l A := by
  rcases h with h | ⟨a, e, h⟩
  · exact .inl h
  · exact .inr ⟨a, e, fun i hi => hP _ _ (h i hi)⟩
theorem Rw.get {α : Type} {P : World → α → Addr → Prop} {z : Nat} {w : World} {l : List α} {A : Option Addr} (h : Rw P z w l A) {i : Nat} (hi : i < l.length) : ∃ a, A = some a ∧ P w (l[i]'hi) (a.add (i * z)) := by
  rcases h with h | ⟨a, e, h⟩
  · subst h; exact absurd hi (Nat.not_lt_zero _)
  · exact ⟨a, e, h i hi⟩
/-- The elements of the slice v, z cells each. -/
def Sl {α : Type} (P : World → α → Addr → Prop) (z : Nat) (w : World) (l : List α) (v : Value) : Prop := ∃ A c, v = .slice A l.length c ∧ Rw P z w l A
theorem Sl.next {α : Type} {P : World → α → Addr → Prop} {z : Nat} {w w' : World} {l : List α} {v : Value} (hP : ∀ x p, P w x p → P w' x p) (h : Sl P z w l v) : Sl P z w' l v := by
  obtain ⟨A, c, e, h⟩ := h
  exact ⟨A, c, e, h.next hP⟩
theorem Sl.nil {α : Type} (P : World → α → Addr → Prop) (z : Nat) (w : World) : Sl P z w [] (.slice none 0 0) := ⟨none, 0, rfl, .inl rfl⟩
def TyN (w : World) (x : List UInt8) (p : Addr) : Prop := w.cell? p = some (.string (bs x))
def TyI (w : World) (x : Int) (p : Addr) : Prop := w.cell? p = some (.int .i64 x)
mutual
/-- A type at p. -/
def TyA (w : World) : Ty → Addr → Prop
  | .mk k s n e, p => w.cell? p = some (.int .i64 k) ∧ w.cell? (nx1 p 1) = some (.int .i64 s) ∧ w.cell? (nx1 p 2) = some (.string (bs n)) ∧ ∃ A c, w.cell? (nx1 p 3) = some (.slice A e.length c) ∧ TyS w e A
/-- Types, one behind the other. -/
def TyS (w : World) : List Ty → Option Addr → Prop
  | [], _ => True
  | t :: ts, A => ∃ a, A = some a ∧ TyA w t a ∧ TyS w ts (some (a.add 4))
end
mutual
theorem TyA.next {w w' : World} (hb : Below w.heap.size w w') : ∀ (t : Ty) (p : Addr), TyA w t p → TyA w' t p
  | .mk k s n e, p, h => by
    rw [TyA] at h ⊢
    obtain ⟨h0, h1, h2, A, c, h3, h4⟩ := h
    exact ⟨cell_next hb h0, cell_next hb h1, cell_next hb h2, A, c, cell_next hb h3, TyS.next hb e A h4⟩
theorem TyS.next {w w' : World} (hb : Below w.heap.size w w') : ∀ (ts : List Ty) (A : Option Addr), TyS w ts A → TyS w' ts A
  | [], _, _ => by rw [TyS]; trivial
  | t :: ts, A, h => by
    rw [TyS] at h ⊢
    obtain ⟨a, e, h1, h2⟩ := h
    exact ⟨a, e, TyA.next hb t a h1, TyS.next hb ts _ h2⟩
end
theorem TyS.rw_ {w : World} : ∀ {ts : List Ty} {A : Option Addr}, TyS w ts A ↔ Rw TyA 4 w ts A := by
  intro ts
  induction ts with
  | nil => intro A; rw [TyS]; exact ⟨fun _ => .inl rfl, fun _ => trivial⟩
  | cons t ts ih =>
    intro A
    rw [TyS]
    constructor
    · rintro ⟨a, rfl, h1, h2⟩
      refine .inr ⟨a, rfl, fun i hi => ?_⟩
      cases i with
      | zero => rw [Nat.zero_mul]; exact h1
      | succ i =>
        rcases ih.1 h2 with h | ⟨b, e, h⟩
        · subst h; simp at hi
        · cases e
          have := h i (by simpa using hi)
          rw [Addr.add_add] at this
          rw [show (i + 1) * 4 = 4 + i * 4 by omega]
          exact this
    · rintro (h | ⟨a, e, h⟩)
      · cases h
      · refine ⟨a, e, ?_, ih.2 ?_⟩
        · have := h 0 (by simp)
          rw [Nat.zero_mul] at this
          exact this
        · refine .inr ⟨_, rfl, fun i hi => ?_⟩
          have := h (i + 1) (by simpa using hi)
          rw [Addr.add_add, show 4 + i * 4 = (i + 1) * 4 by omega]
          exact this
def Ty.kind : Ty → Int | .mk k _ _ _ => k
def Ty.size : Ty → Int | .mk _ s _ _ => s
def Ty.name : Ty → List UInt8 | .mk _ _ n _ => n
def Ty.elem : Ty → List Ty | .mk _ _ _ e => e
theorem TyA.cells {w : World} {t : Ty} {p : Addr} (h : TyA w t p) : w.cell? p = some (.int .i64 t.kind) ∧ w.cell? (nx1 p 1) = some (.int .i64 t.size) ∧ w.cell? (nx1 p 2) = some (.string (bs t.name)) ∧ ∃ A c, w.cell? (nx1 p 3) = some (.slice A t.elem.length c) ∧ Rw TyA 4 w t.elem A := by
  obtain ⟨k, s, n, e⟩ := t
  rw [TyA] at h
  obtain ⟨h0, h1, h2, A, c, h3, h4⟩ := h
  exact ⟨h0, h1, h2, A, c, h3, TyS.rw_.1 h4⟩
theorem TyA.of {w : World} {t : Ty} {p : Addr} (h0 : w.cell? p = some (.int .i64 t.kind)) (h1 : w.cell? (nx1 p 1) = some (.int .i64 t.size)) (h2 : w.cell? (nx1 p 2) = some (.string (bs t.name))) {A : Option Addr} {c : Nat} (h3 : w.cell? (nx1 p 3) = some (.slice A t.elem.length c)) (h4 : Rw TyA 4 w t.elem A) : TyA w t p := by
  obtain ⟨k, s, n, e⟩ := t
  rw [TyA]
  exact ⟨h0, h1, h2, A, c, h3, TyS.rw_.2 h4⟩
/-- A type as a value. -/
def TyV (w : World) (t : Ty) (v : Value) : Prop := ∃ A c, v = .agg #[.int .i64 t.kind, .int .i64 t.size, .string (bs t.name), .slice A t.elem.length c] ∧ Rw TyA 4 w t.elem A
theorem TyV.next {w w' : World} (hb : Below w.heap.size w w') {t : Ty} {v : Value} (h : TyV w t v) : TyV w' t v := by
  obtain ⟨A, c, e, h⟩ := h
  exact ⟨A, c, e, h.next fun x p => TyA.next hb x p⟩
/-- A field at p. -/
def FdA (w : World) (f : Fd) (p : Addr) : Prop := w.cell? p = some (.int .i64 f.num) ∧ w.cell? (nx1 p 1) = some (.string (bs f.name)) ∧ w.cell? (nx1 p 2) = some (.int .i64 f.type.kind) ∧ w.cell? (nx1 p 3) = some (.int .i64 f.type.size) ∧ w.cell? (nx1 p 4) = some (.string (bs f.type.name)) ∧
  (∃ A c, w.cell? (nx1 p 5) = some (.slice A f.type.elem.length c) ∧ Rw TyA 4 w f.type.elem A) ∧ w.cell? (nx1 p 6) = some (.bool f.opt)
theorem FdA.next {w w' : World} (hb : Below w.heap.size w w') {f : Fd} {p : Addr} (h : FdA w f p) : FdA w' f p := by
  obtain ⟨h0, h1, h2, h3, h4, ⟨A, c, h5, h6⟩, h7⟩ := h
  exact ⟨cell_next hb h0, cell_next hb h1, cell_next hb h2, cell_next hb h3, cell_next hb h4, ⟨A, c, cell_next hb h5, h6.next fun x p => TyA.next hb x p⟩, cell_next hb h7⟩
/-- A field as a value. -/
def FdV (w : World) (f : Fd) (v : Value) : Prop := ∃ A c, v = .agg #[.int .i64 f.num, .string (bs f.name), .int .i64 f.type.kind, .int .i64 f.type.size, .string (bs f.type.name), .slice A f.type.elem.length c, .bool f.opt] ∧ Rw TyA 4 w f.type.elem A
theorem FdV.next {w w' : World} (hb : Below w.heap.size w w') {t : Fd} {v : Value} (h : FdV w t v) : FdV w' t v := by
  obtain ⟨A, c, e, h⟩ := h
  exact ⟨A, c, e, h.next fun x p => TyA.next hb x p⟩
/-- A struct at p, and as a value. -/
def StA (w : World) (t : St) (p : Addr) : Prop := w.cell? p = some (.string (bs t.name)) ∧ ∃ A c, w.cell? (nx1 p 1) = some (.slice A t.fields.length c) ∧ Rw FdA 7 w t.fields A
def StV (w : World) (t : St) (v : Value) : Prop := ∃ A c, v = .agg #[.string (bs t.name), .slice A t.fields.length c] ∧ Rw FdA 7 w t.fields A
theorem StA.next {w w' : World} (hb : Below w.heap.size w w') {t : St} {p : Addr} (h : StA w t p) : StA w' t p := by
  obtain ⟨h0, A, c, h1, h2⟩ := h
  exact ⟨cell_next hb h0, A, c, cell_next hb h1, h2.next fun _ _ => FdA.next hb⟩
theorem StV.next {w w' : World} (hb : Below w.heap.size w w') {t : St} {v : Value} (h : StV w t v) : StV w' t v := by
  obtain ⟨A, c, e, h⟩ := h
  exact ⟨A, c, e, h.next fun _ _ => FdA.next hb⟩
/-- An enumeration at p, and as a value. -/
def EnA (w : World) (x : En) (p : Addr) : Prop := w.cell? p = some (.string (bs x.name)) ∧ (∃ A c, w.cell? (nx1 p 1) = some (.slice A x.names.length c) ∧ Rw TyN 1 w x.names A) ∧ ∃ A c, w.cell? (nx1 p 2) = some (.slice A x.nums.length c) ∧ Rw TyI 1 w x.nums A
def EnV (w : World) (x : En) (v : Value) : Prop := ∃ A c A2 c2, v = .agg #[.string (bs x.name), .slice A x.names.length c, .slice A2 x.nums.length c2] ∧ Rw TyN 1 w x.names A ∧ Rw TyI 1 w x.nums A2
theorem TyN.next {w w' : World} (hb : Below w.heap.size w w') {t : List UInt8} {p : Addr} (h : TyN w t p) : TyN w' t p := cell_next hb h
theorem TyI.next {w w' : World} (hb : Below w.heap.size w w') {t : Int} {p : Addr} (h : TyI w t p) : TyI w' t p := cell_next hb h
theorem EnA.next {w w' : World} (hb : Below w.heap.size w w') {t : En} {p : Addr} (h : EnA w t p) : EnA w' t p := by
  obtain ⟨h0, ⟨A, c, h1, h2⟩, A2, c2, h3, h4⟩ := h
  exact ⟨cell_next hb h0, ⟨A, c, cell_next hb h1, h2.next fun _ _ => TyN.next hb⟩, A2, c2, cell_next hb h3, h4.next fun _ _ => TyI.next hb⟩
theorem EnV.next {w w' : World} (hb : Below w.heap.size w w') {t : En} {v : Value} (h : EnV w t v) : EnV w' t v := by
  obtain ⟨A, c, A2, c2, e, h, h2⟩ := h
  exact ⟨A, c, A2, c2, e, h.next fun _ _ => TyN.next hb, h2.next fun _ _ => TyI.next hb⟩
/-- A schema, and as a value. -/
structure Sch where
  ver : Int
  enums : List En
  structs : List St
structure Sc (w : World) (S : Sch) (A : Option Addr) (A2 : Option Addr) : Prop where
  en : Rw EnA 3 w S.enums A
  st : Rw StA 2 w S.structs A2
theorem Sc.next {w w' : World} (hb : Below w.heap.size w w') {S : Sch} {A A2 : Option Addr} (h : Sc w S A A2) : Sc w' S A A2 :=
  ⟨h.en.next fun _ _ => EnA.next hb, h.st.next fun _ _ => StA.next hb⟩
def ScV (w : World) (S : Sch) (v : Value) : Prop := ∃ A c A2 c2, v = .agg #[.int .i64 S.ver, .slice A S.enums.length c, .slice A2 S.structs.length c2] ∧ Sc w S A A2
theorem ScV.next {w w' : World} (hb : Below w.heap.size w w') {t : Sch} {v : Value} (h : ScV w t v) : ScV w' t v := by
  obtain ⟨A, c, A2, c2, e, h⟩ := h
  exact ⟨A, c, A2, c2, e, h.next hb⟩
theorem StA.val {w : World} {t : St} {p : Addr} (h : StA w t p) : ∃ A c, w.cell? p = some (.string (bs t.name)) ∧ w.cell? (nx1 p 1) = some (.slice A t.fields.length c) ∧ StV w t (.agg #[.string (bs t.name), .slice A t.fields.length c]) := by
  obtain ⟨h0, A, c, h1, h2⟩ := h
  exact ⟨A, c, h0, h1, A, c, rfl, h2⟩
theorem EnA.val {w : World} {t : En} {p : Addr} (h : EnA w t p) : ∃ A c A2 c2, w.cell? p = some (.string (bs t.name)) ∧ w.cell? (nx1 p 1) = some (.slice A t.names.length c) ∧ w.cell? (nx1 p 2) = some (.slice A2 t.nums.length c2) ∧ EnV w t (.agg #[.string (bs t.name), .slice A t.names.length c, .slice A2 t.nums.length c2]) := by
  obtain ⟨h0, ⟨A, c, h1, h2⟩, A2, c2, h3, h4⟩ := h
  exact ⟨A, c, A2, c2, h0, h1, h3, A, c, A2, c2, rfl, h2, h4⟩
theorem TyA.val {w : World} {t : Ty} {p : Addr} (h : TyA w t p) : ∃ A c, w.cell? p = some (.int .i64 t.kind) ∧ w.cell? (nx1 p 1) = some (.int .i64 t.size) ∧ w.cell? (nx1 p 2) = some (.string (bs t.name)) ∧ w.cell? (nx1 p 3) = some (.slice A t.elem.length c) ∧ TyV w t (.agg #[.int .i64 t.kind, .int .i64 t.size, .string (bs t.name), .slice A t.elem.length c]) := by
  obtain ⟨h0, h1, h2, A, c, h3, h4⟩ := h.cells
  exact ⟨A, c, h0, h1, h2, h3, A, c, rfl, h4⟩
theorem FdA.val {w : World} {f : Fd} {p : Addr} (h : FdA w f p) : ∃ A c, w.cell? p = some (.int .i64 f.num) ∧ w.cell? (nx1 p 1) = some (.string (bs f.name)) ∧ w.cell? (nx1 p 2) = some (.int .i64 f.type.kind) ∧ w.cell? (nx1 p 3) = some (.int .i64 f.type.size) ∧ w.cell? (nx1 p 4) = some (.string (bs f.type.name)) ∧ w.cell? (nx1 p 5) = some (.slice A f.type.elem.length c) ∧ w.cell? (nx1 p 6) = some (.bool f.opt) ∧
    FdV w f (.agg #[.int .i64 f.num, .string (bs f.name), .int .i64 f.type.kind, .int .i64 f.type.size, .string (bs f.type.name), .slice A f.type.elem.length c, .bool f.opt]) ∧ TyV w f.type (.agg #[.int .i64 f.type.kind, .int .i64 f.type.size, .string (bs f.type.name), .slice A f.type.elem.length c]) := by
  obtain ⟨h0, h1, h2, h3, h4, ⟨A, c, h5, h6⟩, h7⟩ := h
  exact ⟨A, c, h0, h1, h2, h3, h4, h5, h7, ⟨A, c, rfl, h6⟩, A, c, rfl, h6⟩
end Go.Proofs.YtcilkcnddgacgaaGreatDoor
/-
  The reference's looking up by name and by number. No conditions beyond those that each names.
-/
namespace Go.Proofs.YtcilkcnddgacgaaGreatDoor
open Go.RowKit
theorem fst_at {α β : Type} [DecidableEq β] {key : α → β} : ∀ {l : List α} {k : Nat} (h : k < l.length) {b : β}, (∀ j (hj : j < l.length), j < k → key (l[j]'hj) ≠ b) → key (l[k]'h) = b → fst_ key l b = some (l[k]'h)
  | a :: l, 0, h, b, _, e => by
    rw [fst_cons, if_pos (by simpa using e)]
    rfl
  | a :: l, k + 1, h, b, hn, e => by
    have h0 : key a ≠ b := hn 0 (by simp) (by omega)
    rw [fst_cons, if_neg h0]
    have := fst_at (key := key) (l := l) (k := k) (by simpa using h) (b := b) (fun j hj hjk => by have := hn (j + 1) (by simpa using hj) (by omega); simpa using this) (by simpa using e)
    simpa using this
theorem fst_end {α β : Type} [DecidableEq β] {key : α → β} {l : List α} {b : β} (hn : ∀ j (hj : j < l.length), key (l[j]'hj) ≠ b) : fst_ key l b = none :=
  fst_none.2 fun a ha => by
    obtain ⟨j, hj, rfl⟩ := List.mem_iff_getElem.1 ha
    exact hn j hj
def st0 : St := ⟨[], []⟩
def en0 : En := ⟨[], [], []⟩
theorem StV.zero (w : World) : StV w st0 (.agg #[.string ⟨#[]⟩, .slice none 0 0]) := ⟨none, 0, rfl, .inl rfl⟩
theorem EnV.zero (w : World) : EnV w en0 (.agg #[.string ⟨#[]⟩, .slice none 0 0, .slice none 0 0]) := ⟨none, 0, none, 0, rfl, .inl rfl, .inl rfl⟩
/-- The first struct with a name, as a function returns it. -/
def StO (o : Option St) (w : World) (e : Ending) (w' : World) : Prop := ∃ v, e = .returned (.tuple #[v, .bool o.isSome]) ∧ StV w' (o.getD st0) v ∧ Below w.heap.size w w'
def EnO (o : Option En) (w : World) (e : Ending) (w' : World) : Prop := ∃ v, e = .returned (.tuple #[v, .bool o.isSome]) ∧ EnV w' (o.getD en0) v ∧ Below w.heap.size w w'
theorem sq_t (x : List UInt8) : ((bs x).toList == (bs x).toList) = true := by simp
theorem sq_f {x y : List UInt8} (h : x ≠ y) : ((bs x).toList == (bs y).toList) = false := by
  rw [toList_bs, toList_bs]; simpa using h
theorem sn_t (x : List UInt8) : ((bs x).toList != (bs x).toList) = false := by simp
theorem sn_f {x y : List UInt8} (h : x ≠ y) : ((bs x).toList != (bs y).toList) = true := by
  rw [toList_bs, toList_bs]; simpa using h
theorem ab1 (w : World) (o : Obj) : Below w.heap.size w (w.alloc o) := (Below.refl _ _).alloc (Nat.le_refl _) o
theorem ab2 (w : World) (o p : Obj) : Below w.heap.size w ((w.alloc o).alloc p) := (ab1 w o).alloc (by simp) p
theorem ab3 (w : World) (o p q : Obj) : Below w.heap.size w (((w.alloc o).alloc p).alloc q) := (ab2 w o p).alloc (by simp; omega) q
theorem ab4 (w : World) (o p q r : Obj) : Below w.heap.size w ((((w.alloc o).alloc p).alloc q).alloc r) := (ab3 w o p q).alloc (by simp; omega) r
theorem StO.some_ {o : Option St} {w w' : World} {t : St} {v : Value} (h : o = some t) (hv : StV w' t v) (hb : Below w.heap.size w w') : StO o w (.returned (.tuple #[v, .bool true])) w' := by
  subst h; exact ⟨v, rfl, hv, hb⟩
theorem StO.none_ {o : Option St} {w w' : World} (h : o = none) (hb : Below w.heap.size w w') : StO o w (.returned (.tuple #[.agg #[.string ⟨#[]⟩, .slice none 0 0], .bool false])) w' := by
  subst h; exact ⟨_, rfl, StV.zero _, hb⟩
theorem EnO.some_ {o : Option En} {w w' : World} {t : En} {v : Value} (h : o = some t) (hv : EnV w' t v) (hb : Below w.heap.size w w') : EnO o w (.returned (.tuple #[v, .bool true])) w' := by
  subst h; exact ⟨v, rfl, hv, hb⟩
theorem EnO.none_ {o : Option En} {w w' : World} (h : o = none) (hb : Below w.heap.size w w') : EnO o w (.returned (.tuple #[.agg #[.string ⟨#[]⟩, .slice none 0 0, .slice none 0 0], .bool false])) w' := by
  subst h; exact ⟨_, rfl, EnV.zero _, hb⟩
def fd0 : Fd := ⟨0, [], false, .mk 0 0 [] []⟩
theorem FdV.zero (w : World) : FdV w fd0 (.agg #[.int .i64 0, .string ⟨#[]⟩, .int .i64 0, .int .i64 0, .string ⟨#[]⟩, .slice none 0 0, .bool false]) := ⟨none, 0, rfl, .inl rfl⟩
def FdO (o : Option Fd) (w : World) (e : Ending) (w' : World) : Prop := ∃ v, e = .returned (.tuple #[v, .bool o.isSome]) ∧ FdV w' (o.getD fd0) v ∧ Below w.heap.size w w'
theorem FdO.some_ {o : Option Fd} {w w' : World} {t : Fd} {v : Value} (h : o = some t) (hv : FdV w' t v) (hb : Below w.heap.size w w') : FdO o w (.returned (.tuple #[v, .bool true])) w' := by
  subst h; exact ⟨v, rfl, hv, hb⟩
theorem FdO.none_ {o : Option Fd} {w w' : World} (h : o = none) (hb : Below w.heap.size w w') : FdO o w (.returned (.tuple #[.agg #[.int .i64 0, .string ⟨#[]⟩, .int .i64 0, .int .i64 0, .string ⟨#[]⟩, .slice none 0 0, .bool false], .bool false])) w' := by
  subst h; exact ⟨_, rfl, FdV.zero _, hb⟩
end Go.Proofs.YtcilkcnddgacgaaGreatDoor
/-
  Which schemas are valid, and with which error others are not: mathematics. No conditions beyond those that each names.
-/
namespace Go.Proofs.YtcilkcnddgacgaaGreatDoor
/-- The first error of so many. -/
def fe (f : Nat → Nat) (n : Nat) : Nat := (((List.range n).map f).find? (fun x => decide (x ≠ 0))).getD 0
theorem fe_zero {f : Nat → Nat} {n : Nat} (h : ∀ j, j < n → f j = 0) : fe f n = 0 := by
  unfold fe
  rw [List.find?_eq_none.2]
  · rfl
  · intro x hx
    obtain ⟨j, hj, rfl⟩ := List.mem_map.1 hx
    rw [h j (List.mem_range.1 hj)]
    simp
theorem fe_succ (f : Nat → Nat) (n : Nat) : fe f (n + 1) = if fe f n = 0 then f n else fe f n := by
  unfold fe
  rw [List.range_succ, List.map_append, List.find?_append]
  cases h : List.find? (fun x => decide (x ≠ 0)) (List.map f (List.range n)) with
  | none =>
    by_cases h0 : f n = 0
    · simp [h0]
    · simp [h0]
  | some x =>
    have hx := List.find?_some h
    have hx : x ≠ 0 := by simpa using hx
    simp [hx]
theorem fe_le {f : Nat → Nat} {k : Nat} : ∀ {n : Nat}, k ≤ n → fe f k ≠ 0 → fe f n = fe f k := by
  intro n
  induction n with
  | zero => intro hk h; rw [Nat.le_zero.1 hk]
  | succ n ih =>
    intro hk h
    rcases Nat.lt_or_ge k (n + 1) with h1 | h1
    · rw [fe_succ, ih (by omega) h, if_neg h]
    · rw [show k = n + 1 by omega]
theorem fe_at {f : Nat → Nat} {n k e : Nat} (hk : k < n) (h : ∀ j, j < k → f j = 0) (he : f k = e) (h0 : e ≠ 0) : fe f n = e := by
  have h1 : fe f (k + 1) = e := by rw [fe_succ, fe_zero h, if_pos rfl, he]
  rw [fe_le (k := k + 1) (by omega) (by rw [h1]; exact h0), h1]
theorem fe_iff {f : Nat → Nat} {n : Nat} : fe f n = 0 ↔ ∀ j, j < n → f j = 0 := by
  refine ⟨fun h j hj => ?_, fe_zero⟩
  have key : ∀ n, fe f n = 0 → ∀ j, j < n → f j = 0 := by
    intro n
    induction n with
    | zero => intro _ j hj; omega
    | succ n ih =>
      intro h j hj
      rw [fe_succ] at h
      by_cases h0 : fe f n = 0
      · rw [if_pos h0] at h
        rcases Nat.lt_or_ge j n with h1 | h1
        · exact ih h0 j h1
        · rw [show j = n by omega]; exact h
      · rw [if_neg h0] at h
        exact absurd h h0
  exact key n h j hj
theorem before_succ {p : Nat → Prop} {k : Nat} (h : ∀ j, j < k → p j) (hk : p k) : ∀ j, j < k + 1 → p j := fun j hj => by
  by_cases e : j < k
  · exact h j e
  · rw [show j = k by omega]; exact hk
/-- A type's name. -/
def isTn (l : List UInt8) : Bool := isN l && match l with | c :: _ => decide (65 ≤ c.toNat) && decide (c.toNat ≤ 90) | [] => false
theorem isTn_isN {l : List UInt8} (h : isTn l = true) : isN l = true := by unfold isTn at h; simp at h; exact h.1
theorem isN_ne {l : List UInt8} (h : isN l = true) : l ≠ [] := by intro e; subst e; cases h
theorem isN_lenS {l : List UInt8} (h : isN l = true) : l.length ≤ 16 := by unfold isN at h; simp at h; exact h.1.1.2
def ens (S : Sch) : List (List UInt8) := S.enums.map En.name
def sns (S : Sch) : List (List UInt8) := S.structs.map St.name
/-- Sizes of kinds. -/
def szOk (k s : Int) : Bool :=
  if k = 1 then decide (s = 0) else if k = 2 then (decide (s = 8) || decide (s = 16) || decide (s = 32) || decide (s = 64)) else if k = 3 then (decide (s = 8) || decide (s = 16) || decide (s = 32)) else
    if k = 4 then (decide (1 ≤ s) && decide (s ≤ 2000)) else if k = 5 then (decide (1 ≤ s) && decide (s ≤ 32)) else if k = 6 then decide (s = 0) else if k = 7 then decide (s = 0) else false
mutual
/-- A valid type. -/
def right (S : Sch) : Ty → Bool
  | .mk k s n e => szOk k s && (if k = 5 then decide (n = []) && rights S e else if k = 6 then (sns S).contains n && decide (e.length = 0) else if k = 7 then (ens S).contains n && decide (e.length = 0) else decide (n = []) && decide (e.length = 0))
def rights (S : Sch) : List Ty → Bool
  | [] => false
  | t :: ts => right S t && decide (ts.length = 0)
end
/-- The names that a type refers to. -/
def dir : Ty → List (List UInt8)
  | .mk k _ n e => if k = 6 ∨ k = 7 then [n] else dirs e
where dirs : List Ty → List (List UInt8)
  | [] => []
  | t :: ts => dir t ++ dirs ts
/-- The type within all lists, and how many lists. -/
def inn : Ty → Ty
  | .mk k s n e => if k = 5 then (match e with | [] => .mk k s n e | t :: _ => inn t) else .mk k s n e
def lst : Ty → Nat
  | .mk k _ _ e => if k = 5 then (match e with | [] => 0 | t :: _ => 1 + lst t) else 0
theorem right_eq (S : Sch) (k s : Int) (n : List UInt8) (e : List Ty) : right S (.mk k s n e) = (szOk k s && (if k = 5 then decide (n = []) && rights S e else if k = 6 then (sns S).contains n && decide (e.length = 0) else if k = 7 then (ens S).contains n && decide (e.length = 0) else decide (n = []) && decide (e.length = 0))) := by rw [right]
theorem right_list {S : Sch} {s : Int} {n : List UInt8} {e : List Ty} (h : right S (.mk 5 s n e) = true) : n = [] ∧ ∃ t, e = [t] ∧ right S t = true := by
  rw [right_eq, if_pos rfl] at h
  simp only [Bool.and_eq_true, decide_eq_true_eq] at h
  obtain ⟨-, h1, h2⟩ := h
  match e, h2 with
  | [], h2 => rw [rights] at h2; cases h2
  | t :: ts, h2 =>
    rw [rights] at h2
    simp only [Bool.and_eq_true, decide_eq_true_eq] at h2
    exact ⟨h1, t, by rw [List.eq_nil_of_length_eq_zero h2.2], h2.1⟩
theorem inn_list (s : Int) (n : List UInt8) (t : Ty) (ts : List Ty) : inn (.mk 5 s n (t :: ts)) = inn t := by rw [inn, if_pos rfl]
theorem inn_not {k : Int} (s : Int) (n : List UInt8) (e : List Ty) (h : k ≠ 5) : inn (.mk k s n e) = .mk k s n e := by cases e <;> simp [inn, h]
theorem lst_list (s : Int) (n : List UInt8) (t : Ty) (ts : List Ty) : lst (.mk 5 s n (t :: ts)) = 1 + lst t := by rw [lst, if_pos rfl]
theorem lst_not {k : Int} (s : Int) (n : List UInt8) (e : List Ty) (h : k ≠ 5) : lst (.mk k s n e) = 0 := by cases e <;> simp [lst, h]
theorem dir_pos {k : Int} (s : Int) (n : List UInt8) (e : List Ty) (h : k = 6 ∨ k = 7) : dir (.mk k s n e) = [n] := by rw [dir, if_pos h]
theorem dir_neg {k : Int} (s : Int) (n : List UInt8) (e : List Ty) (h : ¬ (k = 6 ∨ k = 7)) : dir (.mk k s n e) = dir.dirs e := by rw [dir, if_neg h]
/-- What a valid type refers to is told by the type within all lists. -/
theorem right_dir {S : Sch} : ∀ (t : Ty), right S t = true → (dir t = [(inn t).name] ∧ ((inn t).kind = 6 ∧ (inn t).name ∈ sns S ∨ (inn t).kind = 7 ∧ (inn t).name ∈ ens S)) ∨ (dir t = [] ∧ (inn t).name = [] ∧ (inn t).kind ≠ 6 ∧ (inn t).kind ≠ 7)
  | .mk k s n e, h => by
    by_cases h5 : k = 5
    · subst h5
      obtain ⟨rfl, t, rfl, ht⟩ := right_list h
      have := right_dir t ht
      rw [inn_list, dir_neg _ _ _ (by decide), dir.dirs, dir.dirs, List.append_nil]
      exact this
    · rw [inn_not _ _ _ h5]
      rw [right_eq, if_neg h5] at h
      simp only [Bool.and_eq_true] at h
      obtain ⟨-, h⟩ := h
      by_cases h6 : k = 6
      · rw [if_pos h6] at h
        simp only [Bool.and_eq_true, List.contains_iff_mem] at h
        exact .inl ⟨dir_pos _ _ _ (.inl h6), .inl ⟨h6, h.1⟩⟩
      · rw [if_neg h6] at h
        by_cases h7 : k = 7
        · rw [if_pos h7] at h
          simp only [Bool.and_eq_true, List.contains_iff_mem] at h
          exact .inl ⟨dir_pos _ _ _ (.inr h7), .inr ⟨h7, h.1⟩⟩
        · rw [if_neg h7] at h
          simp only [Bool.and_eq_true, decide_eq_true_eq] at h
          obtain ⟨rfl, he⟩ := h
          obtain rfl := List.eq_nil_of_length_eq_zero he
          exact .inr ⟨by rw [dir_neg _ _ _ (by rintro (h | h); exact h6 h; exact h7 h), dir.dirs], rfl, h6, h7⟩
/-- An enumeration's name number k, and its number. -/
def nmErr (x : En) (k : Nat) : Nat :=
  if isN (x.names.getD k []) = false then 5 else if (x.names.take k).contains (x.names.getD k []) = true then 7 else if x.nums.getD k 0 < 0 ∨ 127 < x.nums.getD k 0 then 4 else
    if (k = 0 ∧ x.nums.getD k 0 ≠ 0) ∨ (0 < k ∧ x.nums.getD k 0 ≤ x.nums.getD (k - 1) 0) then 2 else 0
def enErr (pre : List (List UInt8)) (x : En) : Nat :=
  if isTn x.name = false then 5 else if pre.contains x.name = true then 7 else if x.names.length = 0 ∨ x.nums.length ≠ x.names.length then 2 else fe (nmErr x) x.names.length
def fdErr (S : Sch) (t : St) (k : Nat) : Nat :=
  if (t.fields.getD k fd0).num < 1 ∨ 127 < (t.fields.getD k fd0).num then 4 else if 0 < k ∧ (t.fields.getD k fd0).num ≤ (t.fields.getD (k - 1) fd0).num then 2 else if isN (t.fields.getD k fd0).name = false then 5 else
    if ((t.fields.take k).map Fd.name).contains (t.fields.getD k fd0).name = true then 7 else if right S (t.fields.getD k fd0).type = false then 13 else 0
def stErr (S : Sch) (pre : List (List UInt8)) (t : St) : Nat :=
  if isTn t.name = false then 5 else if pre.contains t.name = true then 7 else fe (fdErr S t) t.fields.length
def enE (S : Sch) (i : Nat) : Nat := enErr ((ens S).take i) (S.enums.getD i en0)
def stE (S : Sch) (i : Nat) : Nat := stErr S (ens S ++ (sns S).take i) (S.structs.getD i st0)
def longS (S : Sch) : Prop := 16 < S.enums.length + S.structs.length ∨ (∃ x ∈ S.enums, 16 < x.names.length) ∨ ∃ t ∈ S.structs, 16 < t.fields.length
/-- The names that a struct refers to. -/
def nxs (t : St) : List (List UInt8) := t.fields.flatMap fun f => dir f.type
def nx (S : Sch) (x : List UInt8) : List (List UInt8) := nxs ((fst_ St.name S.structs x).getD st0)
/-- The depth of a type, given those of the structs. -/
def td (S : Sch) (d : List UInt8 → Nat) : Ty → Nat
  | .mk k _ n e => if k = 5 then (match e with | [] => 0 | t :: _ => 1 + td S d t) else if k = 6 then (if n ∈ sns S then d n else 0) else 0
def fdep (S : Sch) (d : List UInt8 → Nat) (t : St) : Nat := 1 + (t.fields.map fun f => td S d f.type).foldl max 0
def dF (S : Sch) (d : List UInt8 → Nat) (x : List UInt8) : Nat := fdep S d ((fst_ St.name S.structs x).getD st0)
def dep (S : Sch) (x : List UInt8) : Nat := gd (dF S) (S.structs.length + 1) x
def cyc (S : Sch) : Prop := ∃ t ∈ S.structs, Reach (nx S) t.name t.name
def deep (S : Sch) : Prop := ∃ t ∈ S.structs, 6 < dep S t.name
open Classical in
/-- The first error of a schema. -/
noncomputable def chk (S : Sch) : Nat :=
  if S.ver < 1 ∨ 999 < S.ver then 4 else if longS S then 3 else if fe (enE S) S.enums.length ≠ 0 then fe (enE S) S.enums.length else if fe (stE S) S.structs.length ≠ 0 then fe (stE S) S.structs.length else if cyc S then 19 else if deep S then 9 else 0
/-- Valid in all its parts. -/
structure Parts (S : Sch) : Prop where
  en : ∀ i, i < S.enums.length → enE S i = 0
  st : ∀ i, i < S.structs.length → stE S i = 0
theorem nmErr_cases (x : En) (k : Nat) : (isN (x.names.getD k []) = false ∧ nmErr x k = 5) ∨ (isN (x.names.getD k []) = true ∧ (x.names.take k).contains (x.names.getD k []) = true ∧ nmErr x k = 7) ∨
    (isN (x.names.getD k []) = true ∧ (x.names.take k).contains (x.names.getD k []) = false ∧ (x.nums.getD k 0 < 0 ∨ 127 < x.nums.getD k 0) ∧ nmErr x k = 4) ∨
    (isN (x.names.getD k []) = true ∧ (x.names.take k).contains (x.names.getD k []) = false ∧ 0 ≤ x.nums.getD k 0 ∧ x.nums.getD k 0 ≤ 127 ∧ ((k = 0 ∧ x.nums.getD k 0 ≠ 0) ∨ (0 < k ∧ x.nums.getD k 0 ≤ x.nums.getD (k - 1) 0)) ∧ nmErr x k = 2) ∨
    (isN (x.names.getD k []) = true ∧ (x.names.take k).contains (x.names.getD k []) = false ∧ 0 ≤ x.nums.getD k 0 ∧ x.nums.getD k 0 ≤ 127 ∧ (k = 0 → x.nums.getD k 0 = 0) ∧ (0 < k → x.nums.getD (k - 1) 0 < x.nums.getD k 0) ∧ nmErr x k = 0) := by
  unfold nmErr
  by_cases h1 : isN (x.names.getD k []) = false
  · exact .inl ⟨h1, by rw [if_pos h1]⟩
  · have h1' : isN (x.names.getD k []) = true := by simpa using h1
    rw [if_neg h1]
    refine .inr ?_
    by_cases h2 : (x.names.take k).contains (x.names.getD k []) = true
    · exact .inl ⟨h1', h2, by rw [if_pos h2]⟩
    · rw [if_neg h2]
      have h2' : (x.names.take k).contains (x.names.getD k []) = false := by rw [Bool.not_eq_true] at h2; exact h2
      refine .inr ?_
      by_cases h3 : x.nums.getD k 0 < 0 ∨ 127 < x.nums.getD k 0
      · exact .inl ⟨h1', h2', h3, by rw [if_pos h3]⟩
      · rw [if_neg h3]
        refine .inr ?_
        by_cases h4 : (k = 0 ∧ x.nums.getD k 0 ≠ 0) ∨ (0 < k ∧ x.nums.getD k 0 ≤ x.nums.getD (k - 1) 0)
        · exact .inl ⟨h1', h2', by omega, by omega, h4, by rw [if_pos h4]⟩
        · exact .inr ⟨h1', h2', by omega, by omega, fun h => by omega, fun h => by omega, by rw [if_neg h4]⟩
theorem fdErr_cases (S : Sch) (t : St) (k : Nat) : (((t.fields.getD k fd0).num < 1 ∨ 127 < (t.fields.getD k fd0).num) ∧ fdErr S t k = 4) ∨ (1 ≤ (t.fields.getD k fd0).num ∧ (t.fields.getD k fd0).num ≤ 127 ∧ (0 < k ∧ (t.fields.getD k fd0).num ≤ (t.fields.getD (k - 1) fd0).num) ∧ fdErr S t k = 2) ∨
    (1 ≤ (t.fields.getD k fd0).num ∧ (t.fields.getD k fd0).num ≤ 127 ∧ (0 < k → (t.fields.getD (k - 1) fd0).num < (t.fields.getD k fd0).num) ∧ isN (t.fields.getD k fd0).name = false ∧ fdErr S t k = 5) ∨
    (1 ≤ (t.fields.getD k fd0).num ∧ (t.fields.getD k fd0).num ≤ 127 ∧ (0 < k → (t.fields.getD (k - 1) fd0).num < (t.fields.getD k fd0).num) ∧ isN (t.fields.getD k fd0).name = true ∧ ((t.fields.take k).map Fd.name).contains (t.fields.getD k fd0).name = true ∧ fdErr S t k = 7) ∨
    (1 ≤ (t.fields.getD k fd0).num ∧ (t.fields.getD k fd0).num ≤ 127 ∧ (0 < k → (t.fields.getD (k - 1) fd0).num < (t.fields.getD k fd0).num) ∧ isN (t.fields.getD k fd0).name = true ∧ ((t.fields.take k).map Fd.name).contains (t.fields.getD k fd0).name = false ∧ right S (t.fields.getD k fd0).type = false ∧ fdErr S t k = 13) ∨
    (1 ≤ (t.fields.getD k fd0).num ∧ (t.fields.getD k fd0).num ≤ 127 ∧ (0 < k → (t.fields.getD (k - 1) fd0).num < (t.fields.getD k fd0).num) ∧ isN (t.fields.getD k fd0).name = true ∧ ((t.fields.take k).map Fd.name).contains (t.fields.getD k fd0).name = false ∧ right S (t.fields.getD k fd0).type = true ∧ fdErr S t k = 0) := by
  unfold fdErr
  generalize t.fields.getD k fd0 = f
  by_cases h1 : f.num < 1 ∨ 127 < f.num
  · exact .inl ⟨h1, by rw [if_pos h1]⟩
  · rw [if_neg h1]
    refine .inr ?_
    by_cases h2 : 0 < k ∧ f.num ≤ (t.fields.getD (k - 1) fd0).num
    · exact .inl ⟨by omega, by omega, h2, by rw [if_pos h2]⟩
    · rw [if_neg h2]
      refine .inr ?_
      by_cases h3 : isN f.name = false
      · exact .inl ⟨by omega, by omega, fun h => by omega, h3, by rw [if_pos h3]⟩
      · rw [if_neg h3]
        have h3' : isN f.name = true := by simpa using h3
        refine .inr ?_
        by_cases h4 : ((t.fields.take k).map Fd.name).contains f.name = true
        · exact .inl ⟨by omega, by omega, fun h => by omega, h3', h4, by rw [if_pos h4]⟩
        · rw [if_neg h4]
          have h4' : ((t.fields.take k).map Fd.name).contains f.name = false := by rw [Bool.not_eq_true] at h4; exact h4
          refine .inr ?_
          by_cases h5 : right S f.type = false
          · exact .inl ⟨by omega, by omega, fun h => by omega, h3', h4', h5, by rw [if_pos h5]⟩
          · exact .inr ⟨by omega, by omega, fun h => by omega, h3', h4', by simpa using h5, by rw [if_neg h5]⟩
end Go.Proofs.YtcilkcnddgacgaaGreatDoor
/-
  The reference's names, and lists of names. No conditions beyond those that each names.
-/
namespace Go.Proofs.YtcilkcnddgacgaaGreatDoor
open Go.RowKit
theorem ret_bool3 {a b : Bool} {w : World} (h : a = true ↔ b = true) : Is (.bool b) w (.returned (.bool a)) w := ⟨by rw [Bool.eq_iff_iff.2 h], rfl⟩
/-- Lists of names in memory. -/
abbrev Nms (w : World) (l : List (List UInt8)) (v : Value) : Prop := Sl TyN 1 w l v
theorem Nms.next {w w' : World} (hb : Below w.heap.size w w') {l : List (List UInt8)} {v : Value} (h : Nms w l v) : Nms w' l v := Sl.next (fun _ _ => TyN.next hb) h
end Go.Proofs.YtcilkcnddgacgaaGreatDoor


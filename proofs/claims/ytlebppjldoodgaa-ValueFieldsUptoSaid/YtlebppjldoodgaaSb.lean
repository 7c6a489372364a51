import Derived.Test.YtlebppjldoodgaaLb
import Derived.Test.YtlebppjldoodgaaSm
import Derived.Maps.OwnSet
import Derived.Sort.KeysCollected
/-
  Types, fields, structs, enumerations and schemas as they lie in memory; variables of several cells. No conditions beyond those that each names.
-/
namespace Go.Proofs.Ytlebppjldoodgaa
open Go.RowKit
/-- Place j behind p. -/
abbrev nx1 (p : Addr) (j : Nat) : Addr := ⟨p.block, p.off + j, none⟩
theorem blk_add (a : Addr) (i : Nat) : (a.add i).block = a.block := by unfold Addr.add; split <;> rfl
theorem blk_lt {w : World} {p : Addr} {v : Value} (h : w.cell? p = some v) : p.block < w.heap.size := World.block_lt_of_cell? w p h
theorem cell_next {w w' : World} (hb : Below w.heap.size w w') {p : Addr} {v : Value} (h : w.cell? p = some v) : w'.cell? p = some v := (hb.cell (blk_lt h)).trans h
/-- A variable of several cells at block b. -/
structure Bx (w : World) (b : Nat) (vs : List Value) : Prop where
  lt : b < w.heap.size
  at_ : ∀ j v, vs[j]? = some v → w.cell? ⟨b, j, none⟩ = some v ∧ w.frozen? ⟨b, j, none⟩ = false
theorem Bx.next {w w' : World} {b : Nat} {vs : List Value} (h : Bx w b vs) (hb : Below w.heap.size w w') : Bx w' b vs :=
  ⟨Nat.lt_of_lt_of_le h.lt hb.size, fun j v e => ⟨(hb.cell h.lt).trans (h.at_ j v e).1, (hb.frozen h.lt).trans (h.at_ j v e).2⟩⟩
theorem Bx.c {w : World} {b : Nat} {vs : List Value} (h : Bx w b vs) (j : Nat) {v : Value} (e : vs[j]? = some v) : w.cell? ⟨b, j, none⟩ = some v := (h.at_ j v e).1
theorem Bx.f {w : World} {b : Nat} {vs : List Value} (h : Bx w b vs) (j : Nat) {v : Value} (e : vs[j]? = some v) : w.frozen? ⟨b, j, none⟩ = false := (h.at_ j v e).2
theorem Bx.new1 (w : World) (t : TypeId) (x : Value) : Bx (w.alloc (Obj.cells #[x] t)) w.heap.size [x] :=
  ⟨by simp, fun j v e => by
    match j, e with
    | 0, e => cases e; exact ⟨by simp, by simp⟩⟩
theorem Bx.new2 (w : World) (t : TypeId) (x y : Value) : Bx (w.alloc (Obj.cells #[x, y] t)) w.heap.size [x, y] :=
  ⟨by simp, fun j v e => by
    match j, e with
    | 0, e => cases e; exact ⟨by simp, by simp⟩
    | 1, e => cases e; exact ⟨by simp, by simp⟩⟩
theorem Bx.new3 (w : World) (t : TypeId) (x y z : Value) : Bx (w.alloc (Obj.cells #[x, y, z] t)) w.heap.size [x, y, z] :=
  ⟨by simp, fun j v e => by
    match j, e with
    | 0, e => cases e; exact ⟨by simp, by simp⟩
    | 1, e => cases e; exact ⟨by simp, by simp⟩
    | 2, e => cases e; exact ⟨by simp, by simp⟩⟩
theorem Bx.new4 (w : World) (t : TypeId) (x y z u : Value) : Bx (w.alloc (Obj.cells #[x, y, z, u] t)) w.heap.size [x, y, z, u] :=
  ⟨by simp, fun j v e => by
    match j, e with
    | 0, e => cases e; exact ⟨by simp, by simp⟩
    | 1, e => cases e; exact ⟨by simp, by simp⟩
    | 2, e => cases e; exact ⟨by simp, by simp⟩
    | 3, e => cases e; exact ⟨by simp, by simp⟩⟩
theorem Bx.new7 (w : World) (t : TypeId) (x y z u p q r : Value) : Bx (w.alloc (Obj.cells #[x, y, z, u, p, q, r] t)) w.heap.size [x, y, z, u, p, q, r] :=
  ⟨by simp, fun j v e => by
    match j, e with
    | 0, e => cases e; exact ⟨by simp, by simp⟩
    | 1, e => cases e; exact ⟨by simp, by simp⟩
    | 2, e => cases e; exact ⟨by simp, by simp⟩
    | 3, e => cases e; exact ⟨by simp, by simp⟩
    | 4, e => cases e; exact ⟨by simp, by simp⟩
    | 5, e => cases e; exact ⟨by simp, by simp⟩
    | 6, e => cases e; exact ⟨by simp, by simp⟩⟩
/-- Rows: elements of z cells each, of which P tells. -/
def Rw {α : Type} (P : World → α → Addr → Prop) (z : Nat) (w : World) (l : List α) (A : Option Addr) : Prop := l = [] ∨ ∃ a, A = some a ∧ ∀ i (h : i < l.length), P w (l[i]'h) (a.add (i * z))
theorem Rw.next {α : Type} {P : World → α → Addr → Prop} {z : Nat} {w w' : World} {l : List α} {A : Option Addr} (hP : ∀ x p, P w x p → P w' x p) (h : Rw P z w l A) : Rw P z w' l A := by
  rcases h with h | ⟨a, e, h⟩
  · exact .inl h
  · exact .inr ⟨a, e, fun i hi => hP _ _ (h i hi)⟩
theorem Rw.get {α : Type} {P : World → α → Addr → Prop} {z : Nat} {w : World} {l : List α} {A : Option Addr} (h : Rw P z w l A) {i : Nat} (hi : i < l.length) : ∃ a, A = some a ∧ P w (l[i]'hi) (a.add (i * z)) := by
  rcases h with h | ⟨a, e, h⟩
  · subst h; exact absurd hi (Nat.not_lt_zero _)
  · exact ⟨a, e, h i hi⟩
/-- The elements of the slice v, z cells each. -/
def Sl {α : Type} (P : World → α → Addr → Prop) (z : Nat) (w : World) (l : List α) (v : Value) : Prop := ∃ A c, v = .slice A l.length c ∧ Rw P z w l A
theorem Sl.next {α : Type} {P : World → α → Addr → Prop} {z : Nat} {w w' : World} {l : List α} {v : Value} (hP : ∀ x p, P w x p → P w' x p) (h : Sl P z w l v) : Sl P z w' l v := by
  obtain ⟨A, c, e, h⟩ := h
  exact ⟨A, c, e, h.next hP⟩
theorem Sl.nil {α : Type} (P : World → α → Addr → Prop) (z : Nat) (w : World) : Sl P z w [] (.slice none 0 0) := ⟨none, 0, rfl, .inl rfl⟩
def TyN (w : World) (x : List UInt8) (p : Addr) : Prop := w.cell? p = some (.string (bs x))
def TyI (w : World) (x : Int) (p : Addr) : Prop := w.cell? p = some (.int .i64 x)
mutual
/-- A type at p. -/
def TyA (w : World) : Ty → Addr → Prop
  | .mk k s n e, p => w.cell? p = some (.int .i64 k) ∧ w.cell? (nx1 p 1) = some (.int .i64 s) ∧ w.cell? (nx1 p 2) = some (.string (bs n)) ∧ ∃ A c, w.cell? (nx1 p 3) = some (.slice A e.length c) ∧ TyS w e A
/-- Types, one behind the other. -/
def TyS (w : World) : List Ty → Option Addr → Prop
  | [], _ => True
  | t :: ts, A => ∃ a, A = some a ∧ TyA w t a ∧ TyS w ts (some (a.add 4))
end
mutual
theorem TyA.next {w w' : World} (hb : Below w.heap.size w w') : ∀ (t : Ty) (p : Addr), TyA w t p → TyA w' t p
  | .mk k s n e, p, h => by
    rw [TyA] at h ⊢
    obtain ⟨h0, h1, h2, A, c, h3, h4⟩ := h
    exact ⟨cell_next hb h0, cell_next hb h1, cell_next hb h2, A, c, cell_next hb h3, TyS.next hb e A h4⟩
theorem TyS.next {w w' : World} (hb : Below w.heap.size w w') : ∀ (ts : List Ty) (A : Option Addr), TyS w ts A → TyS w' ts A
  | [], _, _ => by rw [TyS]; trivial
  | t :: ts, A, h => by
    rw [TyS] at h ⊢
    obtain ⟨a, e, h1, h2⟩ := h
    exact ⟨a, e, TyA.next hb t a h1, TyS.next hb ts _ h2⟩
end
theorem TyS.rw_ {w : World} : ∀ {ts : List Ty} {A : Option Addr}, TyS w ts A ↔ Rw TyA 4 w ts A := by
  intro ts
  induction ts with
  | nil => intro A; rw [TyS]; exact ⟨fun _ => .inl rfl, fun _ => trivial⟩
  | cons t ts ih =>
    intro A
    rw [TyS]
    constructor
    · rintro ⟨a, rfl, h1, h2⟩
      refine .inr ⟨a, rfl, fun i hi => ?_⟩
      cases i with
      | zero => rw [Nat.zero_mul]; exact h1
      | succ i =>
        rcases ih.1 h2 with h | ⟨b, e, h⟩
        · subst h; simp at hi
        · cases e
          have := h i (by simpa using hi)
          rw [Addr.add_add] at this
          rw [show (i + 1) * 4 = 4 + i * 4 by omega]
          exact this
    · rintro (h | ⟨a, e, h⟩)
      · cases h
      · refine ⟨a, e, ?_, ih.2 ?_⟩
        · have := h 0 (by simp)
          rw [Nat.zero_mul] at this
          exact this
        · refine .inr ⟨_, rfl, fun i hi => ?_⟩
          have := h (i + 1) (by simpa using hi)
          rw [Addr.add_add, show 4 + i * 4 = (i + 1) * 4 by omega]
          exact this
def Ty.kind : Ty → Int | .mk k _ _ _ => k
def Ty.size : Ty → Int | .mk _ s _ _ => s
def Ty.name : Ty → List UInt8 | .mk _ _ n _ => n
def Ty.elem : Ty → List Ty | .mk _ _ _ e => e
theorem TyA.cells {w : World} {t : Ty} {p : Addr} (h : TyA w t p) : w.cell? p = some (.int .i64 t.kind) ∧ w.cell? (nx1 p 1) = some (.int .i64 t.size) ∧ w.cell? (nx1 p 2) = some (.string (bs t.name)) ∧ ∃ A c, w.cell? (nx1 p 3) = some (.slice A t.elem.length c) ∧ Rw TyA 4 w t.elem A := by
  obtain ⟨k, s, n, e⟩ := t
  rw [TyA] at h
  obtain ⟨h0, h1, h2, A, c, h3, h4⟩ := h
  exact ⟨h0, h1, h2, A, c, h3, TyS.rw_.1 h4⟩
theorem TyA.of {w : World} {t : Ty} {p : Addr} (h0 : w.cell? p = some (.int .i64 t.kind)) (h1 : w.cell? (nx1 p 1) = some (.int .i64 t.size)) (h2 : w.cell? (nx1 p 2) = some (.string (bs t.name))) {A : Option Addr} {c : Nat} (h3 : w.cell? (nx1 p 3) = some (.slice A t.elem.length c)) (h4 : Rw TyA 4 w t.elem A) : TyA w t p := by
  obtain ⟨k, s, n, e⟩ := t
  rw [TyA]
  exact ⟨h0, h1, h2, A, c, h3, TyS.rw_.2 h4⟩
/-- A type as a value. -/
def TyV (w : World) (t : Ty) (v : Value) : Prop := ∃ A c, v = .agg #[.int .i64 t.kind, .int .i64 t.size, .string (bs t.name), .slice A t.elem.length c] ∧ Rw TyA 4 w t.elem A
theorem TyV.next {w w' : World} (hb : Below w.heap.size w w') {t : Ty} {v : Value} (h : TyV w t v) : TyV w' t v := by
  obtain ⟨A, c, e, h⟩ := h
  exact ⟨A, c, e, h.next fun x p => TyA.next hb x p⟩
/-- A field at p. -/
def FdA (w : World) (f : Fd) (p : Addr) : Prop := w.cell? p = some (.int .i64 f.num) ∧ w.cell? (nx1 p 1) = some (.string (bs f.name)) ∧ w.cell? (nx1 p 2) = some (.int .i64 f.type.kind) ∧ w.cell? (nx1 p 3) = some (.int .i64 f.type.size) ∧ w.cell? (nx1 p 4) = some (.string (bs f.type.name)) ∧
  (∃ A c, w.cell? (nx1 p 5) = some (.slice A f.type.elem.length c) ∧ Rw TyA 4 w f.type.elem A) ∧ w.cell? (nx1 p 6) = some (.bool f.opt)
theorem FdA.next {w w' : World} (hb : Below w.heap.size w w') {f : Fd} {p : Addr} (h : FdA w f p) : FdA w' f p := by
  obtain ⟨h0, h1, h2, h3, h4, ⟨A, c, h5, h6⟩, h7⟩ := h
  exact ⟨cell_next hb h0, cell_next hb h1, cell_next hb h2, cell_next hb h3, cell_next hb h4, ⟨A, c, cell_next hb h5, h6.next fun x p => TyA.next hb x p⟩, cell_next hb h7⟩
/-- A field as a value. -/
def FdV (w : World) (f : Fd) (v : Value) : Prop := ∃ A c, v = .agg #[.int .i64 f.num, .string (bs f.name), .int .i64 f.type.kind, .int .i64 f.type.size, .string (bs f.type.name), .slice A f.type.elem.length c, .bool f.opt] ∧ Rw TyA 4 w f.type.elem A
theorem FdV.next {w w' : World} (hb : Below w.heap.size w w') {t : Fd} {v : Value} (h : FdV w t v) : FdV w' t v := by
  obtain ⟨A, c, e, h⟩ := h
  exact ⟨A, c, e, h.next fun x p => TyA.next hb x p⟩
/-- A struct at p, and as a value. -/
def StA (w : World) (t : St) (p : Addr) : Prop := w.cell? p = some (.string (bs t.name)) ∧ ∃ A c, w.cell? (nx1 p 1) = some (.slice A t.fields.length c) ∧ Rw FdA 7 w t.fields A
def StV (w : World) (t : St) (v : Value) : Prop := ∃ A c, v = .agg #[.string (bs t.name), .slice A t.fields.length c] ∧ Rw FdA 7 w t.fields A
theorem StA.next {w w' : World} (hb : Below w.heap.size w w') {t : St} {p : Addr} (h : StA w t p) : StA w' t p := by
  obtain ⟨h0, A, c, h1, h2⟩ := h
  exact ⟨cell_next hb h0, A, c, cell_next hb h1, h2.next fun _ _ => FdA.next hb⟩
theorem StV.next {w w' : World} (hb : Below w.heap.size w w') {t : St} {v : Value} (h : StV w t v) : StV w' t v := by
  obtain ⟨A, c, e, h⟩ := h
  exact ⟨A, c, e, h.next fun _ _ => FdA.next hb⟩
/-- An enumeration at p, and as a value. -/
def EnA (w : World) (x : En) (p : Addr) : Prop := w.cell? p = some (.string (bs x.name)) ∧ (∃ A c, w.cell? (nx1 p 1) = some (.slice A x.names.length c) ∧ Rw TyN 1 w x.names A) ∧ ∃ A c, w.cell? (nx1 p 2) = some (.slice A x.nums.length c) ∧ Rw TyI 1 w x.nums A
def EnV (w : World) (x : En) (v : Value) : Prop := ∃ A c A2 c2, v = .agg #[.string (bs x.name), .slice A x.names.length c, .slice A2 x.nums.length c2] ∧ Rw TyN 1 w x.names A ∧ Rw TyI 1 w x.nums A2
theorem TyN.next {w w' : World} (hb : Below w.heap.size w w') {t : List UInt8} {p : Addr} (h : TyN w t p) : TyN w' t p := cell_next hb h
theorem TyI.next {w w' : World} (hb : Below w.heap.size w w') {t : Int} {p : Addr} (h : TyI w t p) : TyI w' t p := cell_next hb h
theorem EnA.next {w w' : World} (hb : Below w.heap.size w w') {t : En} {p : Addr} (h : EnA w t p) : EnA w' t p := by
  obtain ⟨h0, ⟨A, c, h1, h2⟩, A2, c2, h3, h4⟩ := h
  exact ⟨cell_next hb h0, ⟨A, c, cell_next hb h1, h2.next fun _ _ => TyN.next hb⟩, A2, c2, cell_next hb h3, h4.next fun _ _ => TyI.next hb⟩
theorem EnV.next {w w' : World} (hb : Below w.heap.size w w') {t : En} {v : Value} (h : EnV w t v) : EnV w' t v := by
  obtain ⟨A, c, A2, c2, e, h, h2⟩ := h
  exact ⟨A, c, A2, c2, e, h.next fun _ _ => TyN.next hb, h2.next fun _ _ => TyI.next hb⟩
/-- A schema, and as a value. -/
structure Sch where
  ver : Int
  enums : List En
  structs : List St
structure Sc (w : World) (S : Sch) (A : Option Addr) (A2 : Option Addr) : Prop where
  en : Rw EnA 3 w S.enums A
  st : Rw StA 2 w S.structs A2
theorem Sc.next {w w' : World} (hb : Below w.heap.size w w') {S : Sch} {A A2 : Option Addr} (h : Sc w S A A2) : Sc w' S A A2 :=
  ⟨h.en.next fun _ _ => EnA.next hb, h.st.next fun _ _ => StA.next hb⟩
def ScV (w : World) (S : Sch) (v : Value) : Prop := ∃ A c A2 c2, v = .agg #[.int .i64 S.ver, .slice A S.enums.length c, .slice A2 S.structs.length c2] ∧ Sc w S A A2
theorem ScV.next {w w' : World} (hb : Below w.heap.size w w') {t : Sch} {v : Value} (h : ScV w t v) : ScV w' t v := by
  obtain ⟨A, c, A2, c2, e, h⟩ := h
  exact ⟨A, c, A2, c2, e, h.next hb⟩
theorem StA.val {w : World} {t : St} {p : Addr} (h : StA w t p) : ∃ A c, w.cell? p = some (.string (bs t.name)) ∧ w.cell? (nx1 p 1) = some (.slice A t.fields.length c) ∧ StV w t (.agg #[.string (bs t.name), .slice A t.fields.length c]) := by
  obtain ⟨h0, A, c, h1, h2⟩ := h
  exact ⟨A, c, h0, h1, A, c, rfl, h2⟩
theorem EnA.val {w : World} {t : En} {p : Addr} (h : EnA w t p) : ∃ A c A2 c2, w.cell? p = some (.string (bs t.name)) ∧ w.cell? (nx1 p 1) = some (.slice A t.names.length c) ∧ w.cell? (nx1 p 2) = some (.slice A2 t.nums.length c2) ∧ EnV w t (.agg #[.string (bs t.name), .slice A t.names.length c, .slice A2 t.nums.length c2]) := by
  obtain ⟨h0, ⟨A, c, h1, h2⟩, A2, c2, h3, h4⟩ := h
  exact ⟨A, c, A2, c2, h0, h1, h3, A, c, A2, c2, rfl, h2, h4⟩
theorem TyA.val {w : World} {t : Ty} {p : Addr} (h : TyA w t p) : ∃ A c, w.cell? p = some (.int .i64 t.kind) ∧ w.cell? (nx1 p 1) = some (.int .i64 t.size) ∧ w.cell? (nx1 p 2) = some (.string (bs t.name)) ∧ w.cell? (nx1 p 3) = some (.slice A t.elem.length c) ∧ TyV w t (.agg #[.int .i64 t.kind, .int .i64 t.size, .string (bs t.name), .slice A t.elem.length c]) := by
  obtain ⟨h0, h1, h2, A, c, h3, h4⟩ := h.cells
  exact ⟨A, c, h0, h1, h2, h3, A, c, rfl, h4⟩
theorem FdA.val {w : World} {f : Fd} {p : Addr} (h : FdA w f p) : ∃ A c, w.cell? p = some (.int .i64 f.num) ∧ w.cell? (nx1 p 1) = some (.string (bs f.name)) ∧ w.cell? (nx1 p 2) = some (.int .i64 f.type.kind) ∧ w.cell? (nx1 p 3) = some (.int .i64 f.type.size) ∧ w.cell? (nx1 p 4) = some (.string (bs f.type.name)) ∧ w.cell? (nx1 p 5) = some (.slice A f.type.elem.length c) ∧ w.cell? (nx1 p 6) = some (.bool f.opt) ∧
    FdV w f (.agg #[.int .i64 f.num, .string (bs f.name), .int .i64 f.type.kind, .int .i64 f.type.size, .string (bs f.type.name), .slice A f.type.elem.length c, .bool f.opt]) ∧ TyV w f.type (.agg #[.int .i64 f.type.kind, .int .i64 f.type.size, .string (bs f.type.name), .slice A f.type.elem.length c]) := by
  obtain ⟨h0, h1, h2, h3, h4, ⟨A, c, h5, h6⟩, h7⟩ := h
  exact ⟨A, c, h0, h1, h2, h3, h4, h5, h7, ⟨A, c, rfl, h6⟩, A, c, rfl, h6⟩
end Go.Proofs.Ytlebppjldoodgaa

/-
  Types, fields, structs, enumerations and schemas as they lie in memory; variables of several cells. No conditions beyond those that each names.
-/
import Derived.Test.YthfodpbecddheaaGreatDoorQM04
import Derived.Test.YthfodpbecddheaaGreatDoorQM01
import Derived.Maps.OwnSet
import Derived.Sort.KeysCollected
import Derived.Test.YthfodpbecddheaaGreatDoorQM02
import Derived.Deep.DeepCutAuto
namespace Go.Proofs.YthfodpbecddheaaGreatDoor
open Go.RowKit
/-- Place j behind p. -/
abbrev nx1 (p : Addr) (j : Nat) : Addr := ⟨p.block, p.off + j, none⟩
theorem blk_lt {w : World} {p : Addr} {v : Value} (h : w.cell? p = some v) : p.block < w.heap.size := World.block_lt_of_cell? w p h
theorem cell_next {w w' : World} (hb : Below w.heap.size w w') {p : Addr} {v : Value} (h : w.cell? p = some v) : w'.cell? p = some v := (hb.cell (blk_lt h)).trans h
/-- A variable of several cells at block b. -/
structure Bx (w : World) (b : Nat) (vs : List Value) : Prop where
  lt : b < w.heap.size
  at_ : ∀ j v, vs[j]? = some v → w.cell? ⟨b, j, none⟩ = some v ∧ w.frozen? ⟨b, j, none⟩ = false
theorem Bx.next {w w' : World} {b : Nat} {vs : List Value} (h : Bx w b vs) (hb : Below w.heap.size w w') : Bx w' b vs :=
  ⟨Nat.lt_of_lt_of_le h.lt hb.size, fun j v e => ⟨(hb.cell h.lt).trans (h.at_ j v e).1, (hb.frozen h.lt).trans (h.at_ j v e).2⟩⟩
theorem Bx.c {w : World} {b : Nat} {vs : List Value} (h : Bx w b vs) (j : Nat) {v : Value} (e : vs[j]? = some v) : w.cell? ⟨b, j, none⟩ = some v := (h.at_ j v e).1
theorem Bx.f {w : World} {b : Nat} {vs : List Value} (h : Bx w b vs) (j : Nat) {v : Value} (e : vs[j]? = some v) : w.frozen? ⟨b, j, none⟩ = false := (h.at_ j v e).2
theorem Bx.new1 (w : World) (t : TypeId) (x : Value) : Bx (w.alloc (Obj.cells #[x] t)) w.heap.size [x] :=
  ⟨by simp, fun j v e => by
    match j, e with
    | 0, e => cases e; exact ⟨by simp, by simp⟩⟩
theorem Bx.new2 (w : World) (t : TypeId) (x y : Value) : Bx (w.alloc (Obj.cells #[x, y] t)) w.heap.size [x, y] :=
  ⟨by simp, fun j v e => by
    match j, e with
    | 0, e => cases e; exact ⟨by simp, by simp⟩
    | 1, e => cases e; exact ⟨by simp, by simp⟩⟩
theorem Bx.new3 (w : World) (t : TypeId) (x y z : Value) : Bx (w.alloc (Obj.cells #[x, y, z] t)) w.heap.size [x, y, z] :=
  ⟨by simp, fun j v e => by
    match j, e with
    | 0, e => cases e; exact ⟨by simp, by simp⟩
    | 1, e => cases e; exact ⟨by simp, by simp⟩
    | 2, e => cases e; exact ⟨by simp, by simp⟩⟩
theorem Bx.new4 (w : World) (t : TypeId) (x y z u : Value) : Bx (w.alloc (Obj.cells #[x, y, z, u] t)) w.heap.size [x, y, z, u] :=
  ⟨by simp, fun j v e => by
    match j, e with
    | 0, e => cases e; exact ⟨by simp, by simp⟩
    | 1, e => cases e; exact ⟨by simp, by simp⟩
    | 2, e => cases e; exact ⟨by simp, by simp⟩
    | 3, e => cases e; exact ⟨by simp, by simp⟩⟩
theorem Bx.new7 (w : World) (t : TypeId) (x y z u p q r : Value) : Bx (w.alloc (Obj.cells #[x, y, z, u, p, q, r] t)) w.heap.size [x, y, z, u, p, q, r] :=
  ⟨by simp, fun j v e => by
    match j, e with
    | 0, e => cases e; exact ⟨by simp, by simp⟩
    | 1, e => cases e; exact ⟨by simp, by simp⟩
    | 2, e => cases e; exact ⟨by simp, by simp⟩
    | 3, e => cases e; exact ⟨by simp, by simp⟩
    | 4, e => cases e; exact ⟨by simp, by simp⟩
    | 5, e => cases e; exact ⟨by simp, by simp⟩
    | 6, e => cases e; exact ⟨by simp, by simp⟩⟩
/-- Rows: elements of z cells each, of which P tells. -/
def Rw {α : Type} (P : World → α → Addr → Prop) (z : Nat) (w : World) (l : List α) (A : Option Addr) : Prop := l = [] ∨ ∃ a, A = some a ∧ ∀ i (h : i < l.length), P w (l[i]'h) (a.add (i * z))
theorem Rw.next {α : Type} {P : World → α → Addr → Prop} {z : Nat} {w w' : World} {l : List α} {A : Option Addr} (hP : ∀ x p, P w x p → P w' x p) (h : Rw P z w l A) : Rw P z w' l A := by
  rcases h with h | ⟨a, e, h⟩
  · exact .inl h
  · exact .inr ⟨a, e, fun i hi => hP _ _ (h i hi)⟩
theorem Rw.get {α : Type} {P : World → α → Addr → Prop} {z : Nat} {w : World} {l : List α} {A : Option Addr} (h : Rw P z w l A) {i : Nat} (hi : i < l.length) : ∃ a, A = some a ∧ P w (l[i]'hi) (a.add (i * z)) := by
  rcases h with h | ⟨a, e, h⟩
  · subst h; exact absurd hi (Nat.not_lt_zero _)
  · exact ⟨a, e, h i hi⟩
/-- The elements of the slice v, z cells each. -/
def Sl {α : Type} (P : World → α → Addr → Prop) (z : Nat) (w : World) (l : List α) (v : Value) : Prop := ∃ A c, v = .slice A l.length c ∧ Rw P z w l A
theorem Sl.next {α : Type} {P : World → α → Addr → Prop} {z : Nat} {w w' : World} {l : List α} {v : Value} (hP : ∀ x p, P w x p → P w' x p) (h : Sl P z w l v) : Sl P z w' l v := by
  obtain ⟨A, c, e, h⟩ := h
  exact ⟨A, c, e, h.next hP⟩
theorem Sl.nil {α : Type} (P : World → α → Addr → Prop) (z : Nat) (w : World) : Sl P z w [] (.slice none 0 0) := ⟨none, 0, rfl, .inl rfl⟩
def TyN (w : World) (x : List UInt8) (p : Addr) : Prop := w.cell? p = some (.string (bs x))
def TyI (w : World) (x : Int) (p : Addr) : Prop := w.cell? p = some (.int .i64 x)
mutual
/-- A type at p. -/
def TyA (w : World) : Ty → Addr → Prop
  | .mk k s n e, p => w.cell? p = some (.int .i64 k) ∧ w.cell? (nx1 p 1) = some (.int .i64 s) ∧ w.cell? (nx1 p 2) = some (.string (bs n)) ∧ ∃ A c, w.cell? (nx1 p 3) = some (.slice A e.length c) ∧ TyS w e A
/-- Types, one behind the other. -/
def TyS (w : World) : List Ty → Option Addr → Prop
  | [], _ => True
  | t :: ts, A => ∃ a, A = some a ∧ TyA w t a ∧ TyS w ts (some (a.add 4))
end
mutual
theorem TyA.next {w w' : World} (hb : Below w.heap.size w w') : ∀ (t : Ty) (p : Addr), TyA w t p → TyA w' t p
  | .mk k s n e, p, h => by
    rw [TyA] at h ⊢
    obtain ⟨h0, h1, h2, A, c, h3, h4⟩ := h
    exact ⟨cell_next hb h0, cell_next hb h1, cell_next hb h2, A, c, cell_next hb h3, TyS.next hb e A h4⟩
theorem TyS.next {w w' : World} (hb : Below w.heap.size w w') : ∀ (ts : List Ty) (A : Option Addr), TyS w ts A → TyS w' ts A
  | [], _, _ => by rw [TyS]; trivial
  | t :: ts, A, h => by
    rw [TyS] at h ⊢
    obtain ⟨a, e, h1, h2⟩ := h
    exact ⟨a, e, TyA.next hb t a h1, TyS.next hb ts _ h2⟩
end
theorem TyS.rw_ {w : World} : ∀ {ts : List Ty} {A : Option Addr}, TyS w ts A ↔ Rw TyA 4 w ts A := by
  intro ts
  induction ts with
  | nil => intro A; rw [TyS]; exact ⟨fun _ => .inl rfl, fun _ => trivial⟩
  | cons t ts ih =>
    intro A
    rw [TyS]
    constructor
    · rintro ⟨a, rfl, h1, h2⟩
      refine .inr ⟨a, rfl, fun i hi => ?_⟩
      cases i with
      | zero => rw [Nat.zero_mul]; exact h1
      | succ i =>
        rcases ih.1 h2 with h | ⟨b, e, h⟩
        · subst h; simp at hi
        · cases e
          have := h i (by simpa using hi)
          rw [Addr.add_add] at this
          rw [show (i + 1) * 4 = 4 + i * 4 by omega]
          exact this
    · rintro (h | ⟨a, e, h⟩)
      · cases h
      · refine ⟨a, e, ?_, ih.2 ?_⟩
        · have := h 0 (by simp)
          rw [Nat.zero_mul] at this
          exact this
        · refine .inr ⟨_, rfl, fun i hi => ?_⟩
          have := h (i + 1) (by simpa using hi)
          rw [Addr.add_add, show 4 + i * 4 = (i + 1) * 4 by omega]
          exact this
def Ty.kind : Ty → Int | .mk k _ _ _ => k
def Ty.size : Ty → Int | .mk _ s _ _ => s
def Ty.name : Ty → List UInt8 | .mk _ _ n _ => n
def Ty.elem : Ty → List Ty | .mk _ _ _ e => e
theorem TyA.cells {w : World} {t : Ty} {p : Addr} (h : TyA w t p) : w.cell? p = some (.int .i64 t.kind) ∧ w.cell? (nx1 p 1) = some (.int .i64 t.size) ∧ w.cell? (nx1 p 2) = some (.string (bs t.name)) ∧ ∃ A c, w.cell? (nx1 p 3) = some (.slice A t.elem.length c) ∧ Rw TyA 4 w t.elem A := by
  obtain ⟨k, s, n, e⟩ := t
  rw [TyA] at h
  obtain ⟨h0, h1, h2, A, c, h3, h4⟩ := h
  exact ⟨h0, h1, h2, A, c, h3, TyS.rw_.1 h4⟩
theorem TyA.of {w : World} {t : Ty} {p : Addr} (h0 : w.cell? p = some (.int .i64 t.kind)) (h1 : w.cell? (nx1 p 1) = some (.int .i64 t.size)) (h2 : w.cell? (nx1 p 2) = some (.string (bs t.name))) {A : Option Addr} {c : Nat} (h3 : w.cell? (nx1 p 3) = some (.slice A t.elem.length c)) (h4 : Rw TyA 4 w t.elem A) : TyA w t p := by
  obtain ⟨k, s, n, e⟩ := t
  rw [TyA]
  exact ⟨h0, h1, h2, A, c, h3, TyS.rw_.2 h4⟩
/-- A type as a value. -/
def TyV (w : World) (t : Ty) (v : Value) : Prop := ∃ A c, v = .agg #[.int .i64 t.kind, .int .i64 t.size, .string (bs t.name), .slice A t.elem.length c] ∧ Rw TyA 4 w t.elem A
theorem TyV.next {w w' : World} (hb : Below w.heap.size w w') {t : Ty} {v : Value} (h : TyV w t v) : TyV w' t v := by
  obtain ⟨A, c, e, h⟩ := h
  exact ⟨A, c, e, h.next fun x p => TyA.next hb x p⟩
/-- A field at p. -/
def FdA (w : World) (f : Fd) (p : Addr) : Prop := w.cell? p = some (.int .i64 f.num) ∧ w.cell? (nx1 p 1) = some (.string (bs f.name)) ∧ w.cell? (nx1 p 2) = some (.int .i64 f.type.kind) ∧ w.cell? (nx1 p 3) = some (.int .i64 f.type.size) ∧ w.cell? (nx1 p 4) = some (.string (bs f.type.name)) ∧
  (∃ A c, w.cell? (nx1 p 5) = some (.slice A f.type.elem.length c) ∧ Rw TyA 4 w f.type.elem A) ∧ w.cell? (nx1 p 6) = some (.bool f.opt)
theorem FdA.next {w w' : World} (hb : Below w.heap.size w w') {f : Fd} {p : Addr} (h : FdA w f p) : FdA w' f p := by
  obtain ⟨h0, h1, h2, h3, h4, ⟨A, c, h5, h6⟩, h7⟩ := h
  exact ⟨cell_next hb h0, cell_next hb h1, cell_next hb h2, cell_next hb h3, cell_next hb h4, ⟨A, c, cell_next hb h5, h6.next fun x p => TyA.next hb x p⟩, cell_next hb h7⟩
/-- A field as a value. -/
def FdV (w : World) (f : Fd) (v : Value) : Prop := ∃ A c, v = .agg #[.int .i64 f.num, .string (bs f.name), .int .i64 f.type.kind, .int .i64 f.type.size, .string (bs f.type.name), .slice A f.type.elem.length c, .bool f.opt] ∧ Rw TyA 4 w f.type.elem A
theorem FdV.next {w w' : World} (hb : Below w.heap.size w w') {t : Fd} {v : Value} (h : FdV w t v) : FdV w' t v := by
  obtain ⟨A, c, e, h⟩ := h
  exact ⟨A, c, e, h.next fun x p => TyA.next hb x p⟩
/-- A struct at p, and as a value. -/
def StA (w : World) (t : St) (p : Addr) : Prop := w.cell? p = some (.string (bs t.name)) ∧ ∃ A c, w.cell? (nx1 p 1) = some (.slice A t.fields.length c) ∧ Rw FdA 7 w t.fields A
def StV (w : World) (t : St) (v : Value) : Prop := ∃ A c, v = .agg #[.string (bs t.name), .slice A t.fields.length c] ∧ Rw FdA 7 w t.fields A
theorem StA.next {w w' : World} (hb : Below w.heap.size w w') {t : St} {p : Addr} (h : StA w t p) : StA w' t p := by
  obtain ⟨h0, A, c, h1, h2⟩ := h
  exact ⟨cell_next hb h0, A, c, cell_next hb h1, h2.next fun _ _ => FdA.next hb⟩
theorem StV.next {w w' : World} (hb : Below w.heap.size w w') {t : St} {v : Value} (h : StV w t v) : StV w' t v := by
  obtain ⟨A, c, e, h⟩ := h
  exact ⟨A, c, e, h.next fun _ _ => FdA.next hb⟩
/-- An enumeration at p, and as a value. -/
def EnA (w : World) (x : En) (p : Addr) : Prop := w.cell? p = some (.string (bs x.name)) ∧ (∃ A c, w.cell? (nx1 p 1) = some (.slice A x.names.length c) ∧ Rw TyN 1 w x.names A) ∧ ∃ A c, w.cell? (nx1 p 2) = some (.slice A x.nums.length c) ∧ Rw TyI 1 w x.nums A
def EnV (w : World) (x : En) (v : Value) : Prop := ∃ A c A2 c2, v = .agg #[.string (bs x.name), .slice A x.names.length c, .slice A2 x.nums.length c2] ∧ Rw TyN 1 w x.names A ∧ Rw TyI 1 w x.nums A2
theorem TyN.next {w w' : World} (hb : Below w.heap.size w w') {t : List UInt8} {p : Addr} (h : TyN w t p) : TyN w' t p := cell_next hb h
theorem TyI.next {w w' : World} (hb : Below w.heap.size w w') {t : Int} {p : Addr} (h : TyI w t p) : TyI w' t p := cell_next hb h
theorem EnA.next {w w' : World} (hb : Below w.heap.size w w') {t : En} {p : Addr} (h : EnA w t p) : EnA w' t p := by
  obtain ⟨h0, ⟨A, c, h1, h2⟩, A2, c2, h3, h4⟩ := h
  exact ⟨cell_next hb h0, ⟨A, c, cell_next hb h1, h2.next fun _ _ => TyN.next hb⟩, A2, c2, cell_next hb h3, h4.next fun _ _ => TyI.next hb⟩
theorem EnV.next {w w' : World} (hb : Below w.heap.size w w') {t : En} {v : Value} (h : EnV w t v) : EnV w' t v := by
  obtain ⟨A, c, A2, c2, e, h, h2⟩ := h
  exact ⟨A, c, A2, c2, e, h.next fun _ _ => TyN.next hb, h2.next fun _ _ => TyI.next hb⟩
/-- A schema, and as a value. -/
structure Sch where
  ver : Int
  enums : List En
  structs : List St
structure Sc (w : World) (S : Sch) (A : Option Addr) (A2 : Option Addr) : Prop where
  en : Rw EnA 3 w S.enums A
  st : Rw StA 2 w S.structs A2
theorem Sc.next {w w' : World} (hb : Below w.heap.size w w') {S : Sch} {A A2 : Option Addr} (h : Sc w S A A2) : Sc w' S A A2 :=
  ⟨h.en.next fun _ _ => EnA.next hb, h.st.next fun _ _ => StA.next hb⟩
def ScV (w : World) (S : Sch) (v : Value) : Prop := ∃ A c A2 c2, v = .agg #[.int .i64 S.ver, .slice A S.enums.length c, .slice A2 S.structs.length c2] ∧ Sc w S A A2
theorem ScV.next {w w' : World} (hb : Below w.heap.size w w') {t : Sch} {v : Value} (h : ScV w t v) : ScV w' t v := by
  obtain ⟨A, c, A2, c2, e, h⟩ := h
  exact ⟨A, c, A2, c2, e, h.next hb⟩
theorem StA.val {w : World} {t : St} {p : Addr} (h : StA w t p) : ∃ A c, w.cell? p = some (.string (bs t.name)) ∧ w.cell? (nx1 p 1) = some (.slice A t.fields.length c) ∧ StV w t (.agg #[.string (bs t.name), .slice A t.fields.length c]) := by
  obtain ⟨h0, A, c, h1, h2⟩ := h
  exact ⟨A, c, h0, h1, A, c, rfl, h2⟩
theorem EnA.val {w : World} {t : En} {p : Addr} (h : EnA w t p) : ∃ A c A2 c2, w.cell? p = some (.string (bs t.name)) ∧ w.cell? (nx1 p 1) = some (.slice A t.names.length c) ∧ w.cell? (nx1 p 2) = some (.slice A2 t.nums.length c2) ∧ EnV w t (.agg #[.string (bs t.name), .slice A t.names.length c, .slice A2 t.nums.length c2]) := by
  obtain ⟨h0, ⟨A, c, h1, h2⟩, A2, c2, h3, h4⟩ := h
  exact ⟨A, c, A2, c2, h0, h1, h3, A, c, A2, c2, rfl, h2, h4⟩
theorem TyA.val {w : World} {t : Ty} {p : Addr} (h : TyA w t p) : ∃ A c, w.cell? p = some (.int .i64 t.kind) ∧ w.cell? (nx1 p 1) = some (.int .i64 t.size) ∧ w.cell? (nx1 p 2) = some (.string (bs t.name)) ∧ w.cell? (nx1 p 3) = some (.slice A t.elem.length c) ∧ TyV w t (.agg #[.int .i64 t.kind, .int .i64 t.size, .string (bs t.name), .slice A t.elem.length c]) := by
  obtain ⟨h0, h1, h2, A, c, h3, h4⟩ := h.cells
  exact ⟨A, c, h0, h1, h2, h3, A, c, rfl, h4⟩
theorem FdA.val {w : World} {f : Fd} {p : Addr} (h : FdA w f p) : ∃ A c, w.cell? p = some (.int .i64 f.num) ∧ w.cell? (nx1 p 1) = some (.string (bs f.name)) ∧ w.cell? (nx1 p 2) = some (.int .i64 f.type.kind) ∧ w.cell? (nx1 p 3) = some (.int .i64 f.type.size) ∧ w.cell? (nx1 p 4) = some (.string (bs f.type.name)) ∧ w.cell? (nx1 p 5) = some (.slice A f.type.elem.length c) ∧ w.cell? (nx1 p 6) = some (.bool f.opt) ∧
    FdV w f (.agg #[.int .i64 f.num, .string (bs f.name), .int .i64 f.type.kind, .int .i64 f.type.size, .string (bs f.type.name), .slice A f.type.elem.length c, .bool f.opt]) ∧ TyV w f.type (.agg #[.int .i64 f.type.kind, .int .i64 f.type.size, .string (bs f.type.name), .slice A f.type.elem.length c]) := by
  obtain ⟨h0, h1, h2, h3, h4, ⟨A, c, h5, h6⟩, h7⟩ := h
  exact ⟨A, c, h0, h1, h2, h3, h4, h5, h7, ⟨A, c, rfl, h6⟩, A, c, rfl, h6⟩
end Go.Proofs.YthfodpbecddheaaGreatDoor
/-
  A region whose order Go leaves open, with one new variable that is stored into once. No conditions beyond those that it names.
-/
namespace Go.Proofs.YthfodpbecddheaaGreatDoor
open Go.RowKit
/-- All edges go back. -/
def backOk (ops : Array Oper) : Bool := (List.range ops.size).all fun i => match ops[i]? with
  | none => true
  | some o => o.after.all fun e => !Region.binds .any e || decide (e.on < i)
theorem backOk_at {ops : Array Oper} (h : backOk ops = true) {i : Nat} {o : Oper} (ho : ops[i]? = some o) : ∀ e ∈ o.after, Region.binds .any e = true → e.on < i := by
  have hi : i < ops.size := (Array.getElem?_eq_some_iff.1 ho).1
  have h1 := List.all_eq_true.1 h i (List.mem_range.2 hi)
  simp only [ho] at h1
  intro e he hb
  have := Array.all_eq_true_iff_forall_mem.1 h1 e he
  simpa [hb] using this
theorem all_listed_back {ops : Array Oper} (hok : backOk ops = true) {listed : Array Bool} (hl : listed.size = ops.size) (hr : Region.ready .any ops listed = []) : ∀ i, i < ops.size → listed.getD i false = true := by
  intro i
  induction i using Nat.strongRecOn with
  | _ i ih =>
    intro hi
    cases hg : listed.getD i false with
    | true => rfl
    | false =>
      exfalso
      have hmem : i ∈ Region.ready .any ops listed := by
        refine mem_ready.2 ⟨?_, ops[i], Array.getElem?_eq_getElem hi, fun e he hb => ?_⟩
        · rw [Array.getD_eq_getD_getElem?, Array.getElem?_eq_getElem (by omega)] at hg ⊢
          exact hg
        · have := backOk_at hok (Array.getElem?_eq_getElem hi) e he hb
          exact ih e.on this (by omega)
      rw [hr] at hmem
      cases hmem
section
variable {ops : Array Oper} {Q : Exit → Act → World → Prop}
theorem wpAny_inv (hok : backOk ops = true) (I : Array Bool → Act → World → Prop)
    (hstep : ∀ i o listed a w, ops[i]? = some o → listed.size = ops.size → listed.getD i false = false → (∀ e ∈ o.after, Region.binds .any e = true → listed.getD e.on false = true) → I listed a w →
      ∀ K : Act → World → Prop, (∀ a' w', I (listed.setIfInBounds i true) a' w' → K a' w') → (if Region.wanted o (yielded ops a.tmps) = true then Oper.wp Tryz.prog o a w K Q else K (a.put o.dst undef) w))
    (hend : ∀ listed a w, listed.size = ops.size → (∀ i, i < ops.size → listed.getD i false = true) → I listed a w → Q .normal a w) :
    ∀ (fuel : Nat) (listed : Array Bool) (a : Act) (w : World), listed.size = ops.size → I listed a w → left_ listed ops.size ≤ fuel → wpAny Tryz.prog .any ops Q fuel listed a w := by
  have hfin : ∀ (listed : Array Bool) (a : Act) (w : World), listed.size = ops.size → I listed a w → Region.ready .any ops listed = [] → Q .normal a w := fun listed a w hs h hr =>
    hend listed a w hs (all_listed_back hok hs hr) h
  intro fuel
  induction fuel with
  | zero =>
    intro listed a w hs h hl
    have hr : Region.ready .any ops listed = [] := by
      cases hr : Region.ready .any ops listed with
      | nil => rfl
      | cons i rs =>
        exfalso
        have hm : i ∈ Region.ready .any ops listed := by rw [hr]; simp
        obtain ⟨h1, o, ho, _⟩ := mem_ready.1 hm
        have := left_step (Array.getElem?_eq_some_iff.1 ho).1 hs h1
        omega
    exact ⟨hr, hfin listed a w hs h hr⟩
  | succ fuel ih =>
    intro listed a w hs h hl
    refine ⟨hfin listed a w hs h, fun i hi => ?_⟩
    obtain ⟨h1, o, ho, hedges⟩ := mem_ready.1 hi
    have hlt : i < ops.size := (Array.getElem?_eq_some_iff.1 ho).1
    refine wpOp_step ho fun K' hK => hstep i o listed a w ho hs (flip_getD (b := true) h1 false) hedges h K' fun a' w' h' => hK _ _ (ih _ _ _ (by simpa using hs) h' ?_)
    have := left_step hlt hs h1
    omega
end
/-- **A region whose order Go leaves open**: what each operation keeps, whichever comes when, holds behind it. -/
theorem wp_region_inv {Q : Exit → Act → World → Prop} {id : Nat} {l : List Oper} {a : Act} {w : World} (hm : Tryz.prog.follows .mixedOrders = true) (hok : backOk l.toArray = true) (I : Array Bool → Act → World → Prop)
    (h0 : I (Array.replicate l.length false) a w.drew)
    (hstep : ∀ i o listed a w, l.toArray[i]? = some o → listed.size = l.toArray.size → listed.getD i false = false → (∀ e ∈ o.after, Region.binds .any e = true → listed.getD e.on false = true) → I listed a w →
      ∀ K : Act → World → Prop, (∀ a' w', I (listed.setIfInBounds i true) a' w' → K a' w') → (if Region.wanted o (yielded l.toArray a.tmps) = true then Oper.wp Tryz.prog o a w K Q else K (a.put o.dst undef) w))
    (hend : ∀ listed a w, listed.size = l.toArray.size → (∀ i, i < l.toArray.size → listed.getD i false = true) → I listed a w → Q .normal a w) : (Code.region id l.toArray true).wp Tryz.prog Q a w := by
  refine wp_region_any hm (wpAny_inv hok I hstep hend _ _ _ _ (by simp) (by simpa using h0) ?_)
  unfold left_
  exact Nat.le_trans (List.length_filter_le _ _) (by simp)

/-- A fact that a store into newer memory leaves as it is. -/
def Fact.SoftG (F : Fact) (g : Nat) : Prop := ∀ v w w' b, F.holds v w → g ≤ w.heap.size → g ≤ b → w.grownBy w' (some b) → F.holds v w'
def ptr0 (b : Nat) : Value := .pointer (some ⟨b, 0, none⟩)
section
variable (ops : Array Oper) (F : Nat → Fact) (base : List Nat) (N : Nat) (g : Nat) (p k : Nat) (zs vs : List Value)
structure XInv (a0 : Act) (w0 : World) (listed : Array Bool) (a : Act) (w : World) : Prop where
  tsize : a.tmps.size = N
  defers : a.defers = a0.defers
  base : ∀ t ∈ base, (F t).holds (a.tmps.getD t undef) w
  done : ∀ (i t : Nat), listed.getD i false = true → (ops[i]?).bind Oper.dst = some t → (F t).holds (a.tmps.getD t undef) w
  other : ∀ (t : Nat), (∀ (i : Nat), (ops[i]?).bind Oper.dst ≠ some t) → a.tmps.getD t undef = a0.tmps.getD t undef
  below : Below g w0 w
  gle : g ≤ w.heap.size
  made : ∀ i, listed.getD i false = true → (ops[i]?).bind Oper.dst = some p → ∃ b, a.tmps.getD p undef = ptr0 b ∧ g ≤ b ∧ (listed.getD k false = false → Bx w b zs) ∧ (listed.getD k false = true → Bx w b vs)
  closed : ∀ i o, ops[i]? = some o → listed.getD i false = true → ∀ e ∈ o.after, Region.binds .any e = true → listed.getD e.on false = true
/-- What an operation of such a region must show. -/
inductive XOb (f : Nat) (Q : Exit → Act → World → Prop) (i : Nat) (o : Oper) : Prop
  | plain (h : Ob ops Q F base N o) (hp : o.dst ≠ some p) (hk : i ≠ k) : XOb f Q i o
  | alloc (hd : o.dst = some p) (hg : o.guard = none) (hF : F p = Fact.any) (hk : i ≠ k) (hrun : ∀ (a : Act) (w : World), ∃ w', (execOp a.eval o).run Tryz.prog w = .ok (.value (ptr0 w.heap.size)) w' ∧ Below w.heap.size w w' ∧ Bx w' w.heap.size zs) : XOb f Q i o
  | store (hi : i = k) (hd : o.dst = none) (hg : o.guard = none) (hkn : known ops [] o p = true) (hk2 : known ops base o f = true)
      (hrun : ∀ (a : Act) (w : World) (b : Nat), a.tmps.getD p undef = ptr0 b → Bx w b zs → (F f).holds (a.tmps.getD f undef) w → ∃ w', (execOp a.eval o).run Tryz.prog w = .ok .skip w' ∧ w.grownBy w' (some b) ∧ Bx w' b vs) : XOb f Q i o
end
section
variable {ops : Array Oper} {Q : Exit → Act → World → Prop} {F : Nat → Fact} {base : List Nat} {N g : Nat} {p k f : Nat} {zs vs : List Value}
theorem XInv.closed' {a0 : Act} {w0 : World} {listed : Array Bool} {a : Act} {w : World} (h : XInv ops F base N g p k zs vs a0 w0 listed a w) (hs : listed.size = ops.size) {i : Nat} {o : Oper} (ho : ops[i]? = some o)
    (he : ∀ e ∈ o.after, Region.binds .any e = true → listed.getD e.on false = true) : ∀ j o', ops[j]? = some o' → (listed.setIfInBounds i true).getD j false = true → ∀ e ∈ o'.after, Region.binds .any e = true → (listed.setIfInBounds i true).getD e.on false = true := by
  have hlt : i < listed.size := by rw [hs]; exact (Array.getElem?_eq_some_iff.1 ho).1
  intro j o' ho' hl e hm hb
  rw [listed_set hlt] at hl ⊢
  rcases hl with rfl | hl
  · rw [ho] at ho'
    injection ho' with ho'
    subst ho'
    exact .inr (he e hm hb)
  · exact .inr (h.closed j o' ho' hl e hm hb)
theorem known_opX {o : Oper} {t : Nat} (hk : known ops [] o t = true) : ∃ e ∈ o.after, Region.binds .any e = true ∧ (ops[e.on]?).bind Oper.dst = some t := by
  unfold known at hk
  simp only [List.contains_nil, Bool.false_or] at hk
  obtain ⟨e, he, h⟩ := Array.any_eq_true'.1 hk
  simp only [Bool.and_eq_true, beq_iff_eq] at h
  exact ⟨e, he, h.1, h.2⟩
theorem XInv.step (hok : formOk ops base N = true) (hsoft : ∀ t, (F t).SoftG g) (hobs : ∀ j o', ops[j]? = some o' → XOb ops F base N p k zs vs f Q j o') {a0 : Act} {w0 : World} {listed : Array Bool} {a : Act} {w : World} (h : XInv ops F base N g p k zs vs a0 w0 listed a w) (hs : listed.size = ops.size) {i : Nat} {o : Oper} (ho : ops[i]? = some o)
    (hl0 : listed.getD i false = false) (he : ∀ e ∈ o.after, Region.binds .any e = true → listed.getD e.on false = true) (K : Act → World → Prop) (hK : ∀ a' w', XInv ops F base N g p k zs vs a0 w0 (listed.setIfInBounds i true) a' w' → K a' w') :
    (if Region.wanted o (yielded ops a.tmps) = true then Oper.wp Tryz.prog o a w K Q else K (a.put o.dst undef) w) := by
  have hdone : ∀ e ∈ o.after, Region.binds .any e = true → ∀ t, (ops[e.on]?).bind Oper.dst = some t → (F t).holds (a.tmps.getD t undef) w := fun e hm hb t ht => h.done e.on t (he e hm hb) ht
  have hlt : i < listed.size := by rw [hs]; exact (Array.getElem?_eq_some_iff.1 ho).1
  obtain ⟨_, hd⟩ := formOk_at hok ho
  cases hobs i o ho with
  | plain hob hp hk =>
    refine hob a w K h.tsize h.base hdone fun v w' hb hF => hK _ _ ?_
    refine ⟨?_, ?_, fun t ht => ?_, fun j t hj hjt => ?_, fun t ht => ?_, h.below.trans (hb.mono h.gle), Nat.le_trans h.gle hb.size, fun j hj hjd => ?_, h.closed' hs ho he⟩
    · cases o.dst <;> simpa [Act.put] using h.tsize
    · cases o.dst <;> simpa [Act.put] using h.defers
    · rw [getD_put_other (fun e => (hd t e).2.1 ht)]
      exact (F t).stable _ _ _ (h.base t ht) hb
    · by_cases hji : j = i
      · subst hji
        rw [ho] at hjt
        have hjt' : o.dst = some t := hjt
        rw [hjt', getD_put_same (by rw [h.tsize]; exact (hd t hjt').1)]
        exact hF t hjt'
      · have hl : listed.getD j false = true := ((listed_set hlt).1 hj).resolve_left hji
        rw [getD_put_other (fun e => (hd t e).2.2 j hji hjt)]
        exact (F t).stable _ _ _ (h.done j t hl hjt) hb
    · rw [getD_put_other (fun e => ht i (by rw [ho]; exact e))]
      exact h.other t ht
    · have hj' : listed.getD j false = true := ((listed_set hlt).1 hj).resolve_left (by
        rintro rfl
        rw [ho] at hjd
        exact hp hjd)
      obtain ⟨b, h1, h2, h3, h4⟩ := h.made j hj' hjd
      have hkk : (listed.setIfInBounds i true).getD k false = listed.getD k false := by
        have := listed_set (j := k) hlt
        cases hx : listed.getD k false
        · rw [Bool.eq_false_iff]
          intro hc
          rcases this.1 hc with e | e
          · exact hk e.symm
          · rw [hx] at e; cases e
        · exact this.2 (.inr hx)
      rw [hkk]
      exact ⟨b, by rw [getD_put_other hp]; exact h1, h2, fun hl => (h3 hl).next hb, fun hl => (h4 hl).next hb⟩
  | alloc hds hg hF hk hrun =>
    obtain ⟨w', hr, hb, hx⟩ := hrun a w
    rw [if_pos (by simp [Region.wanted, hg])]
    unfold Oper.wp
    rw [hr]
    have hps := (hd p hds)
    have hput : (a.put o.dst (ptr0 w.heap.size)).tmps.getD p undef = ptr0 w.heap.size := by
      rw [hds, getD_put_same (by rw [h.tsize]; exact hps.1)]
    have hold : ∀ t, t ≠ p → (a.put o.dst (ptr0 w.heap.size)).tmps.getD t undef = a.tmps.getD t undef := fun t ht => getD_put_other (by rw [hds]; intro e; injection e with e; exact ht e.symm)
    have hnk : listed.getD k false = false := by
      cases hc : listed.getD k false with
      | false => rfl
      | true =>
        exfalso
        have hlt2 : k < ops.size := by
          rcases Nat.lt_or_ge k listed.size with h1 | h1
          · rw [← hs]; exact h1
          · rw [Array.getD_eq_getD_getElem?, Array.getElem?_eq_none h1] at hc; cases hc
        have ho' : ops[k]? = some ops[k] := Array.getElem?_eq_getElem hlt2
        cases hobs k _ ho' with
        | plain _ _ h2 => exact h2 rfl
        | alloc _ _ _ h2 => exact h2 rfl
        | store _ _ _ hkn _ _ =>
          obtain ⟨e, hem, hb', hdst⟩ := known_opX hkn
          have h4 := h.closed _ _ ho' hc e hem hb'
          have h5 : e.on = i := by
            by_cases h6 : e.on = i
            · exact h6
            · exact absurd hdst (hps.2.2 e.on h6)
          rw [h5, hl0] at h4
          cases h4
    have hnk2 : (listed.setIfInBounds i true).getD k false = false := by
      rw [Bool.eq_false_iff]
      intro hc
      rcases (listed_set hlt).1 hc with e | e
      · exact hk e.symm
      · rw [hnk] at e; cases e
    refine hK _ _ ⟨?_, ?_, fun t ht => ?_, fun j t hj hjt => ?_, fun t ht => ?_, h.below.trans (hb.mono h.gle), Nat.le_trans h.gle hb.size, fun j hj hjd => ?_, h.closed' hs ho he⟩
    · cases o.dst <;> simpa [Act.put] using h.tsize
    · cases o.dst <;> simpa [Act.put] using h.defers
    · rw [hold t (fun e => hps.2.1 (e ▸ ht))]
      exact (F t).stable _ _ _ (h.base t ht) hb
    · by_cases hts : t = p
      · subst hts
        rw [hF]
        trivial
      · rw [hold t hts]
        refine (F t).stable _ _ _ (h.done j t (((listed_set hlt).1 hj).resolve_left ?_) hjt) hb
        rintro rfl
        rw [ho] at hjt
        exact hts (by have h5 : o.dst = some t := hjt; rw [hds] at h5; injection h5 with h5; exact h5.symm)
    · rw [hold t (by rintro rfl; exact ht i (by rw [ho]; exact hds))]
      exact h.other t ht
    · exact ⟨w.heap.size, hput, h.gle, fun _ => hx, fun hl => by rw [hnk2] at hl; cases hl⟩
  | store hi hd0 hg hkn hk2 hrun =>
    have hlk : listed.getD k false = false := by rw [← hi]; exact hl0
    rw [if_pos (by simp [Region.wanted, hg])]
    obtain ⟨e, hem, heb, hed⟩ := known_opX hkn
    obtain ⟨b, h1, h2, h3, _⟩ := h.made e.on (he e hem heb) hed
    have hf := known_fact h.base hdone hk2
    obtain ⟨w', hr, hgw, hx⟩ := hrun a w b h1 (h3 hlk) hf
    unfold Oper.wp
    rw [hr]
    have hput : a.put o.dst undef = a := by rw [hd0]; rfl
    show K (a.put o.dst undef) _
    rw [hput]
    have hold : ∀ m d, (listed.setIfInBounds i true).getD m false = true → (ops[m]?).bind Oper.dst = some d → listed.getD m false = true := fun m d hm hmd => ((listed_set hlt).1 hm).resolve_left (by
      rintro rfl
      rw [ho] at hmd
      have h5 : o.dst = some d := hmd
      rw [hd0] at h5; cases h5)
    have hii : (listed.setIfInBounds i true).getD k false = true := (listed_set hlt).2 (.inl hi.symm)
    exact hK _ _ ⟨h.tsize, h.defers, fun t ht => hsoft t _ _ _ _ (h.base t ht) h.gle h2 hgw, fun m t hm hmt => hsoft t _ _ _ _ (h.done m t (hold m t hm hmt) hmt) h.gle h2 hgw, h.other, h.below.grown hgw h.gle (fun j hj => by cases hj; exact h2), Nat.le_trans h.gle hgw.size, fun m hm hmd => ⟨b, h1, h2, fun hl => (by rw [hii] at hl; cases hl), fun _ => hx⟩, h.closed' hs ho he⟩
end
/-- **A region that makes one new variable and stores into it once**, whatever its order, and what comes behind it. -/
theorem wp_region_box {Q : Exit → Act → World → Prop} {id : Nat} {l : List Oper} {a : Act} {w : World} (hm : Tryz.prog.follows .mixedOrders = true) (F : Nat → Fact) (base : List Nat) (N : Nat) (p k f : Nat) (zs vs : List Value) (ds : List Nat) (hN : a.tmps.size = N) (hok : formOk l.toArray base N = true) (hback : backOk l.toArray = true) (hds : dstsOk l ds = true) (hpk : (ds.contains p && decide (k < l.length)) = true)
    (hsoft : ∀ t, (F t).SoftG w.heap.size) (hbase : ∀ t ∈ base, (F t).holds (a.tmps.getD t undef) w) (hstep : ∀ q ∈ l.zipIdx, XOb l.toArray F base N p k zs vs f Q q.2 q.1)
    (hend : ∀ (v : Nat → Value) w', (∀ t ∈ ds, (F t).holds (v t) w') → (∃ b, v p = ptr0 b ∧ w.heap.size ≤ b ∧ Bx w' b vs) → Below w.heap.size w w' → Q .normal { tmps := lay a.tmps ds v, defers := a.defers } w') : (Code.region id l.toArray true).wp Tryz.prog Q a w := by
  have hobs : ∀ j o', l.toArray[j]? = some o' → XOb l.toArray F base N p k zs vs f Q j o' := fun j o' h => by
    rw [List.getElem?_toArray] at h
    exact hstep (o', j) (List.mem_of_getElem? (i := j) (by rw [List.getElem?_zipIdx, h]; simp))
  have hnone : ∀ i, (Array.replicate l.length false).getD i false = true → False := fun i hi => by
    rw [Array.getD_eq_getD_getElem?, Array.getElem?_replicate] at hi
    split at hi <;> simp at hi
  simp only [Bool.and_eq_true, decide_eq_true_eq] at hpk
  refine wp_region_inv hm hback (XInv l.toArray F base N w.heap.size p k zs vs a w) ?_ (fun i o listed a' w' ho hs hl0 he h K hK => h.step hok hsoft hobs hs ho hl0 he K hK) fun listed a' w' hs hl h => ?_
  · exact ⟨hN, rfl, fun t ht => (F t).stable _ _ _ (hbase t ht) (Below.refl _ _).drew, fun i _ hi _ => (hnone i hi).elim, fun _ _ => rfl, (Below.refl _ _).drew, Nat.le_refl _, fun i hi _ => (hnone i hi).elim, fun i _ _ hi => (hnone i hi).elim⟩
  · have hw : ∀ t ∈ ds, ∃ i, listed.getD i false = true ∧ (l.toArray[i]?).bind Oper.dst = some t := fun t ht => by
      have h1 := hds
      simp only [dstsOk, Bool.and_eq_true] at h1
      have h2 := List.any_eq_true.1 (List.all_eq_true.1 h1.2 t ht)
      obtain ⟨o, ho, hd⟩ := h2
      obtain ⟨i, hi⟩ := List.getElem?_of_mem ho
      have hlt : i < l.toArray.size := by simpa using (List.getElem?_eq_some_iff.1 hi).1
      exact ⟨i, hl i hlt, by rw [List.getElem?_toArray, hi]; exact (by simpa using hd)⟩
    have hq := hend (fun t => a'.tmps.getD t undef) w' (fun t ht => by
      obtain ⟨i, hi, hd⟩ := hw t ht
      exact h.done i t hi hd) (by
      obtain ⟨i, hi, hd⟩ := hw p (by simpa using hpk.1)
      obtain ⟨b, h1, h2, _, h4⟩ := h.made i hi hd
      exact ⟨b, h1, h2, h4 (hl k (by simpa using hpk.2))⟩) h.below
    have heq : a' = { tmps := lay a.tmps ds fun t => a'.tmps.getD t undef, defers := a.defers } := by
      have hoth := h.other
      have hsz := h.tsize
      have hdef := h.defers
      clear hq hw h hs hl hobs hstep hend hbase
      obtain ⟨ts, df⟩ := a'
      have hdef' : df = a.defers := hdef
      subst hdef'
      congr 1
      have hsz' : ts.size = N := hsz
      refine Array.ext_getElem? fun t => ?_
      rcases Nat.lt_or_ge t N with hlt | hge
      · by_cases htd : t ∈ ds
        · rw [lay_at ds _ _ t htd (by omega), Array.getD_eq_getD_getElem?, Array.getElem?_eq_getElem (by omega)]; rfl
        · rw [lay_other ds _ _ t htd]
          have := hoth t fun i hi => by
            have h1 := hds
            simp only [dstsOk, Bool.and_eq_true] at h1
            rw [List.getElem?_toArray] at hi
            cases hl : l[i]? with
            | none => rw [hl] at hi; cases hi
            | some o =>
              rw [hl] at hi
              have h2 := List.all_eq_true.1 h1.1 o (List.mem_of_getElem? hl)
              have h3 : o.dst = some t := hi
              rw [h3] at h2
              exact htd (by simpa using h2)
          have h2 : ts.getD t undef = a.tmps.getD t undef := this
          rw [Array.getD_eq_getD_getElem?, Array.getD_eq_getD_getElem?, Array.getElem?_eq_getElem (by omega), Array.getElem?_eq_getElem (by omega)] at h2
          rw [Array.getElem?_eq_getElem (by omega), Array.getElem?_eq_getElem (by omega)]
          exact congrArg some h2
      · rw [Array.getElem?_eq_none (by omega), Array.getElem?_eq_none (by rw [lay_size]; omega)]
    rw [heq]
    exact hq
theorem at_soft (W0 : World) (u : Value) : (Fact.at_ W0 u).SoftG W0.heap.size := fun _ w _ _ ⟨h1, h2⟩ hg hb hgr => ⟨h1, h2.grown hgr hg (fun j hj => by cases hj; exact hb)⟩
theorem FF_soft {ks : List (Nat × Fact)} {g : Nat} (h : ∀ q ∈ ks, q.2.SoftG g) (t : Nat) : (FF ks t).SoftG g := by
  unfold FF
  cases e : ks.lookup t with
  | none => exact fun _ _ _ _ _ _ _ _ => trivial
  | some F =>
    have : (t, F) ∈ ks := by
      clear h
      induction ks with
      | nil => cases e
      | cons q ks ih =>
        obtain ⟨s, G⟩ := q
        rw [List.lookup_cons] at e
        cases hs : t == s with
        | true => rw [hs] at e; injection e with e; subst e; rw [show s = t from (by simpa using hs : t = s).symm]; exact List.mem_cons_self ..
        | false => rw [hs] at e; exact List.mem_cons_of_mem _ (ih e)
    exact h _ this
theorem Bx.put1 {w : World} {b : Nat} {vs : List Value} (h : Bx w b vs) (j : Nat) (v : Value) : Bx (w.setCell ⟨b, j, none⟩ v) b (vs.set j v) := by
  refine ⟨by simp; exact h.lt, fun i u e => ?_⟩
  have fr : (w.setCell ⟨b, j, none⟩ v).frozen? ⟨b, i, none⟩ = w.frozen? ⟨b, i, none⟩ := by simp
  rw [fr]
  by_cases hij : j = i
  · subst hij
    have hl : j < vs.length := by
      have := (List.getElem?_eq_some_iff.1 e).1
      simpa using this
    rw [List.getElem?_set_self hl] at e
    cases e
    have h1 := h.at_ j _ (List.getElem?_eq_getElem hl)
    exact ⟨World.cell?_setCell_same (h := h1.1) .., h1.2⟩
  · rw [List.getElem?_set_ne hij] at e
    have nn : (⟨b, j, none⟩ : Addr) ≠ ⟨b, i, none⟩ := fun e => hij (by injection e)
    exact ⟨(World.cell?_setCell_other (h := nn) ..).trans (h.at_ i u e).1, (h.at_ i u e).2⟩
theorem Bx.put3 {w : World} {b : Nat} {x y z : Value} (h : Bx w b [x, y, z]) (x' y' z' : Value) : Bx (((w.setCell ⟨b, 0, none⟩ x').setCell ⟨b, 1, none⟩ y').setCell ⟨b, 2, none⟩ z') b [x', y', z'] := ((h.put1 0 x').put1 1 y').put1 2 z'
theorem gb_set1 (w : World) (p : Addr) (u : Value) : w.grownBy (w.setCell p u) (some p.block) :=
  have b := Below.setCell (Below.refl 0 w) (Nat.zero_le p.block) u
  ⟨b.os, b.tape, b.output, b.size, fun i _ hne => Below.heap_setCell w p u i (fun e => hne (by rw [e]))⟩
theorem gb_set2 (w : World) (b : Nat) (x y : Value) : w.grownBy ((w.setCell ⟨b, 0, none⟩ x).setCell ⟨b, 1, none⟩ y) (some b) := (gb_set1 w ⟨b, 0, none⟩ x).trans (gb_set1 _ ⟨b, 1, none⟩ y)
theorem gb_set3 (w : World) (b : Nat) (x y z : Value) : w.grownBy (((w.setCell ⟨b, 0, none⟩ x).setCell ⟨b, 1, none⟩ y).setCell ⟨b, 2, none⟩ z) (some b) := (gb_set2 w b x y).trans (gb_set1 _ ⟨b, 2, none⟩ z)
end Go.Proofs.YthfodpbecddheaaGreatDoor
/-
  The reference's looking up by name and by number. No conditions beyond those that each names.
-/
namespace Go.Proofs.YthfodpbecddheaaGreatDoor
open Go.RowKit
theorem fst_at {α β : Type} [DecidableEq β] {key : α → β} : ∀ {l : List α} {k : Nat} (h : k < l.length) {b : β}, (∀ j (hj : j < l.length), j < k → key (l[j]'hj) ≠ b) → key (l[k]'h) = b → fst_ key l b = some (l[k]'h)
  | a :: l, 0, h, b, _, e => by
    rw [fst_cons, if_pos (by simpa using e)]
    rfl
  | a :: l, k + 1, h, b, hn, e => by
    have h0 : key a ≠ b := hn 0 (by simp) (by omega)
    rw [fst_cons, if_neg h0]
    have := fst_at (key := key) (l := l) (k := k) (by simpa using h) (b := b) (fun j hj hjk => by have := hn (j + 1) (by simpa using hj) (by omega); simpa using this) (by simpa using e)
    simpa using this
theorem fst_end {α β : Type} [DecidableEq β] {key : α → β} {l : List α} {b : β} (hn : ∀ j (hj : j < l.length), key (l[j]'hj) ≠ b) : fst_ key l b = none :=
  fst_none.2 fun a ha => by
    obtain ⟨j, hj, rfl⟩ := List.mem_iff_getElem.1 ha
    exact hn j hj
def st0 : St := ⟨[], []⟩
def en0 : En := ⟨[], [], []⟩
theorem StV.zero (w : World) : StV w st0 (.agg #[.string ⟨#[]⟩, .slice none 0 0]) := ⟨none, 0, rfl, .inl rfl⟩
theorem EnV.zero (w : World) : EnV w en0 (.agg #[.string ⟨#[]⟩, .slice none 0 0, .slice none 0 0]) := ⟨none, 0, none, 0, rfl, .inl rfl, .inl rfl⟩
/-- The first struct with a name, as a function returns it. -/
def StO (o : Option St) (w : World) (e : Ending) (w' : World) : Prop := ∃ v, e = .returned (.tuple #[v, .bool o.isSome]) ∧ StV w' (o.getD st0) v ∧ Below w.heap.size w w'
def EnO (o : Option En) (w : World) (e : Ending) (w' : World) : Prop := ∃ v, e = .returned (.tuple #[v, .bool o.isSome]) ∧ EnV w' (o.getD en0) v ∧ Below w.heap.size w w'
theorem sq_t (x : List UInt8) : ((bs x).toList == (bs x).toList) = true := by simp
theorem sq_f {x y : List UInt8} (h : x ≠ y) : ((bs x).toList == (bs y).toList) = false := by
  rw [toList_bs, toList_bs]; simpa using h
theorem sn_t (x : List UInt8) : ((bs x).toList != (bs x).toList) = false := by simp
theorem ab1 (w : World) (o : Obj) : Below w.heap.size w (w.alloc o) := (Below.refl _ _).alloc (Nat.le_refl _) o
theorem ab2 (w : World) (o p : Obj) : Below w.heap.size w ((w.alloc o).alloc p) := (ab1 w o).alloc (by simp) p
theorem ab3 (w : World) (o p q : Obj) : Below w.heap.size w (((w.alloc o).alloc p).alloc q) := (ab2 w o p).alloc (by simp; omega) q
theorem ab4 (w : World) (o p q r : Obj) : Below w.heap.size w ((((w.alloc o).alloc p).alloc q).alloc r) := (ab3 w o p q).alloc (by simp; omega) r
theorem StO.some_ {o : Option St} {w w' : World} {t : St} {v : Value} (h : o = some t) (hv : StV w' t v) (hb : Below w.heap.size w w') : StO o w (.returned (.tuple #[v, .bool true])) w' := by
  subst h; exact ⟨v, rfl, hv, hb⟩
theorem StO.none_ {o : Option St} {w w' : World} (h : o = none) (hb : Below w.heap.size w w') : StO o w (.returned (.tuple #[.agg #[.string ⟨#[]⟩, .slice none 0 0], .bool false])) w' := by
  subst h; exact ⟨_, rfl, StV.zero _, hb⟩
theorem EnO.some_ {o : Option En} {w w' : World} {t : En} {v : Value} (h : o = some t) (hv : EnV w' t v) (hb : Below w.heap.size w w') : EnO o w (.returned (.tuple #[v, .bool true])) w' := by
  subst h; exact ⟨v, rfl, hv, hb⟩
theorem EnO.none_ {o : Option En} {w w' : World} (h : o = none) (hb : Below w.heap.size w w') : EnO o w (.returned (.tuple #[.agg #[.string ⟨#[]⟩, .slice none 0 0, .slice none 0 0], .bool false])) w' := by
  subst h; exact ⟨_, rfl, EnV.zero _, hb⟩
def fd0 : Fd := ⟨0, [], false, .mk 0 0 [] []⟩
theorem FdV.zero (w : World) : FdV w fd0 (.agg #[.int .i64 0, .string ⟨#[]⟩, .int .i64 0, .int .i64 0, .string ⟨#[]⟩, .slice none 0 0, .bool false]) := ⟨none, 0, rfl, .inl rfl⟩
def FdO (o : Option Fd) (w : World) (e : Ending) (w' : World) : Prop := ∃ v, e = .returned (.tuple #[v, .bool o.isSome]) ∧ FdV w' (o.getD fd0) v ∧ Below w.heap.size w w'
theorem FdO.some_ {o : Option Fd} {w w' : World} {t : Fd} {v : Value} (h : o = some t) (hv : FdV w' t v) (hb : Below w.heap.size w w') : FdO o w (.returned (.tuple #[v, .bool true])) w' := by
  subst h; exact ⟨v, rfl, hv, hb⟩
theorem FdO.none_ {o : Option Fd} {w w' : World} (h : o = none) (hb : Below w.heap.size w w') : FdO o w (.returned (.tuple #[.agg #[.int .i64 0, .string ⟨#[]⟩, .int .i64 0, .int .i64 0, .string ⟨#[]⟩, .slice none 0 0, .bool false], .bool false])) w' := by
  subst h; exact ⟨_, rfl, FdV.zero _, hb⟩
end Go.Proofs.YthfodpbecddheaaGreatDoor
/-
  Typed values r data and r they lie in memory; their order, that it is one. No conditions beyond those that each names.
-/
namespace Go.Proofs.YthfodpbecddheaaGreatDoor
open Go.RowKit
theorem Bx.new5 (w : World) (t : TypeId) (x y z u p : Value) : Bx (w.alloc (Obj.cells #[x, y, z, u, p] t)) w.heap.size [x, y, z, u, p] :=
  ⟨by simp, fun j v e => by
    match j, e with
    | 0, e => cases e; exact ⟨by simp, by simp⟩
    | 1, e => cases e; exact ⟨by simp, by simp⟩
    | 2, e => cases e; exact ⟨by simp, by simp⟩
    | 3, e => cases e; exact ⟨by simp, by simp⟩
    | 4, e => cases e; exact ⟨by simp, by simp⟩⟩
theorem Bx.new6 (w : World) (t : TypeId) (x y z u p q : Value) : Bx (w.alloc (Obj.cells #[x, y, z, u, p, q] t)) w.heap.size [x, y, z, u, p, q] :=
  ⟨by simp, fun j v e => by
    match j, e with
    | 0, e => cases e; exact ⟨by simp, by simp⟩
    | 1, e => cases e; exact ⟨by simp, by simp⟩
    | 2, e => cases e; exact ⟨by simp, by simp⟩
    | 3, e => cases e; exact ⟨by simp, by simp⟩
    | 4, e => cases e; exact ⟨by simp, by simp⟩
    | 5, e => cases e; exact ⟨by simp, by simp⟩⟩
/-- A value. -/
inductive Vl where
  | mk : Int → Int → List UInt8 → List Vl → List (Int × Vl) → Vl
def Vl.kind : Vl → Int | .mk k _ _ _ _ => k
def Vl.n : Vl → Int | .mk _ n _ _ _ => n
def Vl.s : Vl → List UInt8 | .mk _ _ s _ _ => s
def Vl.l : Vl → List Vl | .mk _ _ _ l _ => l
def Vl.f : Vl → List (Int × Vl) | .mk _ _ _ _ f => f
mutual
/-- A value at p. -/
def VlA (w : World) : Vl → Addr → Prop
  | .mk k n s l f, p => w.cell? p = some (.int .i64 k) ∧ w.cell? (nx1 p 1) = some (.int .i64 n) ∧ w.cell? (nx1 p 2) = some (.string (bs s)) ∧ (∃ A c, w.cell? (nx1 p 3) = some (.slice A l.length c) ∧ VlS w l A) ∧ ∃ A c, w.cell? (nx1 p 4) = some (.slice A f.length c) ∧ EtS w f A
/-- Values, one behind the other. -/
def VlS (w : World) : List Vl → Option Addr → Prop
  | [], _ => True
  | t :: ts, A => ∃ a, A = some a ∧ VlA w t a ∧ VlS w ts (some (a.add 5))
/-- Entries, one behind the other. -/
def EtS (w : World) : List (Int × Vl) → Option Addr → Prop
  | [], _ => True
  | (n, v) :: ts, A => ∃ a, A = some a ∧ w.cell? a = some (.int .i64 n) ∧ VlA w v (nx1 a 1) ∧ EtS w ts (some (a.add 6))
end
/-- An entry at p. -/
def EtA (w : World) (x : Int × Vl) (p : Addr) : Prop := w.cell? p = some (.int .i64 x.1) ∧ VlA w x.2 (nx1 p 1)
mutual
theorem VlA.next {w w' : World} (hb : Below w.heap.size w w') : ∀ (t : Vl) (p : Addr), VlA w t p → VlA w' t p
  | .mk k n s l f, p, h => by
    rw [VlA] at h ⊢
    obtain ⟨h0, h1, h2, ⟨A, c, h3, h4⟩, A2, c2, h5, h6⟩ := h
    exact ⟨cell_next hb h0, cell_next hb h1, cell_next hb h2, ⟨A, c, cell_next hb h3, VlS.next hb l A h4⟩, A2, c2, cell_next hb h5, EtS.next hb f A2 h6⟩
theorem VlS.next {w w' : World} (hb : Below w.heap.size w w') : ∀ (ts : List Vl) (A : Option Addr), VlS w ts A → VlS w' ts A
  | [], _, _ => by rw [VlS]; trivial
  | t :: ts, A, h => by
    rw [VlS] at h ⊢
    obtain ⟨a, e, h1, h2⟩ := h
    exact ⟨a, e, VlA.next hb t a h1, VlS.next hb ts _ h2⟩
theorem EtS.next {w w' : World} (hb : Below w.heap.size w w') : ∀ (ts : List (Int × Vl)) (A : Option Addr), EtS w ts A → EtS w' ts A
  | [], _, _ => by rw [EtS]; trivial
  | (n, v) :: ts, A, h => by
    rw [EtS] at h ⊢
    obtain ⟨a, e, h0, h1, h2⟩ := h
    exact ⟨a, e, cell_next hb h0, VlA.next hb v _ h1, EtS.next hb ts _ h2⟩
end
theorem EtA.next {w w' : World} (hb : Below w.heap.size w w') (x : Int × Vl) (p : Addr) (h : EtA w x p) : EtA w' x p := ⟨cell_next hb h.1, VlA.next hb _ _ h.2⟩
theorem rw_cons {α : Type} {P : World → α → Addr → Prop} {z : Nat} {w : World} {t : α} {ts : List α} {A : Option Addr} : Rw P z w (t :: ts) A ↔ ∃ a, A = some a ∧ P w t a ∧ Rw P z w ts (some (a.add z)) := by
  constructor
  · rintro (h | ⟨a, e, h⟩)
    · cases h
    · refine ⟨a, e, ?_, .inr ⟨_, rfl, fun i hi => ?_⟩⟩
      · have := h 0 (by simp)
        rw [Nat.zero_mul] at this
        exact this
      · have := h (i + 1) (by simpa using hi)
        rw [Addr.add_add, show z + i * z = (i + 1) * z by rw [Nat.add_mul, Nat.one_mul, Nat.add_comm]]
        exact this
  · rintro ⟨a, rfl, h1, h2⟩
    refine .inr ⟨a, rfl, fun i hi => ?_⟩
    cases i with
    | zero => rw [Nat.zero_mul]; exact h1
    | succ i =>
      rcases h2 with h | ⟨b, e, h⟩
      · subst h; simp at hi
      · cases e
        have := h i (by simpa using hi)
        rw [Addr.add_add] at this
        rw [show (i + 1) * z = z + i * z by rw [Nat.add_mul, Nat.one_mul, Nat.add_comm]]
        exact this
theorem VlS.rw_ {w : World} : ∀ {ts : List Vl} {A : Option Addr}, VlS w ts A ↔ Rw VlA 5 w ts A
  | [], A => by rw [VlS]; exact ⟨fun _ => .inl rfl, fun _ => trivial⟩
  | t :: ts, A => by
    rw [VlS, rw_cons]
    constructor
    · rintro ⟨a, e, h1, h2⟩; exact ⟨a, e, h1, VlS.rw_.1 h2⟩
    · rintro ⟨a, e, h1, h2⟩; exact ⟨a, e, h1, VlS.rw_.2 h2⟩
theorem EtS.rw_ {w : World} : ∀ {ts : List (Int × Vl)} {A : Option Addr}, EtS w ts A ↔ Rw EtA 6 w ts A
  | [], A => by rw [EtS]; exact ⟨fun _ => .inl rfl, fun _ => trivial⟩
  | (n, v) :: ts, A => by
    rw [EtS, rw_cons]
    constructor
    · rintro ⟨a, e, h0, h1, h2⟩; exact ⟨a, e, ⟨h0, h1⟩, EtS.rw_.1 h2⟩
    · rintro ⟨a, e, ⟨h0, h1⟩, h2⟩; exact ⟨a, e, h0, h1, EtS.rw_.2 h2⟩
theorem VlA.cells {w : World} {t : Vl} {p : Addr} (h : VlA w t p) : w.cell? p = some (.int .i64 t.kind) ∧ w.cell? (nx1 p 1) = some (.int .i64 t.n) ∧ w.cell? (nx1 p 2) = some (.string (bs t.s)) ∧ (∃ A c, w.cell? (nx1 p 3) = some (.slice A t.l.length c) ∧ Rw VlA 5 w t.l A) ∧ ∃ A c, w.cell? (nx1 p 4) = some (.slice A t.f.length c) ∧ Rw EtA 6 w t.f A := by
  obtain ⟨k, n, s, l, f⟩ := t
  rw [VlA] at h
  obtain ⟨h0, h1, h2, ⟨A, c, h3, h4⟩, A2, c2, h5, h6⟩ := h
  exact ⟨h0, h1, h2, ⟨A, c, h3, VlS.rw_.1 h4⟩, A2, c2, h5, EtS.rw_.1 h6⟩
theorem VlA.of {w : World} {t : Vl} {p : Addr} (h0 : w.cell? p = some (.int .i64 t.kind)) (h1 : w.cell? (nx1 p 1) = some (.int .i64 t.n)) (h2 : w.cell? (nx1 p 2) = some (.string (bs t.s))) {A : Option Addr} {c : Nat} (h3 : w.cell? (nx1 p 3) = some (.slice A t.l.length c)) (h4 : Rw VlA 5 w t.l A) {A2 : Option Addr} {c2 : Nat} (h5 : w.cell? (nx1 p 4) = some (.slice A2 t.f.length c2)) (h6 : Rw EtA 6 w t.f A2) : VlA w t p := by
  obtain ⟨k, n, s, l, f⟩ := t
  rw [VlA]
  exact ⟨h0, h1, h2, ⟨A, c, h3, VlS.rw_.2 h4⟩, A2, c2, h5, EtS.rw_.2 h6⟩
/-- A value r a value. -/
def VlV (w : World) (t : Vl) (v : Value) : Prop := ∃ A c A2 c2, v = .agg #[.int .i64 t.kind, .int .i64 t.n, .string (bs t.s), .slice A t.l.length c, .slice A2 t.f.length c2] ∧ Rw VlA 5 w t.l A ∧ Rw EtA 6 w t.f A2
theorem VlV.next {w w' : World} (hb : Below w.heap.size w w') {t : Vl} {v : Value} (h : VlV w t v) : VlV w' t v := by
  obtain ⟨A, c, A2, c2, e, h1, h2⟩ := h
  exact ⟨A, c, A2, c2, e, h1.next fun x p => VlA.next hb x p, h2.next fun x p => EtA.next hb x p⟩
theorem VlA.val {w : World} {t : Vl} {p : Addr} (h : VlA w t p) : ∃ A c A2 c2, w.cell? p = some (.int .i64 t.kind) ∧ w.cell? (nx1 p 1) = some (.int .i64 t.n) ∧ w.cell? (nx1 p 2) = some (.string (bs t.s)) ∧ w.cell? (nx1 p 3) = some (.slice A t.l.length c) ∧ w.cell? (nx1 p 4) = some (.slice A2 t.f.length c2) ∧ VlV w t (.agg #[.int .i64 t.kind, .int .i64 t.n, .string (bs t.s), .slice A t.l.length c, .slice A2 t.f.length c2]) := by
  obtain ⟨h0, h1, h2, ⟨A, c, h3, h4⟩, A2, c2, h5, h6⟩ := h.cells
  exact ⟨A, c, A2, c2, h0, h1, h2, h3, h5, A, c, A2, c2, rfl, h4, h6⟩
theorem EtA.val {w : World} {x : Int × Vl} {p : Addr} (h : EtA w x p) : ∃ A c A2 c2, w.cell? p = some (.int .i64 x.1) ∧ w.cell? (nx1 p 1) = some (.int .i64 x.2.kind) ∧ w.cell? (nx1 p 2) = some (.int .i64 x.2.n) ∧ w.cell? (nx1 p 3) = some (.string (bs x.2.s)) ∧ w.cell? (nx1 p 4) = some (.slice A x.2.l.length c) ∧ w.cell? (nx1 p 5) = some (.slice A2 x.2.f.length c2) ∧ VlV w x.2 (.agg #[.int .i64 x.2.kind, .int .i64 x.2.n, .string (bs x.2.s), .slice A x.2.l.length c, .slice A2 x.2.f.length c2]) := by
  obtain ⟨h0, h⟩ := h
  obtain ⟨A, c, A2, c2, h1, h2, h3, h4, h5, hV⟩ := h.val
  exact ⟨A, c, A2, c2, h0, h1, h2, h3, h4, h5, hV⟩
theorem size_l {t : Vl} {i : Nat} (h : i < t.l.length) : SizeOf.sizeOf (t.l[i]'h) < SizeOf.sizeOf t := by
  obtain ⟨k, n, s, l, f⟩ := t
  have h1 : SizeOf.sizeOf (l[i]'h) < SizeOf.sizeOf l := List.sizeOf_lt_of_mem (List.getElem_mem h)
  have h2 := Vl.mk.sizeOf_spec k n s l f
  show SizeOf.sizeOf (l[i]'h) < SizeOf.sizeOf (Vl.mk k n s l f)
  omega
theorem size_f {t : Vl} {i : Nat} (h : i < t.f.length) : SizeOf.sizeOf (t.f[i]'h).2 < SizeOf.sizeOf t := by
  obtain ⟨k, n, s, l, f⟩ := t
  have h1 : SizeOf.sizeOf (f[i]'h) < SizeOf.sizeOf f := List.sizeOf_lt_of_mem (List.getElem_mem h)
  have h2 := Vl.mk.sizeOf_spec k n s l f
  have h3 : SizeOf.sizeOf (f[i]'h).2 < SizeOf.sizeOf (f[i]'h) := by
    obtain ⟨a, b⟩ := f[i]'h
    have := Prod.mk.sizeOf_spec a b
    show SizeOf.sizeOf b < SizeOf.sizeOf (a, b)
    omega
  show SizeOf.sizeOf (f[i]'h).2 < SizeOf.sizeOf (Vl.mk k n s l f)
  omega
/-- Go's own bound of a slice's length, at each list of a value. -/
def vok : Vl → Prop
  | .mk _ _ s l f => s.length ≤ 9223372036854775807 ∧ (l.length ≤ 9223372036854775807 ∧ voks l) ∧ f.length ≤ 9223372036854775807 ∧ foks f
where
  voks : List Vl → Prop
  | [] => True
  | t :: ts => vok t ∧ voks ts
  foks : List (Int × Vl) → Prop
  | [] => True
  | (_, v) :: ts => vok v ∧ foks ts
theorem voks_iff : ∀ {l : List Vl}, vok.voks l ↔ ∀ x ∈ l, vok x
  | [] => by rw [vok.voks]; simp
  | t :: ts => by rw [vok.voks, voks_iff (l := ts)]; simp
theorem foks_iff : ∀ {l : List (Int × Vl)}, vok.foks l ↔ ∀ x ∈ l, vok x.2
  | [] => by rw [vok.foks]; simp
  | (n, t) :: ts => by rw [vok.foks, foks_iff (l := ts)]; simp
theorem vok_iff {t : Vl} : vok t ↔ t.s.length ≤ 9223372036854775807 ∧ (t.l.length ≤ 9223372036854775807 ∧ ∀ x ∈ t.l, vok x) ∧ t.f.length ≤ 9223372036854775807 ∧ ∀ x ∈ t.f, vok x.2 := by
  obtain ⟨k, n, s, l, f⟩ := t
  rw [vok, voks_iff, foks_iff]
  rfl
/-- How many levels a value has. -/
def lv : Vl → Nat
  | .mk k _ _ l f => if k ≠ 5 ∧ k ≠ 6 ∧ l = [] ∧ f = [] then 0 else 1 + max (lvl l) (lvf f)
where
  lvl : List Vl → Nat
  | [] => 0
  | t :: ts => max (lv t) (lvl ts)
  lvf : List (Int × Vl) → Nat
  | [] => 0
  | (_, v) :: ts => max (lv v) (lvf ts)
/-- The first of two that isn't 0. -/
def o1 (a b : Int) : Int := if a ≠ 0 then a else b
/-- The sign of a difference. -/
def sg (a b : Int) : Int := if a < b then -1 else if b < a then 1 else 0
/-- The order of byte strings. -/
def ob : List UInt8 → List UInt8 → Int
  | [], [] => 0
  | [], _ :: _ => -1
  | _ :: _, [] => 1
  | a :: r, b :: bs => o1 (sg (a.toNat : Int) (b.toNat : Int)) (ob r bs)
mutual
/-- The order of values. -/
def cm : Vl → Vl → Int
  | .mk k n s l f, .mk k' n' s' l' f' => o1 (sg k k') (o1 (sg n n') (o1 (ob s s') (o1 (cml l l') (cmf f f'))))
def cml : List Vl → List Vl → Int
  | [], [] => 0
  | [], _ :: _ => -1
  | _ :: _, [] => 1
  | a :: r, b :: bs => o1 (cm a b) (cml r bs)
def cmf : List (Int × Vl) → List (Int × Vl) → Int
  | [], [] => 0
  | [], _ :: _ => -1
  | _ :: _, [] => 1
  | (n, a) :: r, (m, b) :: bs => o1 (sg n m) (o1 (cm a b) (cmf r bs))
end
theorem o1_neg (a b : Int) : o1 (-a) (-b) = - o1 a b := by unfold o1; split <;> split <;> omega
theorem sg_neg (a b : Int) : sg b a = - sg a b := by unfold sg; split <;> split <;> omega
theorem ob_neg : ∀ a b : List UInt8, ob b a = - ob a b
  | [], [] => rfl
  | [], _ :: _ => rfl
  | _ :: _, [] => rfl
  | a :: r, b :: bs => by rw [ob, ob, ob_neg r bs, sg_neg, o1_neg]
mutual
theorem cm_neg : ∀ a b : Vl, cm b a = - cm a b
  | .mk k n s l f, .mk k' n' s' l' f' => by rw [cm, cm, cml_neg l l', cmf_neg f f', ob_neg s, sg_neg k, sg_neg n, o1_neg, o1_neg, o1_neg, o1_neg]
theorem cml_neg : ∀ a b : List Vl, cml b a = - cml a b
  | [], [] => by rw [cml]; rfl
  | [], _ :: _ => by rw [cml, cml]; rfl
  | _ :: _, [] => by rw [cml, cml]
  | a :: r, b :: bs => by rw [cml, cml, cm_neg a b, cml_neg r bs, o1_neg]
theorem cmf_neg : ∀ a b : List (Int × Vl), cmf b a = - cmf a b
  | [], [] => by rw [cmf]; rfl
  | [], _ :: _ => by rw [cmf, cmf]; rfl
  | _ :: _, [] => by rw [cmf, cmf]
  | (n, a) :: r, (m, b) :: bs => by rw [cmf, cmf, cm_neg a b, cmf_neg r bs, sg_neg n, o1_neg, o1_neg]
end
theorem cm_self (a : Vl) : cm a a = 0 := by have := cm_neg a a; omega
/-- What three comparisons keep. -/
def Tri (x y z : Int) : Prop := (x = 0 → z = y) ∧ (y = 0 → z = x) ∧ (x < 0 → y < 0 → z < 0) ∧ (0 < x → 0 < y → 0 < z)
theorem Tri.o1 {x y z x' y' z' : Int} (h : Tri x y z) (h' : Tri x' y' z') : Tri (o1 x x') (o1 y y') (o1 z z') := by
  unfold Tri at *
  unfold Proofs.YthfodpbecddheaaGreatDoor.o1
  split <;> split <;> split <;> omega
end Go.Proofs.YthfodpbecddheaaGreatDoor


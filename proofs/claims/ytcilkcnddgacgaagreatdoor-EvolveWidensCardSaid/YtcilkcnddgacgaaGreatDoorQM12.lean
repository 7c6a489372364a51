/-
  Typed values r data and r they lie in memory; their order, that it is one. No conditions beyond those that each names.
-/
import Derived.Test.YtcilkcnddgacgaaGreatDoorQM09
import Derived.Lib.QuietBelow
namespace Go.Proofs.YtcilkcnddgacgaaGreatDoor
open Go.RowKit
/-- A value. -/
inductive Vl where
  | mk : Int → Int → List UInt8 → List Vl → List (Int × Vl) → Vl
def Vl.kind : Vl → Int | .mk k _ _ _ _ => k
def Vl.n : Vl → Int | .mk _ n _ _ _ => n
def Vl.s : Vl → List UInt8 | .mk _ _ s _ _ => s
def Vl.l : Vl → List Vl | .mk _ _ _ l _ => l
def Vl.f : Vl → List (Int × Vl) | .mk _ _ _ _ f => f
mutual
/-- A value at p. -/
def VlA (w : World) : Vl → Addr → Prop
  | .mk k n s l f, p => w.cell? p = some (.int .i64 k) ∧ w.cell? (nx1 p 1) = some (.int .i64 n) ∧ w.cell? (nx1 p 2) = some (.string (bs s)) ∧ (∃ A c, w.cell? (nx1 p 3) = some (.slice A l.length c) ∧ VlS w l A) ∧ ∃ A c, w.cell? (nx1 p 4) = some (.slice A f.length c) ∧ EtS w f A
/-- Values, one behind the other. -/
def VlS (w : World) : List Vl → Option Addr → Prop
  | [], _ => True
  | t :: ts, A => ∃ a, A = some a ∧ VlA w t a ∧ VlS w ts (some (a.add 5))
/-- Entries, one behind the other. -/
def EtS (w : World) : List (Int × Vl) → Option Addr → Prop
  | [], _ => True
  | (n, v) :: ts, A => ∃ a, A = some a ∧ w.cell? a = some (.int .i64 n) ∧ VlA w v (nx1 a 1) ∧ EtS w ts (some (a.add 6))
end
/-- An entry at p. -/
def EtA (w : World) (x : Int × Vl) (p : Addr) : Prop := w.cell? p = some (.int .i64 x.1) ∧ VlA w x.2 (nx1 p 1)
mutual
theorem VlA.next {w w' : World} (hb : Below w.heap.size w w') : ∀ (t : Vl) (p : Addr), VlA w t p → VlA w' t p
  | .mk k n s l f, p, h => by
    rw [VlA] at h ⊢
    obtain ⟨h0, h1, h2, ⟨A, c, h3, h4⟩, A2, c2, h5, h6⟩ := h
    exact ⟨cell_next hb h0, cell_next hb h1, cell_next hb h2, ⟨A, c, cell_next hb h3, VlS.next hb l A h4⟩, A2, c2, cell_next hb h5, EtS.next hb f A2 h6⟩
theorem VlS.next {w w' : World} (hb : Below w.heap.size w w') : ∀ (ts : List Vl) (A : Option Addr), VlS w ts A → VlS w' ts A
  | [], _, _ => by rw [VlS]; trivial
  | t :: ts, A, h => by
    rw [VlS] at h ⊢
    obtain ⟨a, e, h1, h2⟩ := h
    exact ⟨a, e, VlA.next hb t a h1, VlS.next hb ts _ h2⟩
theorem EtS.next {w w' : World} (hb : Below w.heap.size w w') : ∀ (ts : List (Int × Vl)) (A : Option Addr), EtS w ts A → EtS w' ts A
  | [], _, _ => by rw [EtS]; trivial
  | (n, v) :: ts, A, h => by
    rw [EtS] at h ⊢
    obtain ⟨a, e, h0, h1, h2⟩ := h
    exact ⟨a, e, cell_next hb h0, VlA.next hb v _ h1, EtS.next hb ts _ h2⟩
end
theorem EtA.next {w w' : World} (hb : Below w.heap.size w w') (x : Int × Vl) (p : Addr) (h : EtA w x p) : EtA w' x p := ⟨cell_next hb h.1, VlA.next hb _ _ h.2⟩
theorem rw_cons {α : Type} {P : World → α → Addr → Prop} {z : Nat} {w : World} {t : α} {ts : List α} {A : Option Addr} : Rw P z w (t :: ts) A ↔ ∃ a, A = some a ∧ P w t a ∧ Rw P z w ts (some (a.add z)) := by
  constructor
  · rintro (h | ⟨a, e, h⟩)
    · cases h
    · refine ⟨a, e, ?_, .inr ⟨_, rfl, fun i hi => ?_⟩⟩
      · have := h 0 (by simp)
        rw [Nat.zero_mul] at this
        exact this
      · have := h (i + 1) (by simpa using hi)
        rw [Addr.add_add, show z + i * z = (i + 1) * z by rw [Nat.add_mul, Nat.one_mul, Nat.add_comm]]
        exact this
  · rintro ⟨a, rfl, h1, h2⟩
    refine .inr ⟨a, rfl, fun i hi => ?_⟩
    cases i with
    | zero => rw [Nat.zero_mul]; exact h1
    | succ i =>
      rcases h2 with h | ⟨b, e, h⟩
      · subst h; simp at hi
      · cases e
        have := h i (by simpa using hi)
        rw [Addr.add_add] at this
        rw [show (i + 1) * z = z + i * z by rw [Nat.add_mul, Nat.one_mul, Nat.add_comm]]
        exact this
theorem VlS.rw_ {w : World} : ∀ {ts : List Vl} {A : Option Addr}, VlS w ts A ↔ Rw VlA 5 w ts A
  | [], A => by rw [VlS]; exact ⟨fun _ => .inl rfl, fun _ => trivial⟩
  | t :: ts, A => by
    rw [VlS, rw_cons]
    constructor
    · rintro ⟨a, e, h1, h2⟩; exact ⟨a, e, h1, VlS.rw_.1 h2⟩
    · rintro ⟨a, e, h1, h2⟩; exact ⟨a, e, h1, VlS.rw_.2 h2⟩
theorem EtS.rw_ {w : World} : ∀ {ts : List (Int × Vl)} {A : Option Addr}, EtS w ts A ↔ Rw EtA 6 w ts A
  | [], A => by rw [EtS]; exact ⟨fun _ => .inl rfl, fun _ => trivial⟩
  | (n, v) :: ts, A => by
    rw [EtS, rw_cons]
    constructor
    · rintro ⟨a, e, h0, h1, h2⟩; exact ⟨a, e, ⟨h0, h1⟩, EtS.rw_.1 h2⟩
    · rintro ⟨a, e, ⟨h0, h1⟩, h2⟩; exact ⟨a, e, h0, h1, EtS.rw_.2 h2⟩
theorem VlA.cells {w : World} {t : Vl} {p : Addr} (h : VlA w t p) : w.cell? p = some (.int .i64 t.kind) ∧ w.cell? (nx1 p 1) = some (.int .i64 t.n) ∧ w.cell? (nx1 p 2) = some (.string (bs t.s)) ∧ (∃ A c, w.cell? (nx1 p 3) = some (.slice A t.l.length c) ∧ Rw VlA 5 w t.l A) ∧ ∃ A c, w.cell? (nx1 p 4) = some (.slice A t.f.length c) ∧ Rw EtA 6 w t.f A := by
  obtain ⟨k, n, s, l, f⟩ := t
  rw [VlA] at h
  obtain ⟨h0, h1, h2, ⟨A, c, h3, h4⟩, A2, c2, h5, h6⟩ := h
  exact ⟨h0, h1, h2, ⟨A, c, h3, VlS.rw_.1 h4⟩, A2, c2, h5, EtS.rw_.1 h6⟩
theorem VlA.of {w : World} {t : Vl} {p : Addr} (h0 : w.cell? p = some (.int .i64 t.kind)) (h1 : w.cell? (nx1 p 1) = some (.int .i64 t.n)) (h2 : w.cell? (nx1 p 2) = some (.string (bs t.s))) {A : Option Addr} {c : Nat} (h3 : w.cell? (nx1 p 3) = some (.slice A t.l.length c)) (h4 : Rw VlA 5 w t.l A) {A2 : Option Addr} {c2 : Nat} (h5 : w.cell? (nx1 p 4) = some (.slice A2 t.f.length c2)) (h6 : Rw EtA 6 w t.f A2) : VlA w t p := by
  obtain ⟨k, n, s, l, f⟩ := t
  rw [VlA]
  exact ⟨h0, h1, h2, ⟨A, c, h3, VlS.rw_.2 h4⟩, A2, c2, h5, EtS.rw_.2 h6⟩
/-- A value r a value. -/
def VlV (w : World) (t : Vl) (v : Value) : Prop := ∃ A c A2 c2, v = .agg #[.int .i64 t.kind, .int .i64 t.n, .string (bs t.s), .slice A t.l.length c, .slice A2 t.f.length c2] ∧ Rw VlA 5 w t.l A ∧ Rw EtA 6 w t.f A2
theorem VlV.next {w w' : World} (hb : Below w.heap.size w w') {t : Vl} {v : Value} (h : VlV w t v) : VlV w' t v := by
  obtain ⟨A, c, A2, c2, e, h1, h2⟩ := h
  exact ⟨A, c, A2, c2, e, h1.next fun x p => VlA.next hb x p, h2.next fun x p => EtA.next hb x p⟩
theorem VlA.val {w : World} {t : Vl} {p : Addr} (h : VlA w t p) : ∃ A c A2 c2, w.cell? p = some (.int .i64 t.kind) ∧ w.cell? (nx1 p 1) = some (.int .i64 t.n) ∧ w.cell? (nx1 p 2) = some (.string (bs t.s)) ∧ w.cell? (nx1 p 3) = some (.slice A t.l.length c) ∧ w.cell? (nx1 p 4) = some (.slice A2 t.f.length c2) ∧ VlV w t (.agg #[.int .i64 t.kind, .int .i64 t.n, .string (bs t.s), .slice A t.l.length c, .slice A2 t.f.length c2]) := by
  obtain ⟨h0, h1, h2, ⟨A, c, h3, h4⟩, A2, c2, h5, h6⟩ := h.cells
  exact ⟨A, c, A2, c2, h0, h1, h2, h3, h5, A, c, A2, c2, rfl, h4, h6⟩
theorem EtA.val {w : World} {x : Int × Vl} {p : Addr} (h : EtA w x p) : ∃ A c A2 c2, w.cell? p = some (.int .i64 x.1) ∧ w.cell? (nx1 p 1) = some (.int .i64 x.2.kind) ∧ w.cell? (nx1 p 2) = some (.int .i64 x.2.n) ∧ w.cell? (nx1 p 3) = some (.string (bs x.2.s)) ∧ w.cell? (nx1 p 4) = some (.slice A x.2.l.length c) ∧ w.cell? (nx1 p 5) = some (.slice A2 x.2.f.length c2) ∧ VlV w x.2 (.agg #[.int .i64 x.2.kind, .int .i64 x.2.n, .string (bs x.2.s), .slice A x.2.l.length c, .slice A2 x.2.f.length c2]) := by
  obtain ⟨h0, h⟩ := h
  obtain ⟨A, c, A2, c2, h1, h2, h3, h4, h5, hV⟩ := h.val
  exact ⟨A, c, A2, c2, h0, h1, h2, h3, h4, h5, hV⟩
end Go.Proofs.YtcilkcnddgacgaaGreatDoor
/-
  The reference's order of texts, sizes and levels. No conditions beyond those that each names.
-/
namespace Go.Proofs.YtcilkcnddgacgaaGreatDoor
open Go.RowKit
end Go.Proofs.YtcilkcnddgacgaaGreatDoor
/-
  The reference's Compare and Equal. No conditions beyond those that each names.
-/
namespace Go.Proofs.YtcilkcnddgacgaaGreatDoor
open Go.RowKit Go.Sort
end Go.Proofs.YtcilkcnddgacgaaGreatDoor


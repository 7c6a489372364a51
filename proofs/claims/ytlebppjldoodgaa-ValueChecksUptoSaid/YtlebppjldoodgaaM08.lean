/-
  Typed values r data and r they lie in memory; their order, that it is one. No conditions beyond those that each names.
-/
import Derived.Test.YtlebppjldoodgaaM06
import Derived.Lib.QuietBelow
namespace Go.Proofs.Ytlebppjldoodgaa
open Go.RowKit
theorem Bx.new5 (w : World) (t : TypeId) (x y z u p : Value) : Bx (w.alloc (Obj.cells #[x, y, z, u, p] t)) w.heap.size [x, y, z, u, p] :=
  ⟨by simp, fun j v e => by
    match j, e with
    | 0, e => cases e; exact ⟨by simp, by simp⟩
    | 1, e => cases e; exact ⟨by simp, by simp⟩
    | 2, e => cases e; exact ⟨by simp, by simp⟩
    | 3, e => cases e; exact ⟨by simp, by simp⟩
    | 4, e => cases e; exact ⟨by simp, by simp⟩⟩
theorem Bx.new6 (w : World) (t : TypeId) (x y z u p q : Value) : Bx (w.alloc (Obj.cells #[x, y, z, u, p, q] t)) w.heap.size [x, y, z, u, p, q] :=
  ⟨by simp, fun j v e => by
    match j, e with
    | 0, e => cases e; exact ⟨by simp, by simp⟩
    | 1, e => cases e; exact ⟨by simp, by simp⟩
    | 2, e => cases e; exact ⟨by simp, by simp⟩
    | 3, e => cases e; exact ⟨by simp, by simp⟩
    | 4, e => cases e; exact ⟨by simp, by simp⟩
    | 5, e => cases e; exact ⟨by simp, by simp⟩⟩
/-- A value. -/
inductive Vl where
  | mk : Int → Int → List UInt8 → List Vl → List (Int × Vl) → Vl
def Vl.kind : Vl → Int | .mk k _ _ _ _ => k
def Vl.n : Vl → Int | .mk _ n _ _ _ => n
def Vl.s : Vl → List UInt8 | .mk _ _ s _ _ => s
def Vl.l : Vl → List Vl | .mk _ _ _ l _ => l
def Vl.f : Vl → List (Int × Vl) | .mk _ _ _ _ f => f
mutual
/-- A value at p. -/
def VlA (w : World) : Vl → Addr → Prop
  | .mk k n s l f, p => w.cell? p = some (.int .i64 k) ∧ w.cell? (nx1 p 1) = some (.int .i64 n) ∧ w.cell? (nx1 p 2) = some (.string (bs s)) ∧ (∃ A c, w.cell? (nx1 p 3) = some (.slice A l.length c) ∧ VlS w l A) ∧ ∃ A c, w.cell? (nx1 p 4) = some (.slice A f.length c) ∧ EtS w f A
/-- Values, one behind the other. -/
def VlS (w : World) : List Vl → Option Addr → Prop
  | [], _ => True
  | t :: ts, A => ∃ a, A = some a ∧ VlA w t a ∧ VlS w ts (some (a.add 5))
/-- Entries, one behind the other. -/
def EtS (w : World) : List (Int × Vl) → Option Addr → Prop
  | [], _ => True
  | (n, v) :: ts, A => ∃ a, A = some a ∧ w.cell? a = some (.int .i64 n) ∧ VlA w v (nx1 a 1) ∧ EtS w ts (some (a.add 6))
end
/-- An entry at p. -/
def EtA (w : World) (x : Int × Vl) (p : Addr) : Prop := w.cell? p = some (.int .i64 x.1) ∧ VlA w x.2 (nx1 p 1)
mutual
theorem VlA.next {w w' : World} (hb : Below w.heap.size w w') : ∀ (t : Vl) (p : Addr), VlA w t p → VlA w' t p
  | .mk k n s l f, p, h => by
    rw [VlA] at h ⊢
    obtain ⟨h0, h1, h2, ⟨A, c, h3, h4⟩, A2, c2, h5, h6⟩ := h
    exact ⟨cell_next hb h0, cell_next hb h1, cell_next hb h2, ⟨A, c, cell_next hb h3, VlS.next hb l A h4⟩, A2, c2, cell_next hb h5, EtS.next hb f A2 h6⟩
theorem VlS.next {w w' : World} (hb : Below w.heap.size w w') : ∀ (ts : List Vl) (A : Option Addr), VlS w ts A → VlS w' ts A
  | [], _, _ => by rw [VlS]; trivial
  | t :: ts, A, h => by
    rw [VlS] at h ⊢
    obtain ⟨a, e, h1, h2⟩ := h
    exact ⟨a, e, VlA.next hb t a h1, VlS.next hb ts _ h2⟩
theorem EtS.next {w w' : World} (hb : Below w.heap.size w w') : ∀ (ts : List (Int × Vl)) (A : Option Addr), EtS w ts A → EtS w' ts A
  | [], _, _ => by rw [EtS]; trivial
  | (n, v) :: ts, A, h => by
    rw [EtS] at h ⊢
    obtain ⟨a, e, h0, h1, h2⟩ := h
    exact ⟨a, e, cell_next hb h0, VlA.next hb v _ h1, EtS.next hb ts _ h2⟩
end
theorem EtA.next {w w' : World} (hb : Below w.heap.size w w') (x : Int × Vl) (p : Addr) (h : EtA w x p) : EtA w' x p := ⟨cell_next hb h.1, VlA.next hb _ _ h.2⟩
theorem rw_cons {α : Type} {P : World → α → Addr → Prop} {z : Nat} {w : World} {t : α} {ts : List α} {A : Option Addr} : Rw P z w (t :: ts) A ↔ ∃ a, A = some a ∧ P w t a ∧ Rw P z w ts (some (a.add z)) := by
  constructor
  · rintro (h | ⟨a, e, h⟩)
    · cases h
    · refine ⟨a, e, ?_, .inr ⟨_, rfl, fun i hi => ?_⟩⟩
      · have := h 0 (by simp)
        rw [Nat.zero_mul] at this
        exact this
      · have := h (i + 1) (by simpa using hi)
        rw [Addr.add_add, show z + i * z = (i + 1) * z by rw [Nat.add_mul, Nat.one_mul, Nat.add_comm]]
        exact this
  · rintro ⟨a, rfl, h1, h2⟩
    refine .inr ⟨a, rfl, fun i hi => ?_⟩
    cases i with
    | zero => rw [Nat.zero_mul]; exact h1
    | succ i =>
      rcases h2 with h | ⟨b, e, h⟩
      · subst h; simp at hi
      · cases e
        have := h i (by simpa using hi)
        rw [Addr.add_add] at this
        rw [show (i + 1) * z = z + i * z by rw [Nat.add_mul, Nat.one_mul, Nat.add_comm]]
        exact this
theorem VlS.rw_ {w : World} : ∀ {ts : List Vl} {A : Option Addr}, VlS w ts A ↔ Rw VlA 5 w ts A
  | [], A => by rw [VlS]; exact ⟨fun _ => .inl rfl, fun _ => trivial⟩
  | t :: ts, A => by
    rw [VlS, rw_cons]
    constructor
    · rintro ⟨a, e, h1, h2⟩; exact ⟨a, e, h1, VlS.rw_.1 h2⟩
    · rintro ⟨a, e, h1, h2⟩; exact ⟨a, e, h1, VlS.rw_.2 h2⟩
theorem EtS.rw_ {w : World} : ∀ {ts : List (Int × Vl)} {A : Option Addr}, EtS w ts A ↔ Rw EtA 6 w ts A
  | [], A => by rw [EtS]; exact ⟨fun _ => .inl rfl, fun _ => trivial⟩
  | (n, v) :: ts, A => by
    rw [EtS, rw_cons]
    constructor
    · rintro ⟨a, e, h0, h1, h2⟩; exact ⟨a, e, ⟨h0, h1⟩, EtS.rw_.1 h2⟩
    · rintro ⟨a, e, ⟨h0, h1⟩, h2⟩; exact ⟨a, e, h0, h1, EtS.rw_.2 h2⟩
theorem VlA.cells {w : World} {t : Vl} {p : Addr} (h : VlA w t p) : w.cell? p = some (.int .i64 t.kind) ∧ w.cell? (nx1 p 1) = some (.int .i64 t.n) ∧ w.cell? (nx1 p 2) = some (.string (bs t.s)) ∧ (∃ A c, w.cell? (nx1 p 3) = some (.slice A t.l.length c) ∧ Rw VlA 5 w t.l A) ∧ ∃ A c, w.cell? (nx1 p 4) = some (.slice A t.f.length c) ∧ Rw EtA 6 w t.f A := by
  obtain ⟨k, n, s, l, f⟩ := t
  rw [VlA] at h
  obtain ⟨h0, h1, h2, ⟨A, c, h3, h4⟩, A2, c2, h5, h6⟩ := h
  exact ⟨h0, h1, h2, ⟨A, c, h3, VlS.rw_.1 h4⟩, A2, c2, h5, EtS.rw_.1 h6⟩
theorem VlA.of {w : World} {t : Vl} {p : Addr} (h0 : w.cell? p = some (.int .i64 t.kind)) (h1 : w.cell? (nx1 p 1) = some (.int .i64 t.n)) (h2 : w.cell? (nx1 p 2) = some (.string (bs t.s))) {A : Option Addr} {c : Nat} (h3 : w.cell? (nx1 p 3) = some (.slice A t.l.length c)) (h4 : Rw VlA 5 w t.l A) {A2 : Option Addr} {c2 : Nat} (h5 : w.cell? (nx1 p 4) = some (.slice A2 t.f.length c2)) (h6 : Rw EtA 6 w t.f A2) : VlA w t p := by
  obtain ⟨k, n, s, l, f⟩ := t
  rw [VlA]
  exact ⟨h0, h1, h2, ⟨A, c, h3, VlS.rw_.2 h4⟩, A2, c2, h5, EtS.rw_.2 h6⟩
/-- The cells of a value. -/
abbrev vlC (t : Vl) (A : Option Addr) (c : Nat) (A2 : Option Addr) (c2 : Nat) : List Value := [.int .i64 t.kind, .int .i64 t.n, .string (bs t.s), .slice A t.l.length c, .slice A2 t.f.length c2]
/-- A value r a value. -/
def VlV (w : World) (t : Vl) (v : Value) : Prop := ∃ A c A2 c2, v = .agg #[.int .i64 t.kind, .int .i64 t.n, .string (bs t.s), .slice A t.l.length c, .slice A2 t.f.length c2] ∧ Rw VlA 5 w t.l A ∧ Rw EtA 6 w t.f A2
theorem VlV.next {w w' : World} (hb : Below w.heap.size w w') {t : Vl} {v : Value} (h : VlV w t v) : VlV w' t v := by
  obtain ⟨A, c, A2, c2, e, h1, h2⟩ := h
  exact ⟨A, c, A2, c2, e, h1.next fun x p => VlA.next hb x p, h2.next fun x p => EtA.next hb x p⟩
theorem VlA.val {w : World} {t : Vl} {p : Addr} (h : VlA w t p) : ∃ A c A2 c2, w.cell? p = some (.int .i64 t.kind) ∧ w.cell? (nx1 p 1) = some (.int .i64 t.n) ∧ w.cell? (nx1 p 2) = some (.string (bs t.s)) ∧ w.cell? (nx1 p 3) = some (.slice A t.l.length c) ∧ w.cell? (nx1 p 4) = some (.slice A2 t.f.length c2) ∧ VlV w t (.agg #[.int .i64 t.kind, .int .i64 t.n, .string (bs t.s), .slice A t.l.length c, .slice A2 t.f.length c2]) := by
  obtain ⟨h0, h1, h2, ⟨A, c, h3, h4⟩, A2, c2, h5, h6⟩ := h.cells
  exact ⟨A, c, A2, c2, h0, h1, h2, h3, h5, A, c, A2, c2, rfl, h4, h6⟩
theorem EtA.val {w : World} {x : Int × Vl} {p : Addr} (h : EtA w x p) : ∃ A c A2 c2, w.cell? p = some (.int .i64 x.1) ∧ w.cell? (nx1 p 1) = some (.int .i64 x.2.kind) ∧ w.cell? (nx1 p 2) = some (.int .i64 x.2.n) ∧ w.cell? (nx1 p 3) = some (.string (bs x.2.s)) ∧ w.cell? (nx1 p 4) = some (.slice A x.2.l.length c) ∧ w.cell? (nx1 p 5) = some (.slice A2 x.2.f.length c2) ∧ VlV w x.2 (.agg #[.int .i64 x.2.kind, .int .i64 x.2.n, .string (bs x.2.s), .slice A x.2.l.length c, .slice A2 x.2.f.length c2]) := by
  obtain ⟨h0, h⟩ := h
  obtain ⟨A, c, A2, c2, h1, h2, h3, h4, h5, hV⟩ := h.val
  exact ⟨A, c, A2, c2, h0, h1, h2, h3, h4, h5, hV⟩
theorem size_l {t : Vl} {i : Nat} (h : i < t.l.length) : SizeOf.sizeOf (t.l[i]'h) < SizeOf.sizeOf t := by
  obtain ⟨k, n, s, l, f⟩ := t
  have h1 : SizeOf.sizeOf (l[i]'h) < SizeOf.sizeOf l := List.sizeOf_lt_of_mem (List.getElem_mem h)
  have h2 := Vl.mk.sizeOf_spec k n s l f
  show SizeOf.sizeOf (l[i]'h) < SizeOf.sizeOf (Vl.mk k n s l f)
  omega
theorem size_f {t : Vl} {i : Nat} (h : i < t.f.length) : SizeOf.sizeOf (t.f[i]'h).2 < SizeOf.sizeOf t := by
  obtain ⟨k, n, s, l, f⟩ := t
  have h1 : SizeOf.sizeOf (f[i]'h) < SizeOf.sizeOf f := List.sizeOf_lt_of_mem (List.getElem_mem h)
  have h2 := Vl.mk.sizeOf_spec k n s l f
  have h3 : SizeOf.sizeOf (f[i]'h).2 < SizeOf.sizeOf (f[i]'h) := by
    obtain ⟨a, b⟩ := f[i]'h
    have := Prod.mk.sizeOf_spec a b
    show SizeOf.sizeOf b < SizeOf.sizeOf (a, b)
    omega
  show SizeOf.sizeOf (f[i]'h).2 < SizeOf.sizeOf (Vl.mk k n s l f)
  omega
/-- Go's own bound of a slice's length, at each list of a value. -/
def vok : Vl → Prop
  | .mk _ _ s l f => s.length ≤ 9223372036854775807 ∧ (l.length ≤ 9223372036854775807 ∧ voks l) ∧ f.length ≤ 9223372036854775807 ∧ foks f
where
  voks : List Vl → Prop
  | [] => True
  | t :: ts => vok t ∧ voks ts
  foks : List (Int × Vl) → Prop
  | [] => True
  | (_, v) :: ts => vok v ∧ foks ts
theorem voks_iff : ∀ {l : List Vl}, vok.voks l ↔ ∀ x ∈ l, vok x
  | [] => by rw [vok.voks]; simp
  | t :: ts => by rw [vok.voks, voks_iff (l := ts)]; simp
theorem foks_iff : ∀ {l : List (Int × Vl)}, vok.foks l ↔ ∀ x ∈ l, vok x.2
  | [] => by rw [vok.foks]; simp
  | (n, t) :: ts => by rw [vok.foks, foks_iff (l := ts)]; simp
theorem vok_iff {t : Vl} : vok t ↔ t.s.length ≤ 9223372036854775807 ∧ (t.l.length ≤ 9223372036854775807 ∧ ∀ x ∈ t.l, vok x) ∧ t.f.length ≤ 9223372036854775807 ∧ ∀ x ∈ t.f, vok x.2 := by
  obtain ⟨k, n, s, l, f⟩ := t
  rw [vok, voks_iff, foks_iff]
  rfl
/-- How many values are within one. -/
def sz : Vl → Nat
  | .mk _ _ _ l f => 1 + szl l + szf f
where
  szl : List Vl → Nat
  | [] => 0
  | t :: ts => sz t + szl ts
  szf : List (Int × Vl) → Nat
  | [] => 0
  | (_, v) :: ts => sz v + szf ts
theorem sz_eq (t : Vl) : sz t = 1 + sz.szl t.l + sz.szf t.f := by obtain ⟨k, n, s, l, f⟩ := t; rw [sz]; rfl
theorem szl_take {l : List Vl} {k : Nat} (h : k < l.length) : sz.szl (l.take (k + 1)) = sz.szl (l.take k) + sz (l[k]'h) := by
  induction l generalizing k with
  | nil => exact absurd h (Nat.not_lt_zero _)
  | cons t ts ih =>
    cases k with
    | zero => simp [sz.szl]
    | succ k =>
      rw [List.take_succ_cons, List.take_succ_cons, sz.szl, sz.szl, ih (by simpa using h)]
      simp; omega
theorem szf_take {l : List (Int × Vl)} {k : Nat} (h : k < l.length) : sz.szf (l.take (k + 1)) = sz.szf (l.take k) + sz (l[k]'h).2 := by
  induction l generalizing k with
  | nil => exact absurd h (Nat.not_lt_zero _)
  | cons t ts ih =>
    obtain ⟨n, t⟩ := t
    cases k with
    | zero => simp [sz.szf]
    | succ k =>
      rw [List.take_succ_cons, List.take_succ_cons, sz.szf, sz.szf, ih (by simpa using h)]
      simp; omega
/-- How many levels a value has. -/
def lv : Vl → Nat
  | .mk k _ _ l f => if k ≠ 5 ∧ k ≠ 6 ∧ l = [] ∧ f = [] then 0 else 1 + max (lvl l) (lvf f)
where
  lvl : List Vl → Nat
  | [] => 0
  | t :: ts => max (lv t) (lvl ts)
  lvf : List (Int × Vl) → Nat
  | [] => 0
  | (_, v) :: ts => max (lv v) (lvf ts)
/-- The first of two that isn't 0. -/
def o1 (a b : Int) : Int := if a ≠ 0 then a else b
/-- The sign of a difference. -/
def sg (a b : Int) : Int := if a < b then -1 else if b < a then 1 else 0
/-- The order of byte strings. -/
def ob : List UInt8 → List UInt8 → Int
  | [], [] => 0
  | [], _ :: _ => -1
  | _ :: _, [] => 1
  | a :: r, b :: bs => o1 (sg (a.toNat : Int) (b.toNat : Int)) (ob r bs)
mutual
/-- The order of values. -/
def cm : Vl → Vl → Int
  | .mk k n s l f, .mk k' n' s' l' f' => o1 (sg k k') (o1 (sg n n') (o1 (ob s s') (o1 (cml l l') (cmf f f'))))
def cml : List Vl → List Vl → Int
  | [], [] => 0
  | [], _ :: _ => -1
  | _ :: _, [] => 1
  | a :: r, b :: bs => o1 (cm a b) (cml r bs)
def cmf : List (Int × Vl) → List (Int × Vl) → Int
  | [], [] => 0
  | [], _ :: _ => -1
  | _ :: _, [] => 1
  | (n, a) :: r, (m, b) :: bs => o1 (sg n m) (o1 (cm a b) (cmf r bs))
end
theorem o1_neg (a b : Int) : o1 (-a) (-b) = - o1 a b := by unfold o1; split <;> split <;> omega
theorem sg_neg (a b : Int) : sg b a = - sg a b := by unfold sg; split <;> split <;> omega
theorem ob_neg : ∀ a b : List UInt8, ob b a = - ob a b
  | [], [] => rfl
  | [], _ :: _ => rfl
  | _ :: _, [] => rfl
  | a :: r, b :: bs => by rw [ob, ob, ob_neg r bs, sg_neg, o1_neg]
mutual
theorem cm_neg : ∀ a b : Vl, cm b a = - cm a b
  | .mk k n s l f, .mk k' n' s' l' f' => by rw [cm, cm, cml_neg l l', cmf_neg f f', ob_neg s, sg_neg k, sg_neg n, o1_neg, o1_neg, o1_neg, o1_neg]
theorem cml_neg : ∀ a b : List Vl, cml b a = - cml a b
  | [], [] => by rw [cml]; rfl
  | [], _ :: _ => by rw [cml, cml]; rfl
  | _ :: _, [] => by rw [cml, cml]
  | a :: r, b :: bs => by rw [cml, cml, cm_neg a b, cml_neg r bs, o1_neg]
theorem cmf_neg : ∀ a b : List (Int × Vl), cmf b a = - cmf a b
  | [], [] => by rw [cmf]; rfl
  | [], _ :: _ => by rw [cmf, cmf]; rfl
  | _ :: _, [] => by rw [cmf, cmf]
  | (n, a) :: r, (m, b) :: bs => by rw [cmf, cmf, cm_neg a b, cmf_neg r bs, sg_neg n, o1_neg, o1_neg]
end
theorem cm_self (a : Vl) : cm a a = 0 := by have := cm_neg a a; omega
/-- What three comparisons keep. -/
def Tri (x y z : Int) : Prop := (x = 0 → z = y) ∧ (y = 0 → z = x) ∧ (x < 0 → y < 0 → z < 0) ∧ (0 < x → 0 < y → 0 < z)
theorem Tri.o1 {x y z x' y' z' : Int} (h : Tri x y z) (h' : Tri x' y' z') : Tri (o1 x x') (o1 y y') (o1 z z') := by
  unfold Tri at *
  unfold Proofs.Ytlebppjldoodgaa.o1
  split <;> split <;> split <;> omega
theorem tri_sg (a b c : Int) : Tri (sg a b) (sg b c) (sg a c) := by
  unfold Tri sg
  split <;> split <;> split <;> first | omega | (split <;> first | omega | (split <;> first | omega | (split <;> omega)))
theorem tri_zero : Tri 0 0 0 := ⟨fun _ => rfl, fun _ => rfl, fun h => by omega, fun h => by omega⟩
theorem tri_a : Tri 0 (-1) (-1) := by unfold Tri; decide
theorem tri_b : Tri (-1) 1 0 := by unfold Tri; decide
theorem tri_c : Tri 1 0 1 := by unfold Tri; decide
theorem tri_ob : ∀ a b c : List UInt8, Tri (ob a b) (ob b c) (ob a c)
  | [], [], [] => by simp only [ob]; exact tri_zero
  | [], [], _ :: _ => by simp only [ob]; exact tri_a
  | [], _ :: _, [] => by simp only [ob]; exact tri_b
  | [], b :: bs, c :: cs => by
    have : ob [] (b :: bs) = -1 := rfl
    have : ob [] (c :: cs) = -1 := rfl
    unfold Tri; omega
  | _ :: _, [], [] => by simp only [ob]; exact tri_c
  | a :: r, [], c :: cs => by
    have : ob (a :: r) [] = 1 := rfl
    have : ob [] (c :: cs) = -1 := rfl
    unfold Tri; omega
  | a :: r, b :: bs, [] => by
    have : ob (a :: r) [] = 1 := rfl
    have : ob (b :: bs) [] = 1 := rfl
    unfold Tri; omega
  | a :: r, b :: bs, c :: cs => by
    rw [ob, ob, ob]
    exact (tri_sg _ _ _).o1 (tri_ob r bs cs)
mutual
theorem tri_cm : ∀ a b c : Vl, Tri (cm a b) (cm b c) (cm a c)
  | .mk k n s l f, .mk k' n' s' l' f', .mk k2 n2 s2 l2 f2 => by
    rw [cm, cm, cm]
    exact (tri_sg _ _ _).o1 ((tri_sg _ _ _).o1 ((tri_ob _ _ _).o1 ((tri_cml l l' l2).o1 (tri_cmf f f' f2))))
theorem tri_cml : ∀ a b c : List Vl, Tri (cml a b) (cml b c) (cml a c)
  | [], [], [] => by simp only [cml]; exact tri_zero
  | [], [], _ :: _ => by simp only [cml]; exact tri_a
  | [], _ :: _, [] => by simp only [cml]; exact tri_b
  | [], b :: bs, c :: cs => by
    have h1 : cml [] (b :: bs) = -1 := by rw [cml]
    have h2 : cml [] (c :: cs) = -1 := by rw [cml]
    unfold Tri; omega
  | _ :: _, [], [] => by simp only [cml]; exact tri_c
  | a :: r, [], c :: cs => by
    have h1 : cml (a :: r) [] = 1 := by rw [cml]
    have h2 : cml [] (c :: cs) = -1 := by rw [cml]
    unfold Tri; omega
  | a :: r, b :: bs, [] => by
    have h1 : cml (a :: r) [] = 1 := by rw [cml]
    have h2 : cml (b :: bs) [] = 1 := by rw [cml]
    unfold Tri; omega
  | a :: r, b :: bs, c :: cs => by
    rw [cml, cml, cml]
    exact (tri_cm a b c).o1 (tri_cml r bs cs)
theorem tri_cmf : ∀ a b c : List (Int × Vl), Tri (cmf a b) (cmf b c) (cmf a c)
  | [], [], [] => by simp only [cmf]; exact tri_zero
  | [], [], _ :: _ => by simp only [cmf]; exact tri_a
  | [], _ :: _, [] => by simp only [cmf]; exact tri_b
  | [], b :: bs, c :: cs => by
    have h1 : cmf [] (b :: bs) = -1 := by rw [cmf]
    have h2 : cmf [] (c :: cs) = -1 := by rw [cmf]
    unfold Tri; omega
  | _ :: _, [], [] => by simp only [cmf]; exact tri_c
  | a :: r, [], c :: cs => by
    have h1 : cmf (a :: r) [] = 1 := by rw [cmf]
    have h2 : cmf [] (c :: cs) = -1 := by rw [cmf]
    unfold Tri; omega
  | a :: r, b :: bs, [] => by
    have h1 : cmf (a :: r) [] = 1 := by rw [cmf]
    have h2 : cmf (b :: bs) [] = 1 := by rw [cmf]
    unfold Tri; omega
  | (n, a) :: r, (m, b) :: bs, (q, c) :: cs => by
    rw [cmf, cmf, cmf]
    exact (tri_sg _ _ _).o1 ((tri_cm a b c).o1 (tri_cmf r bs cs))
end
end Go.Proofs.Ytlebppjldoodgaa
/-
  The reference's order of texts, sizes and levels. No conditions beyond those that each names.
-/
namespace Go.Proofs.Ytlebppjldoodgaa
open Go.RowKit
set_option maxRecDepth 100000 in
set_option maxHeartbeats 2000000 in
theorem refSign_any (a b : Int) (w : World) : Calls Try.prog 38 #[.int .i64 a, .int .i64 b] w (Is (.int .i64 (sg a b)) w) := by
  by_cases h1 : a < b
  · have d1 : decide (a < b) = true := decide_eq_true h1
    have e : sg a b = -1 := by unfold sg; rw [if_pos h1]
    rw [e]
    clear e
    go_enter Try.func38, Try.ntmps38
    go_wp2_with fail
    go_ret
    exact ⟨rfl, rfl⟩
  · have d1 : decide (a < b) = false := decide_eq_false h1
    by_cases h2 : b < a
    · have d2 : decide (b < a) = true := decide_eq_true h2
      have e : sg a b = 1 := by unfold sg; rw [if_neg h1, if_pos h2]
      rw [e]
      clear e
      go_enter Try.func38, Try.ntmps38
      go_wp2_with fail
      go_ret
      exact ⟨rfl, rfl⟩
    · have d2 : decide (b < a) = false := decide_eq_false h2
      have e : sg a b = 0 := by unfold sg; rw [if_neg h1, if_neg h2]
      rw [e]
      clear e
      go_enter Try.func38, Try.ntmps38
      go_wp2_with fail
      go_ret
      exact ⟨rfl, rfl⟩
theorem ob_drop {a b : List UInt8} {k : Nat} (h1 : k < a.length) (h2 : k < b.length) : ob (a.drop k) (b.drop k) = o1 (sg ((a[k]'h1).toNat : Int) ((b[k]'h2).toNat : Int)) (ob (a.drop (k + 1)) (b.drop (k + 1))) := by
  rw [List.drop_eq_getElem_cons h1, List.drop_eq_getElem_cons h2, ob]
theorem ob_end (a b : List UInt8) (k : Nat) (h : a.length ≤ k ∨ b.length ≤ k) (h1 : k ≤ a.length) (h2 : k ≤ b.length) : ob (a.drop k) (b.drop k) = sg (a.length : Int) (b.length : Int) := by
  rcases h with h | h
  · obtain rfl : k = a.length := by omega
    rw [List.drop_length]
    by_cases e : b.length = a.length
    · rw [← e, List.drop_length, ob]; unfold sg; omega
    · rw [List.drop_eq_getElem_cons (show a.length < b.length by omega), ob]; unfold sg; rw [if_pos (by omega)]
  · obtain rfl : k = b.length := by omega
    rw [List.drop_length]
    by_cases e : a.length = b.length
    · rw [← e, List.drop_length, ob]; unfold sg; omega
    · rw [List.drop_eq_getElem_cons (show b.length < a.length by omega), ob]; unfold sg; rw [if_neg (by omega), if_pos (by omega)]
set_option maxRecDepth 100000 in
set_option maxHeartbeats 2000000 in
theorem refOrder_any (a b : List UInt8) (w : World) (ha : a.length ≤ 9223372036854775807) (hb : b.length ≤ 9223372036854775807) : Calls Try.prog 39 #[.string (bs a), .string (bs b)] w (Iq (.int .i64 (ob a b)) w) := by
  obtain ⟨m, hm⟩ : ∃ m, a.length = m := ⟨_, rfl⟩
  obtain ⟨n, hn⟩ : ∃ n, b.length = n := ⟨_, rfl⟩
  obtain ⟨r, hr⟩ : ∃ r, ob a b = r := ⟨_, rfl⟩
  have HM := Lib.hid hm
  have HN := Lib.hid hn
  have z1 : (bs a).size = m := by rw [bs_size, hm]
  have z2 : (bs b).size = n := by rw [bs_size, hn]
  rw [hr]
  have H0 := Lib.hid (show ob (a.drop 0) (b.drop 0) = r from hr)
  rw [hm] at ha
  rw [hn] at hb
  clear hm hn hr
  go_enter Try.func39, Try.ntmps39
  go_wp2_with fail
  go_loopw [5] (fun i wr => ∃ (k q : Nat), k ≤ m ∧ k ≤ n ∧ i = .int .i64 (k : Int) ∧ wr = w.drewN q ∧ Hid (ob (a.drop k) (b.drop k) = r)) (fun i _ => m - (intOf i).toNat)
  case atStart => exact ⟨0, 0, by omega, by omega, rfl, rfl, H0⟩
  case round =>
    obtain ⟨k, q, hk, hk2, rfl, rfl, hI⟩ := hrel
    clear H0
    by_cases hlt : k < m ∧ k < n
    · obtain ⟨g1, g2⟩ := hlt
      have h1 : k < a.length := by rw [HM.out]; exact g1
      have h2 : k < b.length := by rw [HN.out]; exact g2
      have hE := hI.out
      rw [ob_drop h1 h2] at hE
      have l1 : k < (bs a).size := by rw [z1]; exact g1
      have l2 : k < (bs b).size := by rw [z2]; exact g2
      have e1 : ((bs a)[k]'l1).toNat = (a[k]'h1).toNat := rfl
      have e2 : ((bs b)[k]'l2).toNat = (b[k]'h2).toNat := rfl
      generalize (a[k]'h1).toNat = x at *
      generalize (b[k]'h2).toNat = y at *
      clear hI
      by_cases c1 : x < y
      · have d1 : decide (x < y) = true := decide_eq_true c1
        have HE := Lib.hid (show (-1 : Int) = r by rw [← hE]; unfold o1 sg; rw [if_pos (show (x : Int) < y by omega)]; rfl)
        clear hE
        go_wp2_with fail
        go_quiet (fail)
        go_wp2_with fail
        go_ret
        obtain rfl := HE.out
        exact ⟨_, rfl, by simp only [drewN_add]; rfl⟩
      · have d1 : decide (x < y) = false := decide_eq_false c1
        by_cases c2 : y < x
        · have d2 : decide (y < x) = true := decide_eq_true c2
          have HE := Lib.hid (show (1 : Int) = r by rw [← hE]; unfold o1 sg; rw [if_neg (show ¬ (x : Int) < y by omega), if_pos (show (y : Int) < x by omega)]; rfl)
          clear hE
          go_wp2_with fail
          go_quiet (fail)
          go_wp2_with fail
          go_quiet (fail)
          go_wp2_with fail
          go_ret
          obtain rfl := HE.out
          exact ⟨_, rfl, by simp only [drewN_add]; rfl⟩
        · have d2 : decide (y < x) = false := decide_eq_false c2
          have HE := Lib.hid (show ob (a.drop (k + 1)) (b.drop (k + 1)) = r by rw [← hE]; unfold o1 sg; rw [if_neg (show ¬ (x : Int) < y by omega), if_neg (show ¬ (y : Int) < x by omega)]; rfl)
          clear hE
          go_wp2_with fail
          go_quiet (fail)
          go_wp2_with fail
          go_quiet (fail)
          go_wp2_with fail
          go_roundw
          case rel => exact ⟨k + 1, _, by omega, by omega, by go_num, rfl, HE⟩
          case measure => simp [intOf]; omega
    · have hE := hI.out
      rw [ob_end a b k (by rw [HM.out, HN.out]; omega) (by rw [HM.out]; exact hk) (by rw [HN.out]; exact hk2), HM.out, HN.out] at hE
      have HE := Lib.hid hE
      clear hI hE
      have cS := fun W => refSign_any (m : Int) (n : Int) W
      by_cases g1 : k < m
      · obtain rfl : k = n := by omega
        go_wp2_with fail
        refine (cS _).mono ?_
        rintro e w2 ⟨rfl, rfl⟩
        go_wp2_with fail
        go_ret
        obtain rfl := HE.out
        exact ⟨_, rfl, rfl⟩
      · obtain rfl : k = m := by omega
        go_wp2_with fail
        refine (cS _).mono ?_
        rintro e w2 ⟨rfl, rfl⟩
        go_wp2_with fail
        go_ret
        obtain rfl := HE.out
        exact ⟨_, rfl, rfl⟩
theorem wrap_add (a b : Int) : wrap64 (wrap64 a + wrap64 b) = wrap64 (a + b) := by unfold wrap64; omega
theorem intK (a : Int) : IntKind.i64.wrap a = wrap64 a := IntWalk.i64_left a
set_option maxRecDepth 100000 in
set_option maxHeartbeats 4000000 in
theorem refSize_any (N : Nat) : ∀ (t : Vl) (v : Value) (w : World), SizeOf.sizeOf t < N → vok t → VlV w t v →
    Calls Try.prog 26 #[v] w (Ib (.int .i64 (wrap64 (sz t : Int))) w) := by
  induction N with
  | zero => intro t v w h; omega
  | succ N ih =>
    intro t v w hN hok hv
    obtain ⟨-, ⟨hl, hlo⟩, hf, hfo⟩ := vok_iff.1 hok
    have cL : ∀ (i : Nat) (h : i < t.l.length) v w, VlV w (t.l[i]'h) v → Calls Try.prog 26 #[v] w (Ib (.int .i64 (wrap64 (sz (t.l[i]'h) : Int))) w) := fun i h v w => ih _ v w (by have := size_l h; omega) (hlo _ (List.getElem_mem h))
    have cF : ∀ (i : Nat) (h : i < t.f.length) v w, VlV w (t.f[i]'h).2 v → Calls Try.prog 26 #[v] w (Ib (.int .i64 (wrap64 (sz (t.f[i]'h).2 : Int))) w) := fun i h v w => ih _ v w (by have := size_f h; omega) (hfo _ (List.getElem_mem h))
    have HZ := Lib.hid (sz_eq t)
    obtain ⟨A, c, A2, c2, rfl, hR, hR2⟩ := hv
    obtain ⟨m, hm⟩ : ∃ m, t.l.length = m := ⟨_, rfl⟩
    obtain ⟨n, hn⟩ : ∃ n, t.f.length = n := ⟨_, rfl⟩
    obtain ⟨z, hz⟩ : ∃ z, wrap64 (sz t : Int) = z := ⟨_, rfl⟩
    have HQ := Lib.hid hz
    have HM := Lib.hid hm
    have HN := Lib.hid hn
    rw [hm] at hl ⊢
    rw [hn] at hf ⊢
    rw [hz]
    have hB := Bx.new5 w 25 (.int .i64 t.kind) (.int .i64 t.n) (.string (bs t.s)) (.slice A m c) (.slice A2 n c2)
    have H0 := Lib.hid (show (1 : Int) = wrap64 ((1 + sz.szl (t.l.take 0) : Nat) : Int) by rw [List.take_zero, sz.szl]; unfold wrap64; omega)
    clear hm hn hz ih hok hlo hfo hN
    go_enter Try.func26, Try.ntmps26
    go_wp2_with fail
    go_loopw [3, 4] (fun s i wr => ∃ (k : Nat) (x : Int), k ≤ m ∧ i = .int .i64 (k : Int) ∧ s = .int .i64 x ∧ Hid (x = wrap64 ((1 + sz.szl (t.l.take k) : Nat) : Int)) ∧ Bx wr w.heap.size [.int .i64 t.kind, .int .i64 t.n, .string (bs t.s), .slice A m c, .slice A2 n c2] ∧ Below w.heap.size w wr) (fun _ i _ => m - (intOf i).toNat)
    case atStart => exact ⟨0, 1, by omega, rfl, rfl, H0, hB, ab1 _ _⟩
    case round =>
      obtain ⟨k, x, hk, rfl, rfl, hx, hBr, hb⟩ := hrel
      have c3 := hBr.c 3 rfl
      have c4 := hBr.c 4 rfl
      by_cases hlt : k < m
      · have h1 : k < t.l.length := by rw [HM.out]; exact hlt
        obtain ⟨a, rfl, hA⟩ := hR.get h1
        have hA := VlA.next hb _ _ hA
        obtain ⟨A3, c5, A4, c6, h0, h1', h2, h3, h4, hV⟩ := hA.val
        have hblk : (a.add (k * 5)).block < wr.heap.size := blk_lt h0
        have cS := cL k h1 _ wr hV
        have HS := Lib.hid (szl_take h1)
        have hx2 := hx.out
        generalize t.l[k]'h1 = u at *
        have HX := Lib.hid (show wrap64 (x + wrap64 (sz u : Int)) = wrap64 ((1 + sz.szl (t.l.take (k + 1)) : Nat) : Int) by
          rw [hx2, wrap_add, HS.out]; congr 1; omega)
        generalize wrap64 (sz u : Int) = y at *
        clear hx hx2 HS cL cF hR hR2 hA
        obtain ⟨x2, hx2⟩ : ∃ x2, wrap64 (x + y) = x2 := ⟨_, rfl⟩
        rw [hx2] at HX
        go_wp2_with fail
        refine cS.mono ?_
        rintro e w2 ⟨rfl, hb2⟩
        go_wp2_with fail
        go_roundw
        case rel => exact ⟨k + 1, x2, by omega, by go_num, by first | rfl | (rw [← hx2]) | (rw [intK, ← hx2]), HX, hBr.next hb2, Below.next hb hb2⟩
        case measure => simp [intOf]; omega
      · obtain rfl : k = m := by omega
        have HX := Lib.hid (show x = wrap64 ((1 + sz.szl t.l + sz.szf (t.f.take 0) : Nat) : Int) by rw [hx.out, List.take_of_length_le (by rw [HM.out]; exact Nat.le_refl _), List.take_zero, sz.szf]; rfl)
        clear hx H0 hB cL hR
        go_wp2_with fail
        go_loopw [3, 5] (fun s i wr => ∃ (j : Nat) (y : Int), j ≤ n ∧ i = .int .i64 (j : Int) ∧ s = .int .i64 y ∧ Hid (y = wrap64 ((1 + sz.szl t.l + sz.szf (t.f.take j) : Nat) : Int)) ∧ Bx wr w.heap.size [.int .i64 t.kind, .int .i64 t.n, .string (bs t.s), .slice A k c, .slice A2 n c2] ∧ Below w.heap.size w wr) (fun _ i _ => n - (intOf i).toNat)
        case atStart => exact ⟨0, x, by omega, rfl, rfl, HX, hBr, hb⟩
        case round =>
          clear hb hBr c3 c4 HX
          obtain ⟨j, x, hj, rfl, rfl, hx, hBr, hb⟩ := hrel
          have c3 := hBr.c 3 rfl
          have c4 := hBr.c 4 rfl
          by_cases hlt : j < n
          · have h1 : j < t.f.length := by rw [HN.out]; exact hlt
            obtain ⟨a, rfl, hA⟩ := hR2.get h1
            have hA := EtA.next hb _ _ hA
            obtain ⟨A3, c5, A4, c6, hn0, h0, h1', h2, h3, h4, hV⟩ := hA.val
            have hblk : (a.add (j * 6)).block < wr.heap.size := blk_lt hn0
            have cS := cF j h1 _ wr hV
            have HS := Lib.hid (szf_take h1)
            have hx2 := hx.out
            generalize (t.f[j]'h1).2 = u at *
            have HX := Lib.hid (show wrap64 (x + wrap64 (sz u : Int)) = wrap64 ((1 + sz.szl t.l + sz.szf (t.f.take (j + 1)) : Nat) : Int) by
              rw [hx2, wrap_add, HS.out]; congr 1; omega)
            generalize wrap64 (sz u : Int) = y at *
            clear hx hx2 HS cF hR2 hA
            obtain ⟨x2, hx2⟩ : ∃ x2, wrap64 (x + y) = x2 := ⟨_, rfl⟩
            rw [hx2] at HX
            go_wp2_with fail
            refine cS.mono ?_
            rintro e w2 ⟨rfl, hb2⟩
            go_wp2_with fail
            go_roundw
            case rel => exact ⟨j + 1, x2, by omega, by go_num, by first | rfl | (rw [← hx2]) | (rw [intK, ← hx2]), HX, hBr.next hb2, Below.next hb hb2⟩
            case measure => simp [intOf]; omega
          · obtain rfl : j = n := by omega
            obtain rfl : x = z := by
              rw [← HQ.out, hx.out, HZ.out, List.take_of_length_le (by rw [HN.out]; exact Nat.le_refl _)]
            clear hx cF hR2
            go_wp2_with fail
            go_ret
            exact ⟨rfl, hb⟩
end Go.Proofs.Ytlebppjldoodgaa
/-
  The reference's Compare and Equal. No conditions beyond those that each names.
-/
namespace Go.Proofs.Ytlebppjldoodgaa
open Go.RowKit Go.Sort
theorem cml_drop {a b : List Vl} {k : Nat} (h1 : k < a.length) (h2 : k < b.length) : cml (a.drop k) (b.drop k) = o1 (cm (a[k]'h1) (b[k]'h2)) (cml (a.drop (k + 1)) (b.drop (k + 1))) := by
  rw [List.drop_eq_getElem_cons h1, List.drop_eq_getElem_cons h2, cml]
theorem cml_end (a b : List Vl) (k : Nat) (h : a.length ≤ k ∨ b.length ≤ k) (h1 : k ≤ a.length) (h2 : k ≤ b.length) : cml (a.drop k) (b.drop k) = sg (a.length : Int) (b.length : Int) := by
  rcases h with h | h
  · obtain rfl : k = a.length := by omega
    rw [List.drop_length]
    by_cases e : b.length = a.length
    · rw [← e, List.drop_length, cml]; unfold sg; omega
    · rw [List.drop_eq_getElem_cons (show a.length < b.length by omega), cml]; unfold sg; rw [if_pos (by omega)]
  · obtain rfl : k = b.length := by omega
    rw [List.drop_length]
    by_cases e : a.length = b.length
    · rw [← e, List.drop_length, cml]; unfold sg; omega
    · rw [List.drop_eq_getElem_cons (show b.length < a.length by omega), cml]; unfold sg; rw [if_neg (by omega), if_pos (by omega)]
theorem cmf_drop {a b : List (Int × Vl)} {k : Nat} (h1 : k < a.length) (h2 : k < b.length) : cmf (a.drop k) (b.drop k) = o1 (sg (a[k]'h1).1 (b[k]'h2).1) (o1 (cm (a[k]'h1).2 (b[k]'h2).2) (cmf (a.drop (k + 1)) (b.drop (k + 1)))) := by
  rw [List.drop_eq_getElem_cons h1, List.drop_eq_getElem_cons h2]
  obtain ⟨n, x⟩ := a[k]'h1
  obtain ⟨m, y⟩ := b[k]'h2
  rw [cmf]
theorem cmf_end (a b : List (Int × Vl)) (k : Nat) (h : a.length ≤ k ∨ b.length ≤ k) (h1 : k ≤ a.length) (h2 : k ≤ b.length) : cmf (a.drop k) (b.drop k) = sg (a.length : Int) (b.length : Int) := by
  rcases h with h | h
  · obtain rfl : k = a.length := by omega
    rw [List.drop_length]
    by_cases e : b.length = a.length
    · rw [← e, List.drop_length, cmf]; unfold sg; omega
    · rw [List.drop_eq_getElem_cons (show a.length < b.length by omega), cmf]; unfold sg; rw [if_pos (by omega)]
  · obtain rfl : k = b.length := by omega
    rw [List.drop_length]
    by_cases e : a.length = b.length
    · rw [← e, List.drop_length, cmf]; unfold sg; omega
    · rw [List.drop_eq_getElem_cons (show b.length < a.length by omega), cmf]; unfold sg; rw [if_neg (by omega), if_pos (by omega)]
theorem cm_eq (t u : Vl) : cm t u = o1 (sg t.kind u.kind) (o1 (sg t.n u.n) (o1 (ob t.s u.s) (o1 (cml t.l u.l) (cmf t.f u.f)))) := by
  obtain ⟨k, n, s, l, f⟩ := t
  obtain ⟨k', n', s', l', f'⟩ := u
  rw [cm]
  rfl
theorem o1_l {a b : Int} (h : a ≠ 0) : o1 a b = a := by unfold o1; rw [if_pos h]
theorem o1_r (b : Int) : o1 0 b = b := by unfold o1; rw [if_neg (by decide)]
theorem sg_lt {a b : Int} (h : a < b) : sg a b = -1 := by unfold sg; rw [if_pos h]
theorem sg_gt {a b : Int} (h : b < a) : sg a b = 1 := by unfold sg; rw [if_neg (by omega), if_pos h]
theorem sg_eq (a : Int) : sg a a = 0 := by unfold sg; rw [if_neg (by omega), if_neg (by omega)]
theorem sg_ne {a b : Int} (h : a ≠ b) : sg a b ≠ 0 := by unfold sg; split; decide; split; decide; omega
set_option maxRecDepth 100000 in
set_option maxHeartbeats 8000000 in
theorem refCompare_any (N : Nat) : ∀ (t u : Vl) (v v' : Value) (w : World), SizeOf.sizeOf t < N → vok t → vok u → VlV w t v → VlV w u v' →
    Calls Try.prog 14 #[v, v'] w (Ib (.int .i64 (cm t u)) w) := by
  induction N with
  | zero => intro t u v v' w h; omega
  | succ N ih =>
    intro t u v v' w hN hok hok' hv hv'
    obtain ⟨hs, ⟨hl, hlo⟩, hf, hfo⟩ := vok_iff.1 hok
    obtain ⟨hs', ⟨hl', hlo'⟩, hf', hfo'⟩ := vok_iff.1 hok'
    have cL : ∀ (i : Nat) (h : i < t.l.length) (h' : i < u.l.length) v v' w, VlV w (t.l[i]'h) v → VlV w (u.l[i]'h') v' → Calls Try.prog 14 #[v, v'] w (Ib (.int .i64 (cm (t.l[i]'h) (u.l[i]'h'))) w) := fun i h h' v v' w => ih _ _ v v' w (by have := size_l h; omega) (hlo _ (List.getElem_mem h)) (hlo' _ (List.getElem_mem h'))
    have cF : ∀ (i : Nat) (h : i < t.f.length) (h' : i < u.f.length) v v' w, VlV w (t.f[i]'h).2 v → VlV w (u.f[i]'h').2 v' → Calls Try.prog 14 #[v, v'] w (Ib (.int .i64 (cm (t.f[i]'h).2 (u.f[i]'h').2)) w) := fun i h h' v v' w => ih _ _ v v' w (by have := size_f h; omega) (hfo _ (List.getElem_mem h)) (hfo' _ (List.getElem_mem h'))
    have hE := cm_eq t u
    have cO := fun W => refOrder_any t.s u.s W hs hs'
    obtain ⟨A, c, A2, c2, rfl, hR, hR2⟩ := hv
    obtain ⟨A', c', A2', c2', rfl, hR', hR2'⟩ := hv'
    obtain ⟨m, hm⟩ : ∃ m, t.l.length = m := ⟨_, rfl⟩
    obtain ⟨n, hn⟩ : ∃ n, t.f.length = n := ⟨_, rfl⟩
    obtain ⟨m', hm'⟩ : ∃ m', u.l.length = m' := ⟨_, rfl⟩
    obtain ⟨n', hn'⟩ : ∃ n', u.f.length = n' := ⟨_, rfl⟩
    obtain ⟨z, hz⟩ : ∃ z, cm t u = z := ⟨_, rfl⟩
    have HM := Lib.hid hm
    have HN := Lib.hid hn
    have HM' := Lib.hid hm'
    have HN' := Lib.hid hn'
    rw [hm] at hl ⊢
    rw [hn] at hf ⊢
    rw [hm'] at hl' ⊢
    rw [hn'] at hf' ⊢
    rw [hz] at hE ⊢
    have hB := (Bx.new5 w 25 (.int .i64 t.kind) (.int .i64 t.n) (.string (bs t.s)) (.slice A m c) (.slice A2 n c2)).next (ab1 _ (Obj.cells #[.int .i64 u.kind, .int .i64 u.n, .string (bs u.s), .slice A' m' c', .slice A2' n' c2'] 25))
    have hB' := Bx.new5 (w.alloc (Obj.cells #[.int .i64 t.kind, .int .i64 t.n, .string (bs t.s), .slice A m c, .slice A2 n c2] 25)) 25 (.int .i64 u.kind) (.int .i64 u.n) (.string (bs u.s)) (.slice A' m' c') (.slice A2' n' c2')
    have hab := ab2 w (Obj.cells #[.int .i64 t.kind, .int .i64 t.n, .string (bs t.s), .slice A m c, .slice A2 n c2] 25) (Obj.cells #[.int .i64 u.kind, .int .i64 u.n, .string (bs u.s), .slice A' m' c', .slice A2' n' c2'] 25)
    have z1 : (w.alloc (Obj.cells #[.int .i64 t.kind, .int .i64 t.n, .string (bs t.s), .slice A m c, .slice A2 n c2] 25)).heap.size = w.heap.size + 1 := by simp
    rw [z1] at hB'
    clear hm hn hm' hn' hz ih hok hok' hlo hfo hlo' hfo' hN z1 hs hs'
    have cS := fun a b W => refSign_any a b W
    by_cases h1 : t.kind = u.kind
    case neg =>
      have d1 : (t.kind != u.kind) = true := by simpa using h1
      have HE := Lib.hid (show sg t.kind u.kind = z by rw [hE, o1_l (sg_ne h1)])
      clear hE hR hR' hR2 hR2' cL cF hB hB' cO
      go_enter Try.func14, Try.ntmps14
      go_wp2_with fail
      refine (cS _ _ _).mono ?_
      rintro e w2 ⟨rfl, rfl⟩
      go_wp2_with fail
      go_ret
      obtain rfl := HE.out
      exact ⟨rfl, hab⟩
    case pos =>
    have d1 : (t.kind != u.kind) = false := by simpa using h1
    rw [h1, sg_eq, o1_r] at hE
    clear h1
    by_cases h2 : t.n < u.n
    · have d2 : decide (t.n < u.n) = true := decide_eq_true h2
      have HE := Lib.hid (show (-1 : Int) = z by rw [hE, sg_lt h2, o1_l (by decide)])
      clear hE hR hR' hR2 hR2' cL cF hB hB' cO
      go_enter Try.func14, Try.ntmps14
      go_wp2_with fail
      go_ret
      obtain rfl := HE.out
      exact ⟨rfl, hab⟩
    have d2 : decide (t.n < u.n) = false := decide_eq_false h2
    by_cases h3 : u.n < t.n
    · have d3 : decide (u.n < t.n) = true := decide_eq_true h3
      have HE := Lib.hid (show (1 : Int) = z by rw [hE, sg_gt h3, o1_l (by decide)])
      clear hE hR hR' hR2 hR2' cL cF hB hB' cO
      go_enter Try.func14, Try.ntmps14
      go_wp2_with fail
      go_ret
      obtain rfl := HE.out
      exact ⟨rfl, hab⟩
    have d3 : decide (u.n < t.n) = false := decide_eq_false h3
    rw [show t.n = u.n by omega, sg_eq, o1_r] at hE
    obtain ⟨o, ho⟩ : ∃ o, ob t.s u.s = o := ⟨_, rfl⟩
    rw [ho] at cO hE
    clear ho
    by_cases h4 : o = 0
    case neg =>
      have d4 : (o != 0) = true := by simpa using h4
      have HE := Lib.hid (show o = z by rw [hE, o1_l h4])
      clear h4
      clear hE hR hR' hR2 hR2' cL cF hB hB'
      go_enter Try.func14, Try.ntmps14
      go_wp2_with fail
      refine (cO _).mono ?_
      rintro e w2 ⟨qn, rfl, rfl⟩
      go_wp2_with fail
      go_ret
      obtain rfl := HE.out
      exact ⟨rfl, below_drewN hab qn⟩
    case pos =>
    subst h4
    rw [o1_r] at hE
    have H0 := Lib.hid (show o1 (cml (t.l.drop 0) (u.l.drop 0)) (cmf t.f u.f) = z from hE.symm)
    clear hE
    go_enter Try.func14, Try.ntmps14
    go_wp2_with fail
    refine (cO _).mono ?_
    rintro e w2 ⟨qn, rfl, rfl⟩
    have hab2 := below_drewN hab qn
    have hC := hB.next (below_drewN (Below.refl _ _) qn)
    have hC' := hB'.next (below_drewN (Below.refl _ _) qn)
    clear cO hab hB hB' d1 d2 d3 h2 h3
    go_wp2_with fail
    go_loopw [6] (fun i wr => ∃ (k : Nat), k ≤ m ∧ k ≤ m' ∧ i = .int .i64 (k : Int) ∧ Hid (o1 (cml (t.l.drop k) (u.l.drop k)) (cmf t.f u.f) = z) ∧ Bx wr w.heap.size [.int .i64 t.kind, .int .i64 t.n, .string (bs t.s), .slice A m c, .slice A2 n c2] ∧ Bx wr (w.heap.size + 1) [.int .i64 u.kind, .int .i64 u.n, .string (bs u.s), .slice A' m' c', .slice A2' n' c2'] ∧ Below w.heap.size w wr) (fun i _ => m - (intOf i).toNat)
    case atStart => exact ⟨0, by omega, by omega, rfl, H0, hC, hC', hab2⟩
    case round =>
      clear hC hC' hab2
      obtain ⟨k, hk, hk', rfl, hI, hC, hC', hb⟩ := hrel
      have c3 := hC.c 3 rfl
      have c4 := hC.c 4 rfl
      have c3' := hC'.c 3 rfl
      have c4' := hC'.c 4 rfl
      clear H0
      by_cases hlt : k < m ∧ k < m'
      · obtain ⟨g1, g2⟩ := hlt
        have e1 : k < t.l.length := by rw [HM.out]; exact g1
        have e2 : k < u.l.length := by rw [HM'.out]; exact g2
        have hI := hI.out
        rw [cml_drop e1 e2] at hI
        obtain ⟨a, rfl, hA⟩ := hR.get e1
        obtain ⟨a', rfl, hA'⟩ := hR'.get e2
        obtain ⟨B, p, B2, p2, x0, x1, x2, x3, x4, hV⟩ := (VlA.next hb _ _ hA).val
        obtain ⟨B', p', B2', p2', y0, y1, y2, y3, y4, hV'⟩ := (VlA.next hb _ _ hA').val
        have hblk : (a.add (k * 5)).block < wr.heap.size := blk_lt x0
        have hblk' : (a'.add (k * 5)).block < wr.heap.size := blk_lt y0
        have cR := fun W (h : Below wr.heap.size wr W) => cL k e1 e2 _ _ W (hV.next h) (hV'.next h)
        generalize t.l[k]'e1 = x at *
        generalize u.l[k]'e2 = y at *
        generalize cm x y = r at *
        have j3 := fun d os => cell_regrown c3 d os
        have j3' := fun d os => cell_regrown c3' d os
        have i0 := fun d os => cell_regrown x0 d os
        have i1 := fun d os => cell_regrown x1 d os
        have i2 := fun d os => cell_regrown x2 d os
        have i3 := fun d os => cell_regrown x3 d os
        have i4 := fun d os => cell_regrown x4 d os
        have i0' := fun d os => cell_regrown y0 d os
        have i1' := fun d os => cell_regrown y1 d os
        have i2' := fun d os => cell_regrown y2 d os
        have i3' := fun d os => cell_regrown y3 d os
        have i4' := fun d os => cell_regrown y4 d os
        have cN := fun d os => Calls.regrown_of (cR (grow (redrawn wr d) os) (below_regrown _ d os))
        clear cL cF hR hR' hR2 hR2' hA hA' hV hV' cR
        by_cases hr : r = 0
        · subst hr
          rw [o1_r] at hI
          have HI := Lib.hid hI
          clear hI
          go_wp2_with fail
          refine wp_region_quiet_below (by kernel_rfl) (by kernel_rfl) ?_
          repeat (quiet_step (exact cN _ _))
          refine wpQuiet_nil ?_
          intro _ hw'
          obtain ⟨⟨dq, osq⟩, hw''⟩ := hw'
          subst hw''
          have hb2 := below_regrown wr dq osq
          clear j3 j3' i0 i1 i2 i3 i4 i0' i1' i2' i3' i4' cN x0 x1 x2 x3 x4 y0 y1 y2 y3 y4
          go_wp2_with fail
          go_roundw
          case rel => exact ⟨k + 1, by omega, by omega, by go_num, HI, hC.next hb2, hC'.next hb2, Below.next hb hb2⟩
          case measure => simp [intOf]; omega
        · have d5 : (r != 0) = true := by simpa using hr
          rw [o1_l (show o1 r _ ≠ 0 by rw [o1_l hr]; exact hr), o1_l hr] at hI
          have HI := Lib.hid hI
          clear hI
          go_wp2_with fail
          refine wp_region_quiet_below (by kernel_rfl) (by kernel_rfl) ?_
          repeat (quiet_step (exact cN _ _))
          refine wpQuiet_nil ?_
          intro _ hw'
          obtain ⟨⟨dq, osq⟩, hw''⟩ := hw'
          subst hw''
          have hb2 := below_regrown wr dq osq
          clear j3 j3' i0 i1 i2 i3 i4 i0' i1' i2' i3' i4' cN x0 x1 x2 x3 x4 y0 y1 y2 y3 y4
          go_wp2_with fail
          go_ret
          obtain rfl := HI.out
          exact ⟨rfl, Below.next hb hb2⟩
      · have hI := hI.out
        rw [cml_end t.l u.l k (by rw [HM.out, HM'.out]; omega) (by rw [HM.out]; exact hk) (by rw [HM'.out]; exact hk'), HM.out, HM'.out] at hI
        clear cL hR hR'
        by_cases hmm : m = m'
        case neg =>
          have d5 : ((m : Int) != (m' : Int)) = true := by simp; omega
          rw [o1_l (sg_ne (show (m : Int) ≠ (m' : Int) by omega))] at hI
          have HI := Lib.hid hI
          clear hI cF hR2 hR2'
          by_cases g1 : k < m
          · obtain rfl : k = m' := by omega
            go_wp2_with fail
            refine (cS _ _ _).mono ?_
            rintro e w2 ⟨rfl, rfl⟩
            go_wp2_with fail
            go_ret
            obtain rfl := HI.out
            exact ⟨rfl, hb⟩
          · obtain rfl : k = m := by omega
            go_wp2_with fail
            refine (cS _ _ _).mono ?_
            rintro e w2 ⟨rfl, rfl⟩
            go_wp2_with fail
            go_ret
            obtain rfl := HI.out
            exact ⟨rfl, hb⟩
        case pos =>
        subst hmm
        obtain rfl : k = m := by omega
        rw [sg_eq, o1_r] at hI
        have H0 := Lib.hid (show cmf (t.f.drop 0) (u.f.drop 0) = z from hI)
        clear hI hlt
        go_wp2_with fail
        go_loopw [8] (fun i wr => ∃ (j : Nat), j ≤ n ∧ j ≤ n' ∧ i = .int .i64 (j : Int) ∧ Hid (cmf (t.f.drop j) (u.f.drop j) = z) ∧ Bx wr w.heap.size [.int .i64 t.kind, .int .i64 t.n, .string (bs t.s), .slice A k c, .slice A2 n c2] ∧ Bx wr (w.heap.size + 1) [.int .i64 u.kind, .int .i64 u.n, .string (bs u.s), .slice A' k c', .slice A2' n' c2'] ∧ Below w.heap.size w wr) (fun i _ => n - (intOf i).toNat)
        case atStart => exact ⟨0, by omega, by omega, rfl, H0, hC, hC', hb⟩
        case round =>
          clear hC hC' hb c3 c4 c3' c4' H0
          obtain ⟨j, hj, hj', rfl, hI, hC, hC', hb⟩ := hrel
          have c4 := hC.c 4 rfl
          have c4' := hC'.c 4 rfl
          by_cases hlt : j < n ∧ j < n'
          · obtain ⟨g1, g2⟩ := hlt
            have e1 : j < t.f.length := by rw [HN.out]; exact g1
            have e2 : j < u.f.length := by rw [HN'.out]; exact g2
            have hI := hI.out
            rw [cmf_drop e1 e2] at hI
            obtain ⟨a, rfl, hA⟩ := hR2.get e1
            obtain ⟨a', rfl, hA'⟩ := hR2'.get e2
            obtain ⟨B, p, B2, p2, xn, x0, x1, x2, x3, x4, hV⟩ := (EtA.next hb _ _ hA).val
            obtain ⟨B', p', B2', p2', yn, y0, y1, y2, y3, y4, hV'⟩ := (EtA.next hb _ _ hA').val
            have hblk : (a.add (j * 6)).block < wr.heap.size := blk_lt xn
            have hblk' : (a'.add (j * 6)).block < wr.heap.size := blk_lt yn
            have cR := fun W (h : Below wr.heap.size wr W) => cF j e1 e2 _ _ W (hV.next h) (hV'.next h)
            generalize (t.f[j]'e1).1 = xn' at *
            generalize (u.f[j]'e2).1 = yn' at *
            generalize (t.f[j]'e1).2 = x at *
            generalize (u.f[j]'e2).2 = y at *
            generalize cm x y = r at *
            clear cF hR2 hR2' hA hA'
            by_cases hnn : xn' = yn'
            case neg =>
              have d5 : (xn' != yn') = true := by simpa using hnn
              rw [o1_l (sg_ne hnn)] at hI
              have HI := Lib.hid hI
              clear hI hV hV' cR hnn
              go_wp2_with fail
              go_quiet (fail)
              have cN := fun d os => Calls.regrown_of ((cS xn' yn' (grow (redrawn (wr.drewN nq) d) os)).mono fun e w' h => (show Ib (.int .i64 (sg xn' yn')) _ e w' from ⟨h.1, by rw [← h.2]; exact Below.refl _ _⟩))
              have j4 := fun d os => cell_regrown (w := wr.drewN nq) c4 d os
              have j4' := fun d os => cell_regrown (w := wr.drewN nq) c4' d os
              have hn0 := fun d os => cell_regrown (w := wr.drewN nq) xn d os
              have hn0' := fun d os => cell_regrown (w := wr.drewN nq) yn d os
              go_wp2_with fail
              refine wp_region_quiet_below (by kernel_rfl) (by kernel_rfl) ?_
              repeat (quiet_step (exact cN _ _))
              refine wpQuiet_nil ?_
              intro _ hw'
              obtain ⟨⟨dq, osq⟩, hw''⟩ := hw'
              subst hw''
              have hb2 := Below.next (below_drewN (Below.refl _ wr) nq) (below_regrown (wr.drewN nq) dq osq)
              clear j4 j4' hn0 hn0' cN
              go_wp2_with fail
              go_ret
              obtain rfl := HI.out
              exact ⟨rfl, Below.next hb hb2⟩
            case pos =>
            subst hnn
            have d5 : (xn' != xn') = false := by simp
            rw [sg_eq, o1_r] at hI
            have HI := Lib.hid hI
            clear hI hV hV'
            go_wp2_with fail
            go_quiet (fail)
            have cN := fun d os => Calls.regrown_of (cR (grow (redrawn (wr.drewN nq) d) os) (Below.next (below_drewN (Below.refl _ wr) nq) (below_regrown (wr.drewN nq) d os)))
            clear cR
            have j4 := fun d os => cell_regrown (w := wr.drewN nq) c4 d os
            have j4' := fun d os => cell_regrown (w := wr.drewN nq) c4' d os
            have i0 := fun d os => cell_regrown (w := wr.drewN nq) x0 d os
            have i1 := fun d os => cell_regrown (w := wr.drewN nq) x1 d os
            have i2 := fun d os => cell_regrown (w := wr.drewN nq) x2 d os
            have i3 := fun d os => cell_regrown (w := wr.drewN nq) x3 d os
            have i4 := fun d os => cell_regrown (w := wr.drewN nq) x4 d os
            have i0' := fun d os => cell_regrown (w := wr.drewN nq) y0 d os
            have i1' := fun d os => cell_regrown (w := wr.drewN nq) y1 d os
            have i2' := fun d os => cell_regrown (w := wr.drewN nq) y2 d os
            have i3' := fun d os => cell_regrown (w := wr.drewN nq) y3 d os
            have i4' := fun d os => cell_regrown (w := wr.drewN nq) y4 d os
            go_wp2_with fail
            refine wp_region_quiet_below (by kernel_rfl) (by kernel_rfl) ?_
            repeat (quiet_step (exact cN _ _))
            refine wpQuiet_nil ?_
            intro _ hw'
            obtain ⟨⟨dq, osq⟩, hw''⟩ := hw'
            subst hw''
            have hb2 := Below.next (below_drewN (Below.refl _ wr) nq) (below_regrown (wr.drewN nq) dq osq)
            clear j4 j4' i0 i1 i2 i3 i4 i0' i1' i2' i3' i4' cN x0 x1 x2 x3 x4 y0 y1 y2 y3 y4
            by_cases hr : r = 0
            · subst hr
              have HI2 := Lib.hid (show cmf (t.f.drop (j + 1)) (u.f.drop (j + 1)) = z from HI.out)
              go_wp2_with fail
              go_roundw
              case rel => exact ⟨j + 1, by omega, by omega, by go_num, HI2, hC.next hb2, hC'.next hb2, Below.next hb hb2⟩
              case measure => simp [intOf]; omega
            · have d6 : (r != 0) = true := by simpa using hr
              have HI2 := Lib.hid (show r = z by rw [← HI.out, o1_l hr])
              clear hr HI
              go_wp2_with fail
              go_ret
              obtain rfl := HI2.out
              exact ⟨rfl, Below.next hb hb2⟩
          · have hI := hI.out
            rw [cmf_end t.f u.f j (by rw [HN.out, HN'.out]; omega) (by rw [HN.out]; exact hj) (by rw [HN'.out]; exact hj'), HN.out, HN'.out] at hI
            have HI := Lib.hid hI
            clear hI cF hR2 hR2'
            by_cases g1 : j < n
            · obtain rfl : j = n' := by omega
              go_wp2_with fail
              refine (cS _ _ _).mono ?_
              rintro e w2 ⟨rfl, rfl⟩
              go_wp2_with fail
              go_ret
              obtain rfl := HI.out
              exact ⟨rfl, hb⟩
            · obtain rfl : j = n := by omega
              go_wp2_with fail
              refine (cS _ _ _).mono ?_
              rintro e w2 ⟨rfl, rfl⟩
              go_wp2_with fail
              go_ret
              obtain rfl := HI.out
              exact ⟨rfl, hb⟩
set_option maxRecDepth 100000 in
theorem refEqual_any (t u : Vl) (v v' : Value) (w : World) (hok : vok t) (hok' : vok u) (hv : VlV w t v) (hv' : VlV w u v') :
    Calls Try.prog 20 #[v, v'] w (Ib (.bool (cm t u == 0)) w) := by
  have cC := fun W h => refCompare_any (SizeOf.sizeOf t + 1) t u v v' W (by omega) hok hok' (hv.next h) (hv'.next h)
  obtain ⟨A, c, A2, c2, rfl, -, -⟩ := hv
  obtain ⟨A', c', A2', c2', rfl, -, -⟩ := hv'
  obtain ⟨z, hz⟩ : ∃ z, cm t u = z := ⟨_, rfl⟩
  rw [hz] at cC ⊢
  have c1 := cC _ (ab2 w (Obj.cells #[.int .i64 t.kind, .int .i64 t.n, .string (bs t.s), .slice A t.l.length c, .slice A2 t.f.length c2] 25) (Obj.cells #[.int .i64 u.kind, .int .i64 u.n, .string (bs u.s), .slice A' u.l.length c', .slice A2' u.f.length c2'] 25))
  clear cC hz
  go_enter Try.func20, Try.ntmps20
  go_wp2_with fail
  refine c1.mono ?_
  rintro e w2 ⟨rfl, hb⟩
  go_wp2_with fail
  go_ret
  exact ⟨rfl, Below.next (ab2 _ _ _) hb⟩
end Go.Proofs.Ytlebppjldoodgaa

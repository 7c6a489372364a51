import Derived.Test.YtlebppjldoodgaaSb
/-
  Typed values r data and r they lie in memory; their order, that it is one. No conditions beyond those that each names.
-/
namespace Go.Proofs.Ytlebppjldoodgaa
open Go.RowKit
theorem Bx.new5 (w : World) (t : TypeId) (x y z u p : Value) : Bx (w.alloc (Obj.cells #[x, y, z, u, p] t)) w.heap.size [x, y, z, u, p] :=
  ⟨by simp, fun j v e => by
    match j, e with
    | 0, e => cases e; exact ⟨by simp, by simp⟩
    | 1, e => cases e; exact ⟨by simp, by simp⟩
    | 2, e => cases e; exact ⟨by simp, by simp⟩
    | 3, e => cases e; exact ⟨by simp, by simp⟩
    | 4, e => cases e; exact ⟨by simp, by simp⟩⟩
theorem Bx.new6 (w : World) (t : TypeId) (x y z u p q : Value) : Bx (w.alloc (Obj.cells #[x, y, z, u, p, q] t)) w.heap.size [x, y, z, u, p, q] :=
  ⟨by simp, fun j v e => by
    match j, e with
    | 0, e => cases e; exact ⟨by simp, by simp⟩
    | 1, e => cases e; exact ⟨by simp, by simp⟩
    | 2, e => cases e; exact ⟨by simp, by simp⟩
    | 3, e => cases e; exact ⟨by simp, by simp⟩
    | 4, e => cases e; exact ⟨by simp, by simp⟩
    | 5, e => cases e; exact ⟨by simp, by simp⟩⟩
/-- A value. -/
inductive Vl where
  | mk : Int → Int → List UInt8 → List Vl → List (Int × Vl) → Vl
def Vl.kind : Vl → Int | .mk k _ _ _ _ => k
def Vl.n : Vl → Int | .mk _ n _ _ _ => n
def Vl.s : Vl → List UInt8 | .mk _ _ s _ _ => s
def Vl.l : Vl → List Vl | .mk _ _ _ l _ => l
def Vl.f : Vl → List (Int × Vl) | .mk _ _ _ _ f => f
mutual
/-- A value at p. -/
def VlA (w : World) : Vl → Addr → Prop
  | .mk k n s l f, p => w.cell? p = some (.int .i64 k) ∧ w.cell? (nx1 p 1) = some (.int .i64 n) ∧ w.cell? (nx1 p 2) = some (.string (bs s)) ∧ (∃ A c, w.cell? (nx1 p 3) = some (.slice A l.length c) ∧ VlS w l A) ∧ ∃ A c, w.cell? (nx1 p 4) = some (.slice A f.length c) ∧ EtS w f A
/-- Values, one behind the other. -/
def VlS (w : World) : List Vl → Option Addr → Prop
  | [], _ => True
  | t :: ts, A => ∃ a, A = some a ∧ VlA w t a ∧ VlS w ts (some (a.add 5))
/-- Entries, one behind the other. -/
def EtS (w : World) : List (Int × Vl) → Option Addr → Prop
  | [], _ => True
  | (n, v) :: ts, A => ∃ a, A = some a ∧ w.cell? a = some (.int .i64 n) ∧ VlA w v (nx1 a 1) ∧ EtS w ts (some (a.add 6))
end
/-- An entry at p. -/
def EtA (w : World) (x : Int × Vl) (p : Addr) : Prop := w.cell? p = some (.int .i64 x.1) ∧ VlA w x.2 (nx1 p 1)
mutual
theorem VlA.next {w w' : World} (hb : Below w.heap.size w w') : ∀ (t : Vl) (p : Addr), VlA w t p → VlA w' t p
  | .mk k n s l f, p, h => by
    rw [VlA] at h ⊢
    obtain ⟨h0, h1, h2, ⟨A, c, h3, h4⟩, A2, c2, h5, h6⟩ := h
    exact ⟨cell_next hb h0, cell_next hb h1, cell_next hb h2, ⟨A, c, cell_next hb h3, VlS.next hb l A h4⟩, A2, c2, cell_next hb h5, EtS.next hb f A2 h6⟩
theorem VlS.next {w w' : World} (hb : Below w.heap.size w w') : ∀ (ts : List Vl) (A : Option Addr), VlS w ts A → VlS w' ts A
  | [], _, _ => by rw [VlS]; trivial
  | t :: ts, A, h => by
    rw [VlS] at h ⊢
    obtain ⟨a, e, h1, h2⟩ := h
    exact ⟨a, e, VlA.next hb t a h1, VlS.next hb ts _ h2⟩
theorem EtS.next {w w' : World} (hb : Below w.heap.size w w') : ∀ (ts : List (Int × Vl)) (A : Option Addr), EtS w ts A → EtS w' ts A
  | [], _, _ => by rw [EtS]; trivial
  | (n, v) :: ts, A, h => by
    rw [EtS] at h ⊢
    obtain ⟨a, e, h0, h1, h2⟩ := h
    exact ⟨a, e, cell_next hb h0, VlA.next hb v _ h1, EtS.next hb ts _ h2⟩
end
theorem EtA.next {w w' : World} (hb : Below w.heap.size w w') (x : Int × Vl) (p : Addr) (h : EtA w x p) : EtA w' x p := ⟨cell_next hb h.1, VlA.next hb _ _ h.2⟩
theorem rw_cons {α : Type} {P : World → α → Addr → Prop} {z : Nat} {w : World} {t : α} {ts : List α} {A : Option Addr} : Rw P z w (t :: ts) A ↔ ∃ a, A = some a ∧ P w t a ∧ Rw P z w ts (some (a.add z)) := by
  constructor
  · rintro (h | ⟨a, e, h⟩)
    · cases h
    · refine ⟨a, e, ?_, .inr ⟨_, rfl, fun i hi => ?_⟩⟩
      · have := h 0 (by simp)
        rw [Nat.zero_mul] at this
        exact this
      · have := h (i + 1) (by simpa using hi)
        rw [Addr.add_add, show z + i * z = (i + 1) * z by rw [Nat.add_mul, Nat.one_mul, Nat.add_comm]]
        exact this
  · rintro ⟨a, rfl, h1, h2⟩
    refine .inr ⟨a, rfl, fun i hi => ?_⟩
    cases i with
    | zero => rw [Nat.zero_mul]; exact h1
    | succ i =>
      rcases h2 with h | ⟨b, e, h⟩
      · subst h; simp at hi
      · cases e
        have := h i (by simpa using hi)
        rw [Addr.add_add] at this
        rw [show (i + 1) * z = z + i * z by rw [Nat.add_mul, Nat.one_mul, Nat.add_comm]]
        exact this
theorem VlS.rw_ {w : World} : ∀ {ts : List Vl} {A : Option Addr}, VlS w ts A ↔ Rw VlA 5 w ts A
  | [], A => by rw [VlS]; exact ⟨fun _ => .inl rfl, fun _ => trivial⟩
  | t :: ts, A => by
    rw [VlS, rw_cons]
    constructor
    · rintro ⟨a, e, h1, h2⟩; exact ⟨a, e, h1, VlS.rw_.1 h2⟩
    · rintro ⟨a, e, h1, h2⟩; exact ⟨a, e, h1, VlS.rw_.2 h2⟩
theorem EtS.rw_ {w : World} : ∀ {ts : List (Int × Vl)} {A : Option Addr}, EtS w ts A ↔ Rw EtA 6 w ts A
  | [], A => by rw [EtS]; exact ⟨fun _ => .inl rfl, fun _ => trivial⟩
  | (n, v) :: ts, A => by
    rw [EtS, rw_cons]
    constructor
    · rintro ⟨a, e, h0, h1, h2⟩; exact ⟨a, e, ⟨h0, h1⟩, EtS.rw_.1 h2⟩
    · rintro ⟨a, e, ⟨h0, h1⟩, h2⟩; exact ⟨a, e, h0, h1, EtS.rw_.2 h2⟩
theorem VlA.cells {w : World} {t : Vl} {p : Addr} (h : VlA w t p) : w.cell? p = some (.int .i64 t.kind) ∧ w.cell? (nx1 p 1) = some (.int .i64 t.n) ∧ w.cell? (nx1 p 2) = some (.string (bs t.s)) ∧ (∃ A c, w.cell? (nx1 p 3) = some (.slice A t.l.length c) ∧ Rw VlA 5 w t.l A) ∧ ∃ A c, w.cell? (nx1 p 4) = some (.slice A t.f.length c) ∧ Rw EtA 6 w t.f A := by
  obtain ⟨k, n, s, l, f⟩ := t
  rw [VlA] at h
  obtain ⟨h0, h1, h2, ⟨A, c, h3, h4⟩, A2, c2, h5, h6⟩ := h
  exact ⟨h0, h1, h2, ⟨A, c, h3, VlS.rw_.1 h4⟩, A2, c2, h5, EtS.rw_.1 h6⟩
theorem VlA.of {w : World} {t : Vl} {p : Addr} (h0 : w.cell? p = some (.int .i64 t.kind)) (h1 : w.cell? (nx1 p 1) = some (.int .i64 t.n)) (h2 : w.cell? (nx1 p 2) = some (.string (bs t.s))) {A : Option Addr} {c : Nat} (h3 : w.cell? (nx1 p 3) = some (.slice A t.l.length c)) (h4 : Rw VlA 5 w t.l A) {A2 : Option Addr} {c2 : Nat} (h5 : w.cell? (nx1 p 4) = some (.slice A2 t.f.length c2)) (h6 : Rw EtA 6 w t.f A2) : VlA w t p := by
  obtain ⟨k, n, s, l, f⟩ := t
  rw [VlA]
  exact ⟨h0, h1, h2, ⟨A, c, h3, VlS.rw_.2 h4⟩, A2, c2, h5, EtS.rw_.2 h6⟩
/-- The cells of a value. -/
abbrev vlC (t : Vl) (A : Option Addr) (c : Nat) (A2 : Option Addr) (c2 : Nat) : List Value := [.int .i64 t.kind, .int .i64 t.n, .string (bs t.s), .slice A t.l.length c, .slice A2 t.f.length c2]
/-- A value r a value. -/
def VlV (w : World) (t : Vl) (v : Value) : Prop := ∃ A c A2 c2, v = .agg #[.int .i64 t.kind, .int .i64 t.n, .string (bs t.s), .slice A t.l.length c, .slice A2 t.f.length c2] ∧ Rw VlA 5 w t.l A ∧ Rw EtA 6 w t.f A2
theorem VlV.next {w w' : World} (hb : Below w.heap.size w w') {t : Vl} {v : Value} (h : VlV w t v) : VlV w' t v := by
  obtain ⟨A, c, A2, c2, e, h1, h2⟩ := h
  exact ⟨A, c, A2, c2, e, h1.next fun x p => VlA.next hb x p, h2.next fun x p => EtA.next hb x p⟩
theorem VlA.val {w : World} {t : Vl} {p : Addr} (h : VlA w t p) : ∃ A c A2 c2, w.cell? p = some (.int .i64 t.kind) ∧ w.cell? (nx1 p 1) = some (.int .i64 t.n) ∧ w.cell? (nx1 p 2) = some (.string (bs t.s)) ∧ w.cell? (nx1 p 3) = some (.slice A t.l.length c) ∧ w.cell? (nx1 p 4) = some (.slice A2 t.f.length c2) ∧ VlV w t (.agg #[.int .i64 t.kind, .int .i64 t.n, .string (bs t.s), .slice A t.l.length c, .slice A2 t.f.length c2]) := by
  obtain ⟨h0, h1, h2, ⟨A, c, h3, h4⟩, A2, c2, h5, h6⟩ := h.cells
  exact ⟨A, c, A2, c2, h0, h1, h2, h3, h5, A, c, A2, c2, rfl, h4, h6⟩
theorem EtA.val {w : World} {x : Int × Vl} {p : Addr} (h : EtA w x p) : ∃ A c A2 c2, w.cell? p = some (.int .i64 x.1) ∧ w.cell? (nx1 p 1) = some (.int .i64 x.2.kind) ∧ w.cell? (nx1 p 2) = some (.int .i64 x.2.n) ∧ w.cell? (nx1 p 3) = some (.string (bs x.2.s)) ∧ w.cell? (nx1 p 4) = some (.slice A x.2.l.length c) ∧ w.cell? (nx1 p 5) = some (.slice A2 x.2.f.length c2) ∧ VlV w x.2 (.agg #[.int .i64 x.2.kind, .int .i64 x.2.n, .string (bs x.2.s), .slice A x.2.l.length c, .slice A2 x.2.f.length c2]) := by
  obtain ⟨h0, h⟩ := h
  obtain ⟨A, c, A2, c2, h1, h2, h3, h4, h5, hV⟩ := h.val
  exact ⟨A, c, A2, c2, h0, h1, h2, h3, h4, h5, hV⟩
theorem size_l {t : Vl} {i : Nat} (h : i < t.l.length) : SizeOf.sizeOf (t.l[i]'h) < SizeOf.sizeOf t := by
  obtain ⟨k, n, s, l, f⟩ := t
  have h1 : SizeOf.sizeOf (l[i]'h) < SizeOf.sizeOf l := List.sizeOf_lt_of_mem (List.getElem_mem h)
  have h2 := Vl.mk.sizeOf_spec k n s l f
  show SizeOf.sizeOf (l[i]'h) < SizeOf.sizeOf (Vl.mk k n s l f)
  omega
theorem size_f {t : Vl} {i : Nat} (h : i < t.f.length) : SizeOf.sizeOf (t.f[i]'h).2 < SizeOf.sizeOf t := by
  obtain ⟨k, n, s, l, f⟩ := t
  have h1 : SizeOf.sizeOf (f[i]'h) < SizeOf.sizeOf f := List.sizeOf_lt_of_mem (List.getElem_mem h)
  have h2 := Vl.mk.sizeOf_spec k n s l f
  have h3 : SizeOf.sizeOf (f[i]'h).2 < SizeOf.sizeOf (f[i]'h) := by
    obtain ⟨a, b⟩ := f[i]'h
    have := Prod.mk.sizeOf_spec a b
    show SizeOf.sizeOf b < SizeOf.sizeOf (a, b)
    omega
  show SizeOf.sizeOf (f[i]'h).2 < SizeOf.sizeOf (Vl.mk k n s l f)
  omega
/-- Go's own bound of a slice's length, at each list of a value. -/
def vok : Vl → Prop
  | .mk _ _ s l f => s.length ≤ 9223372036854775807 ∧ (l.length ≤ 9223372036854775807 ∧ voks l) ∧ f.length ≤ 9223372036854775807 ∧ foks f
where
  voks : List Vl → Prop
  | [] => True
  | t :: ts => vok t ∧ voks ts
  foks : List (Int × Vl) → Prop
  | [] => True
  | (_, v) :: ts => vok v ∧ foks ts
theorem voks_iff : ∀ {l : List Vl}, vok.voks l ↔ ∀ x ∈ l, vok x
  | [] => by rw [vok.voks]; simp
  | t :: ts => by rw [vok.voks, voks_iff (l := ts)]; simp
theorem foks_iff : ∀ {l : List (Int × Vl)}, vok.foks l ↔ ∀ x ∈ l, vok x.2
  | [] => by rw [vok.foks]; simp
  | (n, t) :: ts => by rw [vok.foks, foks_iff (l := ts)]; simp
theorem vok_iff {t : Vl} : vok t ↔ t.s.length ≤ 9223372036854775807 ∧ (t.l.length ≤ 9223372036854775807 ∧ ∀ x ∈ t.l, vok x) ∧ t.f.length ≤ 9223372036854775807 ∧ ∀ x ∈ t.f, vok x.2 := by
  obtain ⟨k, n, s, l, f⟩ := t
  rw [vok, voks_iff, foks_iff]
  rfl
/-- How many values are within one. -/
def sz : Vl → Nat
  | .mk _ _ _ l f => 1 + szl l + szf f
where
  szl : List Vl → Nat
  | [] => 0
  | t :: ts => sz t + szl ts
  szf : List (Int × Vl) → Nat
  | [] => 0
  | (_, v) :: ts => sz v + szf ts
theorem sz_eq (t : Vl) : sz t = 1 + sz.szl t.l + sz.szf t.f := by obtain ⟨k, n, s, l, f⟩ := t; rw [sz]; rfl
theorem szl_take {l : List Vl} {k : Nat} (h : k < l.length) : sz.szl (l.take (k + 1)) = sz.szl (l.take k) + sz (l[k]'h) := by
  induction l generalizing k with
  | nil => exact absurd h (Nat.not_lt_zero _)
  | cons t ts ih =>
    cases k with
    | zero => simp [sz.szl]
    | succ k =>
      rw [List.take_succ_cons, List.take_succ_cons, sz.szl, sz.szl, ih (by simpa using h)]
      simp; omega
theorem szf_take {l : List (Int × Vl)} {k : Nat} (h : k < l.length) : sz.szf (l.take (k + 1)) = sz.szf (l.take k) + sz (l[k]'h).2 := by
  induction l generalizing k with
  | nil => exact absurd h (Nat.not_lt_zero _)
  | cons t ts ih =>
    obtain ⟨n, t⟩ := t
    cases k with
    | zero => simp [sz.szf]
    | succ k =>
      rw [List.take_succ_cons, List.take_succ_cons, sz.szf, sz.szf, ih (by simpa using h)]
      simp; omega
/-- How many levels a value has. -/
def lv : Vl → Nat
  | .mk k _ _ l f => if k ≠ 5 ∧ k ≠ 6 ∧ l = [] ∧ f = [] then 0 else 1 + max (lvl l) (lvf f)
where
  lvl : List Vl → Nat
  | [] => 0
  | t :: ts => max (lv t) (lvl ts)
  lvf : List (Int × Vl) → Nat
  | [] => 0
  | (_, v) :: ts => max (lv v) (lvf ts)
/-- The first of two that isn't 0. -/
def o1 (a b : Int) : Int := if a ≠ 0 then a else b
/-- The sign of a difference. -/
def sg (a b : Int) : Int := if a < b then -1 else if b < a then 1 else 0
/-- The order of byte strings. -/
def ob : List UInt8 → List UInt8 → Int
  | [], [] => 0
  | [], _ :: _ => -1
  | _ :: _, [] => 1
  | a :: r, b :: bs => o1 (sg (a.toNat : Int) (b.toNat : Int)) (ob r bs)
mutual
/-- The order of values. -/
def cm : Vl → Vl → Int
  | .mk k n s l f, .mk k' n' s' l' f' => o1 (sg k k') (o1 (sg n n') (o1 (ob s s') (o1 (cml l l') (cmf f f'))))
def cml : List Vl → List Vl → Int
  | [], [] => 0
  | [], _ :: _ => -1
  | _ :: _, [] => 1
  | a :: r, b :: bs => o1 (cm a b) (cml r bs)
def cmf : List (Int × Vl) → List (Int × Vl) → Int
  | [], [] => 0
  | [], _ :: _ => -1
  | _ :: _, [] => 1
  | (n, a) :: r, (m, b) :: bs => o1 (sg n m) (o1 (cm a b) (cmf r bs))
end
theorem o1_neg (a b : Int) : o1 (-a) (-b) = - o1 a b := by unfold o1; split <;> split <;> omega
theorem sg_neg (a b : Int) : sg b a = - sg a b := by unfold sg; split <;> split <;> omega
theorem ob_neg : ∀ a b : List UInt8, ob b a = - ob a b
  | [], [] => rfl
  | [], _ :: _ => rfl
  | _ :: _, [] => rfl
  | a :: r, b :: bs => by rw [ob, ob, ob_neg r bs, sg_neg, o1_neg]
mutual
theorem cm_neg : ∀ a b : Vl, cm b a = - cm a b
  | .mk k n s l f, .mk k' n' s' l' f' => by rw [cm, cm, cml_neg l l', cmf_neg f f', ob_neg s, sg_neg k, sg_neg n, o1_neg, o1_neg, o1_neg, o1_neg]
theorem cml_neg : ∀ a b : List Vl, cml b a = - cml a b
  | [], [] => by rw [cml]; rfl
  | [], _ :: _ => by rw [cml, cml]; rfl
  | _ :: _, [] => by rw [cml, cml]
  | a :: r, b :: bs => by rw [cml, cml, cm_neg a b, cml_neg r bs, o1_neg]
theorem cmf_neg : ∀ a b : List (Int × Vl), cmf b a = - cmf a b
  | [], [] => by rw [cmf]; rfl
  | [], _ :: _ => by rw [cmf, cmf]; rfl
  | _ :: _, [] => by rw [cmf, cmf]
  | (n, a) :: r, (m, b) :: bs => by rw [cmf, cmf, cm_neg a b, cmf_neg r bs, sg_neg n, o1_neg, o1_neg]
end
theorem cm_self (a : Vl) : cm a a = 0 := by have := cm_neg a a; omega
/-- What three comparisons keep. -/
def Tri (x y z : Int) : Prop := (x = 0 → z = y) ∧ (y = 0 → z = x) ∧ (x < 0 → y < 0 → z < 0) ∧ (0 < x → 0 < y → 0 < z)
theorem Tri.o1 {x y z x' y' z' : Int} (h : Tri x y z) (h' : Tri x' y' z') : Tri (o1 x x') (o1 y y') (o1 z z') := by
  unfold Tri at *
  unfold Proofs.Ytlebppjldoodgaa.o1
  split <;> split <;> split <;> omega
theorem tri_sg (a b c : Int) : Tri (sg a b) (sg b c) (sg a c) := by
  unfold Tri sg
  split <;> split <;> split <;> first | omega | (split <;> first | omega | (split <;> first | omega | (split <;> omega)))
theorem tri_zero : Tri 0 0 0 := ⟨fun _ => rfl, fun _ => rfl, fun h => by omega, fun h => by omega⟩
theorem tri_a : Tri 0 (-1) (-1) := by unfold Tri; decide
theorem tri_b : Tri (-1) 1 0 := by unfold Tri; decide
theorem tri_c : Tri 1 0 1 := by unfold Tri; decide
theorem tri_ob : ∀ a b c : List UInt8, Tri (ob a b) (ob b c) (ob a c)
  | [], [], [] => by simp only [ob]; exact tri_zero
  | [], [], _ :: _ => by simp only [ob]; exact tri_a
  | [], _ :: _, [] => by simp only [ob]; exact tri_b
  | [], b :: bs, c :: cs => by
    have : ob [] (b :: bs) = -1 := rfl
    have : ob [] (c :: cs) = -1 := rfl
    unfold Tri; omega
  | _ :: _, [], [] => by simp only [ob]; exact tri_c
  | a :: r, [], c :: cs => by
    have : ob (a :: r) [] = 1 := rfl
    have : ob [] (c :: cs) = -1 := rfl
    unfold Tri; omega
  | a :: r, b :: bs, [] => by
    have : ob (a :: r) [] = 1 := rfl
    have : ob (b :: bs) [] = 1 := rfl
    unfold Tri; omega
  | a :: r, b :: bs, c :: cs => by
    rw [ob, ob, ob]
    exact (tri_sg _ _ _).o1 (tri_ob r bs cs)
mutual
theorem tri_cm : ∀ a b c : Vl, Tri (cm a b) (cm b c) (cm a c)
  | .mk k n s l f, .mk k' n' s' l' f', .mk k2 n2 s2 l2 f2 => by
    rw [cm, cm, cm]
    exact (tri_sg _ _ _).o1 ((tri_sg _ _ _).o1 ((tri_ob _ _ _).o1 ((tri_cml l l' l2).o1 (tri_cmf f f' f2))))
theorem tri_cml : ∀ a b c : List Vl, Tri (cml a b) (cml b c) (cml a c)
  | [], [], [] => by simp only [cml]; exact tri_zero
  | [], [], _ :: _ => by simp only [cml]; exact tri_a
  | [], _ :: _, [] => by simp only [cml]; exact tri_b
  | [], b :: bs, c :: cs => by
    have h1 : cml [] (b :: bs) = -1 := by rw [cml]
    have h2 : cml [] (c :: cs) = -1 := by rw [cml]
    unfold Tri; omega
  | _ :: _, [], [] => by simp only [cml]; exact tri_c
  | a :: r, [], c :: cs => by
    have h1 : cml (a :: r) [] = 1 := by rw [cml]
    have h2 : cml [] (c :: cs) = -1 := by rw [cml]
    unfold Tri; omega
  | a :: r, b :: bs, [] => by
    have h1 : cml (a :: r) [] = 1 := by rw [cml]
    have h2 : cml (b :: bs) [] = 1 := by rw [cml]
    unfold Tri; omega
  | a :: r, b :: bs, c :: cs => by
    rw [cml, cml, cml]
    exact (tri_cm a b c).o1 (tri_cml r bs cs)
theorem tri_cmf : ∀ a b c : List (Int × Vl), Tri (cmf a b) (cmf b c) (cmf a c)
  | [], [], [] => by simp only [cmf]; exact tri_zero
  | [], [], _ :: _ => by simp only [cmf]; exact tri_a
  | [], _ :: _, [] => by simp only [cmf]; exact tri_b
  | [], b :: bs, c :: cs => by
    have h1 : cmf [] (b :: bs) = -1 := by rw [cmf]
    have h2 : cmf [] (c :: cs) = -1 := by rw [cmf]
    unfold Tri; omega
  | _ :: _, [], [] => by simp only [cmf]; exact tri_c
  | a :: r, [], c :: cs => by
    have h1 : cmf (a :: r) [] = 1 := by rw [cmf]
    have h2 : cmf [] (c :: cs) = -1 := by rw [cmf]
    unfold Tri; omega
  | a :: r, b :: bs, [] => by
    have h1 : cmf (a :: r) [] = 1 := by rw [cmf]
    have h2 : cmf (b :: bs) [] = 1 := by rw [cmf]
    unfold Tri; omega
  | (n, a) :: r, (m, b) :: bs, (q, c) :: cs => by
    rw [cmf, cmf, cmf]
    exact (tri_sg _ _ _).o1 ((tri_cm a b c).o1 (tri_cmf r bs cs))
end
end Go.Proofs.Ytlebppjldoodgaa

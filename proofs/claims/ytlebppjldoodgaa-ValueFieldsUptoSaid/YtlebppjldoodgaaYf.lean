import Derived.Test.YtlebppjldoodgaaYc
import Derived.Test.YtlebppjldoodgaaShelfB
import Derived.Laws.OwnMore
/-
  Rows of structs that a call owns; values and entries in new memory; copies of lists. No conditions beyond those that each names.
-/
namespace Go.Proofs.Ytlebppjldoodgaa
open Go.RowKit Go.Shelf
/-- From block lo on, what was there is as it was. -/
structure Kpl (lo : Nat) (w w' : World) : Prop where
  size : w.heap.size ≤ w'.heap.size
  blk : ∀ i, lo ≤ i → i < w.heap.size → w'.heap[i]? = w.heap[i]?
theorem Kpl.refl (lo : Nat) (w : World) : Kpl lo w w := ⟨Nat.le_refl _, fun _ _ _ => rfl⟩
theorem Kpl.of {lo : Nat} {w w' : World} (hb : Below w.heap.size w w') : Kpl lo w w' := ⟨hb.size, fun i _ hi => hb.block i hi⟩
theorem Kpl.trans {lo : Nat} {w w1 w2 : World} (h : Kpl lo w w1) (k : Kpl lo w1 w2) : Kpl lo w w2 := ⟨Nat.le_trans h.size k.size, fun i h1 h2 => (k.blk i h1 (Nat.lt_of_lt_of_le h2 h.size)).trans (h.blk i h1 h2)⟩
theorem Kpl.mono {lo hi : Nat} {w w' : World} (h : Kpl lo w w') (hl : lo ≤ hi) : Kpl hi w w' := ⟨h.size, fun i h1 h2 => h.blk i (Nat.le_trans hl h1) h2⟩
theorem Kpl.gb {g hi : Nat} {w w' : World} (h : w.grownBy w' (some g)) (hg : g < hi) : Kpl hi w w' := ⟨h.size, fun i h1 h2 => h.block i h2 (fun e => by cases e; omega)⟩
theorem Kpl.gb0 {hi : Nat} {w w' : World} {q : Option Nat} (h : w.grownBy w' q) (hg : ∀ g, q = some g → g < hi) : Kpl hi w w' := ⟨h.size, fun i h1 h2 => h.block i h2 (fun e => by have := hg i e.symm; omega)⟩
theorem Kpl.set {lo : Nat} {w w' : World} (h : Kpl lo w w') {p : Addr} (hp : p.block < lo) (u : Value) : Kpl lo w (w'.setCell p u) :=
  ⟨Nat.le_trans h.size (Below.setCell (Below.refl 0 w') (Nat.zero_le p.block) u).size, fun i hi h2 => (Below.heap_setCell w' p u i (by omega)).trans (h.blk i hi h2)⟩
theorem gbq_of {w w' : World} (hb : Below w.heap.size w w') (row : Option Nat) : w.grownBy w' row := ⟨hb.os, hb.tape, hb.output, hb.size, fun i hi _ => hb.block i hi⟩
theorem own_next {w w' : World} {base : Nat} {e : TypeId} {z n : Nat} {v : Value} {xs : List Value} (h : w.ownsRow base e z v n xs) (hb : Below w.heap.size w w') : w'.ownsRow base e z v n xs := by
  cases hv : v.ownBlock with
  | none => exact h.kept (gbq_of hb none) (.inl hv)
  | some g => exact h.kept (gbq_of hb none) (.inr (by rw [hv]; simp))
theorem own_mono {w : World} {base base' : Nat} {e : TypeId} {z n : Nat} {v : Value} {xs : List Value} (h : w.ownsRow base e z v n xs) (hb : base' ≤ base) : w.ownsRow base' e z v n xs := by
  refine ⟨h.1, ?_⟩
  rcases h.2 with h1 | ⟨g, cap, cur, h1, h2, h3⟩
  · exact .inl h1
  · exact .inr ⟨g, cap, cur, h1, Nat.le_trans hb h2, h3⟩
theorem szl_mem : ∀ {l : List Vl} {i : Nat} (h : i < l.length), sz (l[i]'h) + (l.length - 1) ≤ sz.szl l
  | t :: ts, 0, _ => by
    have := szl_len ts
    rw [sz.szl]; simp; omega
  | t :: ts, i + 1, h => by
    have := szl_mem (l := ts) (i := i) (by simpa using h)
    have := sz_pos t
    rw [sz.szl]; simp at h ⊢; omega
where
  sz_pos : ∀ t : Vl, 1 ≤ sz t := fun t => by rw [sz_eq]; omega
  szl_len : ∀ l : List Vl, l.length ≤ sz.szl l
  | [] => by simp
  | t :: ts => by have := szl_len ts; have := sz_pos t; rw [sz.szl]; simp; omega
theorem sz_pos (t : Vl) : 1 ≤ sz t := by rw [sz_eq]; omega
theorem szl_len : ∀ l : List Vl, l.length ≤ sz.szl l
  | [] => by simp
  | t :: ts => by have := szl_len ts; have := sz_pos t; rw [sz.szl]; simp; omega
theorem szf_len : ∀ l : List (Int × Vl), l.length ≤ sz.szf l
  | [] => by simp
  | (n, t) :: ts => by have := szf_len ts; have := sz_pos t; rw [sz.szf]; simp; omega
theorem szf_mem : ∀ {l : List (Int × Vl)} {i : Nat} (h : i < l.length), sz (l[i]'h).2 ≤ sz.szf l
  | (n, t) :: ts, 0, _ => by rw [sz.szf]; simp
  | (n, t) :: ts, i + 1, h => by
    have := szf_mem (l := ts) (i := i) (by simpa using h)
    rw [sz.szf]; simp at h ⊢; omega
theorem sz_l {t : Vl} {i : Nat} (h : i < t.l.length) : sz (t.l[i]'h) < sz t := by have := szl_mem h; rw [sz_eq t]; omega
theorem sz_f {t : Vl} {i : Nat} (h : i < t.f.length) : sz (t.f[i]'h).2 < sz t := by have := szf_mem h; rw [sz_eq t]; omega
theorem sz_ll (t : Vl) : t.l.length < sz t := by have := szl_len t.l; rw [sz_eq t]; omega
theorem sz_fl (t : Vl) : t.f.length < sz t := by have := szf_len t.f; rw [sz_eq t]; omega
/-- Values from place p on. -/
def putAt : List Value → Nat → List Value → List Value
  | xs, _, [] => xs
  | xs, p, v :: vs => putAt (xs.set p v) (p + 1) vs
theorem putAt_len : ∀ (vs xs : List Value) (p : Nat), (putAt xs p vs).length = xs.length
  | [], _, _ => rfl
  | v :: vs, xs, p => by rw [putAt, putAt_len vs, List.length_set]
theorem putAt_other : ∀ (vs xs : List Value) (p i : Nat), (i < p ∨ p + vs.length ≤ i) → (putAt xs p vs)[i]? = xs[i]?
  | [], _, _, _, _ => rfl
  | v :: vs, xs, p, i, h => by
    rw [List.length_cons] at h
    rw [putAt, putAt_other vs _ _ _ (by omega), List.getElem?_set_ne (by omega)]
theorem putAt_same : ∀ (vs xs : List Value) (p i : Nat), i < vs.length → p + vs.length ≤ xs.length → (putAt xs p vs)[p + i]? = vs[i]?
  | v :: vs, xs, p, 0, _, hx => by
    rw [List.length_cons] at hx
    rw [putAt, putAt_other vs _ _ _ (by omega), Nat.add_zero, List.getElem?_set_self (by omega)]
    rfl
  | v :: vs, xs, p, i + 1, hi, hx => by
    rw [List.length_cons] at hx hi
    rw [putAt, show p + (i + 1) = p + 1 + i by omega, putAt_same vs _ _ _ (by omega) (by rw [List.length_set]; omega)]
    rfl
/-- Cells of block g are set anew. -/
def setCs : World → Nat → Nat → List Value → World
  | w, _, _, [] => w
  | w, g, p, v :: vs => setCs (w.setCell ⟨g, p, none⟩ v) g (p + 1) vs
theorem storedN {base g n cap z : Nat} {e : TypeId} : ∀ (vs : List Value) {w : World} {xs : List Value} (_ : w.ownsRow base e z (.slice (some ⟨g, 0, none⟩) n cap) n xs) (p : Nat),
    (setCs w g p vs).ownsRow base e z (.slice (some ⟨g, 0, none⟩) n cap) n (putAt xs p vs) ∧ w.grownBy (setCs w g p vs) (some g)
  | [], w, xs, h, p => ⟨h, World.grownBy.refl _ _⟩
  | v :: vs, w, xs, h, p => by
    obtain ⟨h1, g1⟩ := h.stored p v
    obtain ⟨h2, g2⟩ := storedN vs h1 (p + 1)
    exact ⟨h2, g1.trans g2⟩
/-- The elements of a row, z cells each. -/
def IL {α β : Type} (z : Nat) (enc : α → β → List Value) (P : Nat → α → β → Prop) (l : List α) (xs : List Value) : Prop :=
  xs.length = l.length * z ∧ ∀ j (h : j < l.length), ∃ b, (∀ i, i < z → xs[j * z + i]? = (enc (l[j]'h) b)[i]?) ∧ P j (l[j]'h) b
theorem IL.mono {α β : Type} {z : Nat} {enc : α → β → List Value} {P Q : Nat → α → β → Prop} {l : List α} {xs : List Value} (h : IL z enc P l xs) (hPQ : ∀ j (h : j < l.length) b, P j (l[j]'h) b → Q j (l[j]'h) b) : IL z enc Q l xs :=
  ⟨h.1, fun j hj => by obtain ⟨b, h1, h2⟩ := h.2 j hj; exact ⟨b, h1, hPQ j hj b h2⟩⟩
theorem IL.nil {α β : Type} (z : Nat) (enc : α → β → List Value) (P : Nat → α → β → Prop) : IL z enc P [] [] := ⟨by simp, fun j h => absurd h (Nat.not_lt_zero _)⟩
theorem mulz {j k z i : Nat} (h : j < k) (hi : i < z) : j * z + i < k * z := by
  have h1 : (j + 1) * z ≤ k * z := Nat.mul_le_mul_right z h
  rw [Nat.add_mul, Nat.one_mul] at h1
  omega
theorem IL.put {α β : Type} {z : Nat} {enc : α → β → List Value} {P Q : Nat → α → β → Prop} {l : List α} {xs : List Value} (h : IL z enc P l xs) {k : Nat} (hk : k < l.length) (y : α) (b : β) (hz : (enc y b).length = z)
    (hP : ∀ j (h : j < l.length) b, j ≠ k → P j (l[j]'h) b → Q j (l[j]'h) b) (hQ : Q k y b) : IL z enc Q (l.set k y) (putAt xs (k * z) (enc y b)) := by
  refine ⟨by rw [putAt_len, h.1, List.length_set], fun j hj => ?_⟩
  have hj2 : j < l.length := by simpa using hj
  by_cases e : j = k
  · subst e
    refine ⟨b, fun i hi => ?_, ?_⟩
    · rw [putAt_same _ _ _ _ (by omega) (by rw [h.1, hz]; have := mulz (z := z) hk (i := 0) (by omega); have h1 : (j + 1) * z ≤ l.length * z := Nat.mul_le_mul_right z hk; rw [Nat.add_mul, Nat.one_mul] at h1; omega)]
      rw [List.getElem_set_self]
    · rw [List.getElem_set_self]; exact hQ
  · obtain ⟨b', h1, h2⟩ := h.2 j hj2
    rw [List.getElem_set_ne (by omega)]
    refine ⟨b', fun i hi => ?_, hP j hj2 b' e h2⟩
    rw [putAt_other _ _ _ _ ?_, h1 i hi]
    rw [hz]
    rcases Nat.lt_or_gt_of_ne e with h3 | h3
    · exact .inl (by have := mulz h3 hi; omega)
    · right
      have h1 : (k + 1) * z ≤ j * z := Nat.mul_le_mul_right z h3
      rw [Nat.add_mul, Nat.one_mul] at h1
      omega
theorem news_gen {α β : Type} {z : Nat} {enc : α → β → List Value} {P : Nat → α → β → Prop} (hz : ∀ x b, (enc x b).length = z) (h0 : 0 < z) (hone : ∀ x b u, u ∈ enc x b → u.oneCell' = true) {w : World} {b off : Nat} {l : List α}
    (h : ∀ q (hq : q < l.length), ∃ bb, (∀ i, i < z → w.cell? ⟨b, off + (q * z + i), none⟩ = (enc (l[q]'hq) bb)[i]?) ∧ P q (l[q]'hq) bb) :
    ∃ xs : List Value, (∀ j u, xs[j]? = some u → w.cell? ⟨b, off + j, none⟩ = some u) ∧ (∀ u ∈ xs, u.oneCell' = true) ∧ IL z enc P l xs := by
  have hs : ∀ j, j < l.length * z → ∃ u, w.cell? ⟨b, off + j, none⟩ = some u ∧ u.oneCell' = true := fun j hj => by
    have hq : j / z < l.length := (Nat.div_lt_iff_lt_mul h0).2 hj
    obtain ⟨bb, h1, -⟩ := h (j / z) hq
    have hm : j % z < z := Nat.mod_lt _ h0
    have h2 := h1 (j % z) hm
    rw [show j / z * z + j % z = j by rw [Nat.mul_comm]; exact Nat.div_add_mod j z, List.getElem?_eq_getElem (by rw [hz]; exact hm)] at h2
    exact ⟨_, h2, hone _ _ _ (List.getElem_mem _)⟩
  have hget : ∀ j, j < l.length * z → ((List.range (l.length * z)).map fun j => (w.cell? ⟨b, off + j, none⟩).getD undef)[j]? = some ((w.cell? ⟨b, off + j, none⟩).getD undef) := fun j hj => by simp [hj]
  refine ⟨(List.range (l.length * z)).map fun j => (w.cell? ⟨b, off + j, none⟩).getD undef, fun j u hu => ?_, fun u hu => ?_, by simp, fun q hq => ?_⟩
  · have hj : j < l.length * z := by
      have := (List.getElem?_eq_some_iff.1 hu).1
      simpa using this
    rw [hget j hj] at hu
    obtain ⟨v, hv, -⟩ := hs j hj
    rw [hv] at hu ⊢
    exact hu
  · obtain ⟨j, hj, rfl⟩ := List.mem_map.1 hu
    obtain ⟨v, hv, h1⟩ := hs j (List.mem_range.1 hj)
    rw [hv]
    exact h1
  · obtain ⟨bb, h1, h2⟩ := h q hq
    refine ⟨bb, fun i hi => ?_, h2⟩
    have hj := mulz hq hi
    rw [hget _ hj, ← h1 i hi]
    obtain ⟨v, hv, -⟩ := hs _ hj
    rw [hv]
    rfl
/-- Where a value's lists lie. -/
structure Sb where
  A : Option Addr
  c : Nat
  B : Option Addr
  d : Nat
def encV (t : Vl) (s : Sb) : List Value := [.int .i64 t.kind, .int .i64 t.n, .string (bs t.s), .slice s.A t.l.length s.c, .slice s.B t.f.length s.d]
def encE (x : Int × Vl) (s : Sb) : List Value := [.int .i64 x.1, .int .i64 x.2.kind, .int .i64 x.2.n, .string (bs x.2.s), .slice s.A x.2.l.length s.c, .slice s.B x.2.f.length s.d]
/-- What a value's lists are. -/
def RdV (w : World) (t : Vl) (s : Sb) : Prop := Rw VlA 5 w t.l s.A ∧ Rw EtA 6 w t.f s.B
/-- The same, whatever becomes of blocks before hi. -/
def NwV (hi : Nat) (w : World) (t : Vl) (s : Sb) : Prop := ∀ w', Kpl hi w w' → RdV w' t s
theorem RdV.next {w w' : World} {t : Vl} {s : Sb} (hb : Below w.heap.size w w') (h : RdV w t s) : RdV w' t s := ⟨h.1.next fun x p => VlA.next hb x p, h.2.next fun x p => EtA.next hb x p⟩
theorem NwV.next {hi : Nat} {w w' : World} {t : Vl} {s : Sb} (h : NwV hi w t s) (k : Kpl hi w w') : NwV hi w' t s := fun w2 k2 => h w2 (k.trans k2)
theorem NwV.rd {hi : Nat} {w : World} {t : Vl} {s : Sb} (h : NwV hi w t s) : RdV w t s := h w (Kpl.refl _ _)
theorem NwV.low {lo hi : Nat} {w : World} {t : Vl} {s : Sb} (h : NwV hi w t s) (hl : lo ≤ hi) : NwV lo w t s := fun w2 k2 => h w2 (k2.mono hl)
theorem rdV_iff {w : World} {t : Vl} {v : Value} : VlV w t v ↔ ∃ s, v = .agg (encV t s).toArray ∧ RdV w t s :=
  ⟨fun ⟨A, c, B, d, e, h1, h2⟩ => ⟨⟨A, c, B, d⟩, e, h1, h2⟩, fun ⟨s, e, h1, h2⟩ => ⟨s.A, s.c, s.B, s.d, e, h1, h2⟩⟩
theorem vlA_lit {w : World} {t : Vl} {b o : Nat} (h : VlA w t ⟨b, o, none⟩) : ∃ s, (∀ i, i < 5 → w.cell? ⟨b, o + i, none⟩ = (encV t s)[i]?) ∧ RdV w t s := by
  obtain ⟨h0, h1, h2, ⟨A, c, h3, h4⟩, B, d, h5, h6⟩ := h.cells
  refine ⟨⟨A, c, B, d⟩, fun i hi => ?_, h4, h6⟩
  match i, hi with
  | 0, _ => exact h0
  | 1, _ => exact h1
  | 2, _ => exact h2
  | 3, _ => exact h3
  | 4, _ => exact h5
theorem etA_lit {w : World} {x : Int × Vl} {b o : Nat} (h : EtA w x ⟨b, o, none⟩) : ∃ s, (∀ i, i < 6 → w.cell? ⟨b, o + i, none⟩ = (encE x s)[i]?) ∧ RdV w x.2 s := by
  obtain ⟨hn, h⟩ := h
  obtain ⟨h0, h1, h2, ⟨A, c, h3, h4⟩, B, d, h5, h6⟩ := h.cells
  refine ⟨⟨A, c, B, d⟩, fun i hi => ?_, h4, h6⟩
  match i, hi with
  | 0, _ => exact hn
  | 1, _ => exact h0
  | 2, _ => exact h1
  | 3, _ => exact h2
  | 4, _ => exact h3
  | 5, _ => exact h5
theorem vlA_of {w : World} {t : Vl} {b o : Nat} {s : Sb} (h : ∀ i, i < 5 → w.cell? ⟨b, o + i, none⟩ = (encV t s)[i]?) (hr : RdV w t s) : VlA w t ⟨b, o, none⟩ :=
  VlA.of (h 0 (by omega)) (h 1 (by omega)) (h 2 (by omega)) (h 3 (by omega)) hr.1 (h 4 (by omega)) hr.2
theorem etA_of {w : World} {x : Int × Vl} {b o : Nat} {s : Sb} (h : ∀ i, i < 6 → w.cell? ⟨b, o + i, none⟩ = (encE x s)[i]?) (hr : RdV w x.2 s) : EtA w x ⟨b, o, none⟩ :=
  ⟨h 0 (by omega), VlA.of (h 1 (by omega)) (h 2 (by omega)) (h 3 (by omega)) (h 4 (by omega)) hr.1 (h 5 (by omega)) hr.2⟩
/-- A row of values that a call owns, in a later world that kept its block. -/
theorem rowV_of {w w' : World} {lo n cap g : Nat} {e : TypeId} {l : List Vl} {xs : List Value} (ho : w.ownsRow lo e 5 (.slice (some ⟨g, 0, none⟩) n cap) n xs) (hk : w'.heap[g]? = w.heap[g]?) (hn : l.length = n) (h : IL 5 encV (fun _ t s => RdV w' t s) l xs) : Rw VlA 5 w' l (some ⟨g, 0, none⟩) := by
  refine .inr ⟨_, rfl, fun i hi => ?_⟩
  obtain ⟨s, h1, h2⟩ := h.2 i hi
  rw [Addr.add_lit]
  refine vlA_of (s := s) (fun j hj => ?_) h2
  rw [World.cell?_of_block (w := w) hk, Nat.zero_add, ho.cellAt _ (by rw [← hn]; exact mulz hi hj)]
  exact h1 j hj
theorem rowE_of {w w' : World} {lo n cap g : Nat} {e : TypeId} {l : List (Int × Vl)} {xs : List Value} (ho : w.ownsRow lo e 6 (.slice (some ⟨g, 0, none⟩) n cap) n xs) (hk : w'.heap[g]? = w.heap[g]?) (hn : l.length = n) (h : IL 6 encE (fun _ t s => RdV w' t.2 s) l xs) : Rw EtA 6 w' l (some ⟨g, 0, none⟩) := by
  refine .inr ⟨_, rfl, fun i hi => ?_⟩
  obtain ⟨s, h1, h2⟩ := h.2 i hi
  rw [Addr.add_lit]
  refine etA_of (s := s) (fun j hj => ?_) h2
  rw [World.cell?_of_block (w := w) hk, Nat.zero_add, ho.cellAt _ (by rw [← hn]; exact mulz hi hj)]
  exact h1 j hj
theorem infoV : (Try.prog.info? 25).map (fun i => (i.zero, i.size, i.bytes)) = some (some (.agg #[.int .i64 0, .int .i64 0, .string ⟨#[]⟩, .slice none 0 0, .slice none 0 0]), 5, 80) := by kernel_rfl
theorem infoE : (Try.prog.info? 72).map (fun i => (i.zero, i.size, i.bytes)) = some (some (.agg #[.int .i64 0, .int .i64 0, .int .i64 0, .string ⟨#[]⟩, .slice none 0 0, .slice none 0 0]), 6, 88) := by kernel_rfl
theorem spot_none0 {w : World} {a : Addr} {v : Value} (h : w.cell? a = some v) : a.spot = none := by
  unfold World.cell? at h
  split at h
  · split at h
    · cases h
    · rename_i h1; simpa using h1
  · cases h
theorem oneV (x : Vl) (b : Sb) (u : Value) (h : u ∈ encV x b) : u.oneCell' = true := by
  simp only [encV, List.mem_cons, List.not_mem_nil, or_false] at h
  rcases h with rfl | rfl | rfl | rfl | rfl <;> rfl
theorem oneE (x : Int × Vl) (b : Sb) (u : Value) (h : u ∈ encE x b) : u.oneCell' = true := by
  simp only [encE, List.mem_cons, List.not_mem_nil, or_false] at h
  rcases h with rfl | rfl | rfl | rfl | rfl | rfl <;> rfl
theorem lit_next {w w' : World} (hb : Below w.heap.size w w') {p : Addr} {l : List Value} {i : Nat} (h : w.cell? p = l[i]?) (hi : i < l.length) : w'.cell? p = l[i]? := by
  rw [List.getElem?_eq_getElem hi] at h ⊢
  exact cell_next hb h
/-- A copy. -/
def ClP (e : TypeId) (z : Nat) (n : Nat) (xs : List Value) (w : World) (en : Ending) (w' : World) : Prop := ∃ v', en = .returned v' ∧ w'.ownsRow w.heap.size e z v' n xs ∧ Below w.heap.size w w'
set_option maxRecDepth 100000 in
set_option maxHeartbeats 2000000 in
theorem cloneV0_any (A : Option Addr) (c : Nat) (w : World) : Calls Try.prog 68 #[.slice A 0 c] w (ClP 25 5 0 [] w) := by
  cases A with
  | none => exact (AnyE.slices_Clone_nil Try.clone68 0 c w).mono fun e w' ⟨h1, h2⟩ => ⟨_, h1, World.ownsRow_nil _ _ _ _, by rw [h2]; exact Below.refl _ _⟩
  | some a =>
    obtain ⟨i, hi, hz, hs5, hby⟩ := info_parts infoV
    have q22 : ∀ (w : World) (a : Option Addr) (n c n' c' : Nat), (binOp .eql 22 (.slice a n c) (.slice none n' c')).run Try.prog w = .ok (.bool a.isNone) w := fun w a n c n' c' => Lib.run_eql_slice_nil w _ _ a n c n' c' Try.underlying22
    go_enter Try.func68, Try.ntmps68
    go_wp2_with (at_builtin; refine wpList_append_own _ rfl _ _ 22 rfl w.heap.size 25 i _ 5 80 Try.underlying22 hi hz hs5 hby rfl (by decide) _ _ _ rfl (World.ownsRow_made w #[] 0 (Nat.le_refl _) (Nat.zero_le _) rfl) a 0 c [] rfl rfl (by intro j u hj; simp at hj) (by intro u hu; cases hu) (by unfold maxLen; omega) (by omega) (by simp) ?_)
    intro v' w1 hown hgrow hnil
    go_wp2
    go_ret
    exact ⟨v', rfl, by simpa using hown, ((Below.refl _ w).alloc (Nat.le_refl _) _).grown hgrow (by simp) (by intro k hk; simp [Value.ownBlock] at hk; omega)⟩
set_option maxRecDepth 100000 in
set_option maxHeartbeats 2000000 in
theorem cloneE0_any (A : Option Addr) (c : Nat) (w : World) : Calls Try.prog 69 #[.slice A 0 c] w (ClP 72 6 0 [] w) := by
  cases A with
  | none => exact (AnyE.slices_Clone_nil Try.clone69 0 c w).mono fun e w' ⟨h1, h2⟩ => ⟨_, h1, World.ownsRow_nil _ _ _ _, by rw [h2]; exact Below.refl _ _⟩
  | some a =>
    obtain ⟨i, hi, hz, hs5, hby⟩ := info_parts infoE
    have q22 : ∀ (w : World) (a : Option Addr) (n c n' c' : Nat), (binOp .eql 23 (.slice a n c) (.slice none n' c')).run Try.prog w = .ok (.bool a.isNone) w := fun w a n c n' c' => Lib.run_eql_slice_nil w _ _ a n c n' c' Try.underlying23
    go_enter Try.func69, Try.ntmps69
    go_wp2_with (at_builtin; refine wpList_append_own _ rfl _ _ 23 rfl w.heap.size 72 i _ 6 88 Try.underlying23 hi hz hs5 hby rfl (by decide) _ _ _ rfl (World.ownsRow_made w #[] 0 (Nat.le_refl _) (Nat.zero_le _) rfl) a 0 c [] rfl rfl (by intro j u hj; simp at hj) (by intro u hu; cases hu) (by unfold maxLen; omega) (by omega) (by simp) ?_)
    intro v' w1 hown hgrow hnil
    go_wp2
    go_ret
    exact ⟨v', rfl, by simpa using hown, ((Below.refl _ w).alloc (Nat.le_refl _) _).grown hgrow (by simp) (by intro k hk; simp [Value.ownBlock] at hk; omega)⟩
theorem cloneV_any (l : List Vl) (A : Option Addr) (c : Nat) (W0 w : World) (hb0 : Below W0.heap.size W0 w) (hl : l.length ≤ 2000000) (hR : Rw VlA 5 W0 l A) :
    Calls Try.prog 68 #[.slice A l.length c] w fun e w' => ∃ xs, IL 5 encV (fun _ t s => RdV W0 t s) l xs ∧ ClP 25 5 l.length xs w e w' := by
  by_cases h0 : l = []
  · subst h0
    exact (cloneV0_any A c w).mono fun e w' h => ⟨[], IL.nil _ _ _, h⟩
  · rcases hR with h | ⟨a, rfl, h⟩
    · exact absurd h h0
    · have h1 : 0 < l.length := List.length_pos_iff.2 h0
      have hs : a.spot = none := by
        have := spot_none0 ((h 0 h1).cells.1)
        simpa [Addr.add] using this
      obtain ⟨b, off, s⟩ := a
      have hs : s = none := hs
      subst hs
      obtain ⟨xs, hx2, hx3, hx4⟩ := news_gen (z := 5) (enc := encV) (P := fun _ t s => RdV W0 t s) (fun _ _ => rfl) (by decide) oneV (w := w) (b := b) (off := off) (l := l) (fun q hq => by
        have := h q hq
        rw [Addr.add_lit] at this
        obtain ⟨s, k1, k2⟩ := vlA_lit this
        exact ⟨s, fun i hi => by rw [← Nat.add_assoc]; exact lit_next hb0 (k1 i hi) (by show i < _; exact hi), k2⟩)
      obtain ⟨i, hi, hz, hs5, hby⟩ := info_parts infoV
      exact (AnyE.slices_Clone Try.clone68 i _ 5 80 hi hz hs5 hby rfl (by decide) Try.sizeOf25 b off l.length c xs w hx4.1 (by unfold maxLen; omega) (by omega) hx2 hx3).mono fun e w' ⟨v', e1, e2, _, e4⟩ => ⟨xs, hx4, v', e1, e2, e4⟩
theorem cloneE_any (l : List (Int × Vl)) (A : Option Addr) (c : Nat) (W0 w : World) (hb0 : Below W0.heap.size W0 w) (hl : l.length ≤ 2000000) (hR : Rw EtA 6 W0 l A) :
    Calls Try.prog 69 #[.slice A l.length c] w fun e w' => ∃ xs, IL 6 encE (fun _ t s => RdV W0 t.2 s) l xs ∧ ClP 72 6 l.length xs w e w' := by
  by_cases h0 : l = []
  · subst h0
    exact (cloneE0_any A c w).mono fun e w' h => ⟨[], IL.nil _ _ _, h⟩
  · rcases hR with h | ⟨a, rfl, h⟩
    · exact absurd h h0
    · have h1 : 0 < l.length := List.length_pos_iff.2 h0
      have hs : a.spot = none := by
        have := spot_none0 ((h 0 h1).1)
        simpa [Addr.add] using this
      obtain ⟨b, off, s⟩ := a
      have hs : s = none := hs
      subst hs
      obtain ⟨xs, hx2, hx3, hx4⟩ := news_gen (z := 6) (enc := encE) (P := fun _ t s => RdV W0 t.2 s) (fun _ _ => rfl) (by decide) oneE (w := w) (b := b) (off := off) (l := l) (fun q hq => by
        have := h q hq
        rw [Addr.add_lit] at this
        obtain ⟨s, k1, k2⟩ := etA_lit this
        exact ⟨s, fun i hi => by rw [← Nat.add_assoc]; exact lit_next hb0 (k1 i hi) (by show i < _; exact hi), k2⟩)
      obtain ⟨i, hi, hz, hs5, hby⟩ := info_parts infoE
      exact (AnyE.slices_Clone Try.clone69 i _ 6 88 hi hz hs5 hby rfl (by decide) Try.sizeOf72 b off l.length c xs w hx4.1 (by unfold maxLen; omega) (by omega) hx2 hx3).mono fun e w' ⟨v', e1, e2, _, e4⟩ => ⟨xs, hx4, v', e1, e2, e4⟩
end Go.Proofs.Ytlebppjldoodgaa

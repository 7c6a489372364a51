/-
  Entries by their number: the developers' indexOf, field and Field, the reference's Field. No conditions beyond those that each names.
-/
import Derived.Test.YtcilkcnddgacgaaGreatDoorQM13
import Derived.Test.YtcilkcnddgacgaaGreatDoorQM11
namespace Go.Proofs.YtcilkcnddgacgaaGreatDoor
open Go.RowKit Go.Sort
end Go.Proofs.YtcilkcnddgacgaaGreatDoor
/-
  The developers' field and Field, the reference's Field. No conditions beyond those that each names.
-/
namespace Go.Proofs.YtcilkcnddgacgaaGreatDoor
open Go.RowKit Go.Sort
def vl0 : Vl := .mk 0 0 [] [] []
def FdP (o : Option Vl) (w : World) (e : Ending) (w' : World) : Prop := ∃ s, e = .returned (.tuple #[.agg #[.int .i64 (o.getD vl0).kind, .int .i64 (o.getD vl0).n, .string (bs (o.getD vl0).s), .slice s.A (o.getD vl0).l.length s.c, .slice s.B (o.getD vl0).f.length s.d], .bool o.isSome]) ∧ RdV w' (o.getD vl0) s ∧ Below w.heap.size w w'
theorem rd0 (w : World) : RdV w vl0 ⟨none, 0, none, 0⟩ := ⟨.inl rfl, .inl rfl⟩
/-- The same, its lists where they lay in an elder world. -/
def FdQ (W0 : World) (o : Option Vl) (w : World) (e : Ending) (w' : World) : Prop := ∃ s, e = .returned (.tuple #[.agg #[.int .i64 (o.getD vl0).kind, .int .i64 (o.getD vl0).n, .string (bs (o.getD vl0).s), .slice s.A (o.getD vl0).l.length s.c, .slice s.B (o.getD vl0).f.length s.d], .bool o.isSome]) ∧ RdV W0 (o.getD vl0) s ∧ Below w.heap.size w w'
theorem FdQ.none_ {W0 w w' : World} (hb : Below w.heap.size w w') : FdQ W0 none w (.returned (.tuple #[.agg #[.int .i64 0, .int .i64 0, .string ⟨#[]⟩, .slice none 0 0, .slice none 0 0], .bool false])) w' := ⟨⟨none, 0, none, 0⟩, rfl, rd0 _, hb⟩
theorem FdQ.some_ {W0 w w' : World} {u : Vl} {s : Sb} (hr : RdV W0 u s) (hb : Below w.heap.size w w') : FdQ W0 (some u) w (.returned (.tuple #[.agg #[.int .i64 u.kind, .int .i64 u.n, .string (bs u.s), .slice s.A u.l.length s.c, .slice s.B u.f.length s.d], .bool true])) w' := ⟨s, rfl, hr, hb⟩
theorem FdP.none_ {w w' : World} (hb : Below w.heap.size w w') : FdP none w (.returned (.tuple #[.agg #[.int .i64 0, .int .i64 0, .string ⟨#[]⟩, .slice none 0 0, .slice none 0 0], .bool false])) w' := ⟨⟨none, 0, none, 0⟩, rfl, rd0 _, hb⟩
theorem FdP.some_ {w w' : World} {u : Vl} {s : Sb} (hr : RdV w' u s) (hb : Below w.heap.size w w') : FdP (some u) w (.returned (.tuple #[.agg #[.int .i64 u.kind, .int .i64 u.n, .string (bs u.s), .slice s.A u.l.length s.c, .slice s.B u.f.length s.d], .bool true])) w' := ⟨s, rfl, hr, hb⟩
theorem VlA.sb {w : World} {t : Vl} {p : Addr} (h : VlA w t p) : ∃ s : Sb, w.cell? p = some (.int .i64 t.kind) ∧ w.cell? (nx1 p 1) = some (.int .i64 t.n) ∧ w.cell? (nx1 p 2) = some (.string (bs t.s)) ∧ w.cell? (nx1 p 3) = some (.slice s.A t.l.length s.c) ∧ w.cell? (nx1 p 4) = some (.slice s.B t.f.length s.d) ∧ RdV w t s := by
  obtain ⟨h0, h1, h2, ⟨A, c, h3, h4⟩, A2, c2, h5, h6⟩ := h.cells
  exact ⟨⟨A, c, A2, c2⟩, h0, h1, h2, h3, h5, h4, h6⟩
theorem EtA.sb {w : World} {x : Int × Vl} {p : Addr} (h : EtA w x p) : ∃ s : Sb, w.cell? p = some (.int .i64 x.1) ∧ w.cell? (nx1 p 1) = some (.int .i64 x.2.kind) ∧ w.cell? (nx1 p 2) = some (.int .i64 x.2.n) ∧ w.cell? (nx1 p 3) = some (.string (bs x.2.s)) ∧ w.cell? (nx1 p 4) = some (.slice s.A x.2.l.length s.c) ∧ w.cell? (nx1 p 5) = some (.slice s.B x.2.f.length s.d) ∧ RdV w x.2 s := by
  obtain ⟨h0, h⟩ := h
  obtain ⟨s, h1, h2, h3, h4, h5, h6⟩ := h.sb
  exact ⟨s, h0, h1, h2, h3, h4, h5, h6⟩
end Go.Proofs.YtcilkcnddgacgaaGreatDoor
/-
  How deep a value is: the developers' exceeds, the reference's Levels. No conditions beyond those that each names.
-/
namespace Go.Proofs.YtcilkcnddgacgaaGreatDoor
open Go.RowKit Go.Sort
end Go.Proofs.YtcilkcnddgacgaaGreatDoor
/-
  Whole numbers in a list. No conditions beyond those that each names.
-/
namespace Go.Proofs.YtcilkcnddgacgaaGreatDoor
open Go.RowKit Go.Shelf
end Go.Proofs.YtcilkcnddgacgaaGreatDoor
/-
  Which types the developers permit: the kinds without parts. No conditions beyond those that each names.
-/
namespace Go.Proofs.YtcilkcnddgacgaaGreatDoor
open Go.RowKit Go.Shelf
end Go.Proofs.YtcilkcnddgacgaaGreatDoor
/-
  Types in new memory: what hangs on no memory but the call's own. No conditions beyond those that each names.
-/
namespace Go.Proofs.YtcilkcnddgacgaaGreatDoor
open Go.RowKit Go.Shelf
/-- The elements lie in new memory. -/
def NwR (lo : Nat) (w : World) (l : List Ty) (A : Option Addr) : Prop := ∀ w', Kpl lo w w' → Rw TyA 4 w' l A
theorem NwR.next {lo : Nat} {w w' : World} {l : List Ty} {A : Option Addr} (h : NwR lo w l A) (k : Kpl lo w w') : NwR lo w' l A := fun w2 k2 => h w2 (k.trans k2)
theorem NwR.rw_ {lo : Nat} {w : World} {l : List Ty} {A : Option Addr} (h : NwR lo w l A) : Rw TyA 4 w l A := h w ⟨Nat.le_refl _, fun _ _ _ => rfl⟩
theorem NwR.nil (lo : Nat) (w : World) (A : Option Addr) : NwR lo w [] A := fun _ _ => .inl rfl
theorem NwR.low {lo hi : Nat} {w : World} {l : List Ty} {A : Option Addr} (h : NwR hi w l A) (hl : lo ≤ hi) : NwR lo w l A := fun w2 k2 => h w2 (k2.mono hl)
/-- The cells of element j. -/
structure EL1 (xs : List Value) (j : Nat) (t : Ty) (A : Option Addr) (c : Nat) : Prop where
  e0 : xs[j * 4]? = some (.int .i64 t.kind)
  e1 : xs[j * 4 + 1]? = some (.int .i64 t.size)
  e2 : xs[j * 4 + 2]? = some (.string (bs t.name))
  e3 : xs[j * 4 + 3]? = some (.slice A t.elem.length c)
def EL (P : Nat → Ty → Option Addr → Prop) (l : List Ty) (xs : List Value) : Prop := ∀ j (h : j < l.length), ∃ A c, EL1 xs j (l[j]'h) A c ∧ P j (l[j]'h) A
theorem news_of {w : World} {b off : Nat} {l : List Ty} (h : ∀ i (h : i < l.length), TyA w (l[i]'h) ((⟨b, off, none⟩ : Addr).add (i * 4))) :
    ∃ xs : List Value, xs.length = l.length * 4 ∧ (∀ j u, xs[j]? = some u → w.cell? ⟨b, off + j, none⟩ = some u) ∧ (∀ u ∈ xs, u.oneCell' = true) ∧ EL (fun _ t A => Rw TyA 4 w t.elem A) l xs := by
  have hcell : ∀ q (hq : q < l.length), w.cell? ⟨b, off + q * 4, none⟩ = some (.int .i64 (l[q]'hq).kind) ∧ w.cell? ⟨b, off + (q * 4 + 1), none⟩ = some (.int .i64 (l[q]'hq).size) ∧ w.cell? ⟨b, off + (q * 4 + 2), none⟩ = some (.string (bs (l[q]'hq).name)) ∧ ∃ A c, w.cell? ⟨b, off + (q * 4 + 3), none⟩ = some (.slice A (l[q]'hq).elem.length c) ∧ Rw TyA 4 w (l[q]'hq).elem A := fun q hq => by
    have := (h q hq).cells
    rw [Addr.add_lit] at this
    simp only [nx1, Nat.add_assoc] at this
    exact this
  have hs : ∀ j, j < l.length * 4 → ∃ u, w.cell? ⟨b, off + j, none⟩ = some u ∧ u.oneCell' = true := fun j hj => by
    have hq : j / 4 < l.length := by omega
    obtain ⟨h0, h1, h2, A, c, h3, -⟩ := hcell (j / 4) hq
    have : j = j / 4 * 4 ∨ j = j / 4 * 4 + 1 ∨ j = j / 4 * 4 + 2 ∨ j = j / 4 * 4 + 3 := by omega
    rcases this with e | e | e | e
    · rw [← e] at h0; exact ⟨_, h0, rfl⟩
    · rw [← e] at h1; exact ⟨_, h1, rfl⟩
    · rw [← e] at h2; exact ⟨_, h2, rfl⟩
    · rw [← e] at h3; exact ⟨_, h3, rfl⟩
  have hget : ∀ j, j < l.length * 4 → ((List.range (l.length * 4)).map fun j => (w.cell? ⟨b, off + j, none⟩).getD undef)[j]? = some ((w.cell? ⟨b, off + j, none⟩).getD undef) := fun j hj => by simp [hj]
  refine ⟨(List.range (l.length * 4)).map fun j => (w.cell? ⟨b, off + j, none⟩).getD undef, by simp, fun j u hu => ?_, fun u hu => ?_, fun q hq => ?_⟩
  · have hj : j < l.length * 4 := by
      have := (List.getElem?_eq_some_iff.1 hu).1
      simpa using this
    rw [hget j hj] at hu
    obtain ⟨v, hv, -⟩ := hs j hj
    rw [hv] at hu ⊢
    exact hu
  · obtain ⟨j, hj, rfl⟩ := List.mem_map.1 hu
    obtain ⟨v, hv, h1⟩ := hs j (List.mem_range.1 hj)
    rw [hv]
    exact h1
  · obtain ⟨h0, h1, h2, A, c, h3, h4⟩ := hcell q hq
    refine ⟨A, c, ⟨?_, ?_, ?_, ?_⟩, h4⟩
    · rw [hget _ (by omega), h0]; rfl
    · rw [hget _ (by omega), h1]; rfl
    · rw [hget _ (by omega), h2]; rfl
    · rw [hget _ (by omega), h3]; rfl
/-- Four cells are set anew. -/
def set4 (xs : List Value) (k : Nat) (v0 v1 v2 v3 : Value) : List Value := (((xs.set (k * 4) v0).set (k * 4 + 1) v1).set (k * 4 + 2) v2).set (k * 4 + 3) v3
theorem set4_other {xs : List Value} {k i : Nat} (v0 v1 v2 v3 : Value) (h : ¬ (k * 4 ≤ i ∧ i ≤ k * 4 + 3)) : (set4 xs k v0 v1 v2 v3)[i]? = xs[i]? := by
  unfold set4
  rw [List.getElem?_set_ne (by omega), List.getElem?_set_ne (by omega), List.getElem?_set_ne (by omega), List.getElem?_set_ne (by omega)]
theorem EL1.set_other {xs : List Value} {j k : Nat} {t : Ty} {A : Option Addr} {c : Nat} (h : EL1 xs j t A c) (hne : j ≠ k) (v0 v1 v2 v3 : Value) : EL1 (set4 xs k v0 v1 v2 v3) j t A c :=
  ⟨(set4_other _ _ _ _ (by omega)).trans h.e0, (set4_other _ _ _ _ (by omega)).trans h.e1, (set4_other _ _ _ _ (by omega)).trans h.e2, (set4_other _ _ _ _ (by omega)).trans h.e3⟩
theorem EL1.set_same {xs : List Value} {k n : Nat} (t : Ty) (A : Option Addr) (c : Nat) (hl : xs.length = n * 4) (hk : k < n) : EL1 (set4 xs k (.int .i64 t.kind) (.int .i64 t.size) (.string (bs t.name)) (.slice A t.elem.length c)) k t A c := by
  unfold set4
  refine ⟨?_, ?_, ?_, ?_⟩
  · rw [List.getElem?_set_ne (by omega), List.getElem?_set_ne (by omega), List.getElem?_set_ne (by omega), List.getElem?_set_self (by omega)]
  · rw [List.getElem?_set_ne (by omega), List.getElem?_set_ne (by omega), List.getElem?_set_self (by simp; omega)]
  · rw [List.getElem?_set_ne (by omega), List.getElem?_set_self (by simp; omega)]
  · rw [List.getElem?_set_self (by simp; omega)]
theorem set4_len (xs : List Value) (k : Nat) (v0 v1 v2 v3 : Value) : (set4 xs k v0 v1 v2 v3).length = xs.length := by unfold set4; simp
/-- A row of the call's own whose elements lie in new memory is one. -/
theorem NwR.row {w : World} {lo g n cap : Nat} {e : TypeId} {l : List Ty} {xs : List Value} (hn : l.length = n) (ho : w.ownsRow lo e 4 (.slice (some ⟨g, 0, none⟩) n cap) n xs) (h : EL (fun _ t A => NwR (g + 1) w t.elem A) l xs) : NwR lo w l (some ⟨g, 0, none⟩) := fun w' k => by
  have hg := ho.lt g rfl
  refine .inr ⟨_, rfl, fun i hi => ?_⟩
  obtain ⟨A, c, hE, hP⟩ := h i hi
  have hc : ∀ j u, j < n * 4 → xs[j]? = some u → w'.cell? ⟨g, j, none⟩ = some u := fun j u hj hu => by
    rw [World.cell?_of_block (w := w) (k.blk g hg.1 hg.2), ho.cellAt j hj, hu]
  rw [Addr.add_lit, Nat.zero_add]
  exact TyA.of (hc (i * 4) _ (by omega) hE.e0) (hc (i * 4 + 1) _ (by omega) hE.e1) (hc (i * 4 + 2) _ (by omega) hE.e2) (hc (i * 4 + 3) _ (by omega) hE.e3) (hP w' (k.mono (by omega)))
/-- A type in new memory. -/
def NtP (t : Ty) (w : World) (e : Ending) (w' : World) : Prop := ∃ A c, e = .returned (.agg #[.int .i64 t.kind, .int .i64 t.size, .string (bs t.name), .slice A t.elem.length c]) ∧ NwR w.heap.size w' t.elem A ∧ Below w.heap.size w w'
def EtP (l : List Ty) (w : World) (e : Ending) (w' : World) : Prop := ∃ A c, e = .returned (.slice A l.length c) ∧ NwR w.heap.size w' l A ∧ Below w.heap.size w w'
theorem info104 : (Tryz.prog.info? 53).map (fun i => (i.zero, i.size, i.bytes)) = some (some (.agg #[.int .i64 0, .int .i64 0, .string ⟨#[]⟩, .slice none 0 0]), 4, 56) := by kernel_rfl
/-- A copy of a list of types. -/
def ClT (n : Nat) (xs : List Value) (w : World) (e : Ending) (w' : World) : Prop := ∃ v', e = .returned v' ∧ w'.ownsRow w.heap.size 53 4 v' n xs ∧ Below w.heap.size w w'
set_option maxRecDepth 100000 in
set_option maxHeartbeats 2000000 in
theorem cloneZero_any (A : Option Addr) (c : Nat) (w : World) : Calls Tryz.prog 183 #[.slice A 0 c] w (ClT 0 [] w) := by
  cases A with
  | none => exact (AnyE.slices_Clone_nil Tryz.clone183 0 c w).mono fun e w' ⟨h1, h2⟩ => ⟨_, h1, World.ownsRow_nil _ _ _ _, by rw [h2]; exact Below.refl _ _⟩
  | some a =>
    obtain ⟨i, hi, hz, hs5, hby⟩ := info_parts info104
    have q22 : ∀ (w : World) (a : Option Addr) (n c n' c' : Nat), (binOp .eql 51 (.slice a n c) (.slice none n' c')).run Tryz.prog w = .ok (.bool a.isNone) w := fun w a n c n' c' => Lib.run_eql_slice_nil w _ _ a n c n' c' Tryz.underlying51
    go_enter Tryz.func183, Tryz.ntmps183
    go_wp2_with (at_builtin; refine wpList_append_own _ rfl _ _ 51 rfl w.heap.size 53 i _ 4 56 Tryz.underlying51 hi hz hs5 hby rfl (by decide) _ _ _ rfl (World.ownsRow_made w #[] 0 (Nat.le_refl _) (Nat.zero_le _) rfl) a 0 c [] rfl rfl (by intro j u hj; simp at hj) (by intro u hu; cases hu) (by unfold maxLen; omega) (by omega) (by simp) ?_)
    intro v' w1 hown hgrow hnil
    go_wp2
    go_ret
    exact ⟨v', rfl, by simpa using hown, ((Below.refl _ w).alloc (Nat.le_refl _) _).grown hgrow (by simp) (by intro k hk; simp [Value.ownBlock] at hk; omega)⟩
theorem cloneType_any (l : List Ty) (A : Option Addr) (c : Nat) (w : World) (hl : l.length ≤ 1000000) (hR : Rw TyA 4 w l A) :
    Calls Tryz.prog 183 #[.slice A l.length c] w fun e w' => ∃ xs, EL (fun _ t A => Rw TyA 4 w t.elem A) l xs ∧ xs.length = l.length * 4 ∧ ClT l.length xs w e w' := by
  by_cases h0 : l = []
  · subst h0
    exact (cloneZero_any A c w).mono fun e w' h => ⟨[], fun j h => absurd h (Nat.not_lt_zero _), rfl, h⟩
  · rcases hR with h | ⟨a, rfl, h⟩
    · exact absurd h h0
    · have h1 : 0 < l.length := List.length_pos_iff.2 h0
      have hs : a.spot = none := by
        have := spot_none0 ((h 0 h1).cells.1)
        simpa [Addr.add] using this
      obtain ⟨b, off, s⟩ := a
      have hs : s = none := hs
      subst hs
      obtain ⟨xs, hx1, hx2, hx3, hx4⟩ := news_of h
      obtain ⟨i, hi, hz, hs5, hby⟩ := info_parts info104
      exact (AnyE.slices_Clone Tryz.clone183 i _ 4 56 hi hz hs5 hby rfl (by decide) Tryz.sizeOf53 b off l.length c xs w hx1 (by unfold maxLen; omega) (by omega) hx2 hx3).mono fun e w' ⟨v', e1, e2, _, e4⟩ => ⟨xs, hx4, hx1, v', e1, e2, e4⟩
end Go.Proofs.YtcilkcnddgacgaaGreatDoor
/-
  The developers' types in new memory: newType, each. No conditions beyond those that each names.
-/
namespace Go.Proofs.YtcilkcnddgacgaaGreatDoor
open Go.RowKit Go.Shelf
/-- The condition on the elements of a row that is renewed: those before number k lie in new memory. -/
def Rn (w0 : World) (g : Nat) (w : World) (k : Nat) (j : Nat) (t : Ty) (A : Option Addr) : Prop := if j < k then NwR (g + 1) w t.elem A else Rw TyA 4 w0 t.elem A
theorem Rn.next {w0 : World} {g k : Nat} {w w' : World} {l : List Ty} {xs : List Value} (h : EL (Rn w0 g w k) l xs) (hk : Kpl (g + 1) w w') : EL (Rn w0 g w' k) l xs := fun j hj => by
  obtain ⟨A, c, h1, h2⟩ := h j hj
  refine ⟨A, c, h1, ?_⟩
  unfold Rn at h2 ⊢
  split
  · rename_i e; rw [if_pos e] at h2; exact h2.next hk
  · rename_i e; rw [if_neg e] at h2; exact h2
theorem Rn.step {w0 : World} {g k n : Nat} {w : World} {l : List Ty} {xs : List Value} (h : EL (Rn w0 g w k) l xs) (hx : xs.length = n * 4) (hn : l.length = n) (hk : k < l.length) {A : Option Addr} {c : Nat} (hA : NwR (g + 1) w (l[k]'hk).elem A) :
    EL (Rn w0 g w (k + 1)) l (set4 xs k (.int .i64 (l[k]'hk).kind) (.int .i64 (l[k]'hk).size) (.string (bs (l[k]'hk).name)) (.slice A (l[k]'hk).elem.length c)) := fun j hj => by
  by_cases e : j = k
  · subst e
    exact ⟨A, c, EL1.set_same _ _ _ hx (by omega), by unfold Rn; rw [if_pos (Nat.lt_succ_self _)]; exact hA⟩
  · obtain ⟨A', c', h1, h2⟩ := h j hj
    refine ⟨A', c', h1.set_other e _ _ _ _, ?_⟩
    unfold Rn at h2 ⊢
    by_cases e2 : j < k
    · rw [if_pos e2] at h2; rw [if_pos (by omega)]; exact h2
    · rw [if_neg e2] at h2; rw [if_neg (by omega)]; exact h2
theorem stored4 {w : World} {base g n cap : Nat} {e : TypeId} {xs : List Value} (h : w.ownsRow base e 4 (.slice (some ⟨g, 0, none⟩) n cap) n xs) (k : Nat) (v0 v1 v2 v3 : Value) :
    ((((w.setCell ⟨g, k * 4, none⟩ v0).setCell ⟨g, k * 4 + 1, none⟩ v1).setCell ⟨g, k * 4 + 2, none⟩ v2).setCell ⟨g, k * 4 + 3, none⟩ v3).ownsRow base e 4 (.slice (some ⟨g, 0, none⟩) n cap) n (set4 xs k v0 v1 v2 v3) ∧
      w.grownBy ((((w.setCell ⟨g, k * 4, none⟩ v0).setCell ⟨g, k * 4 + 1, none⟩ v1).setCell ⟨g, k * 4 + 2, none⟩ v2).setCell ⟨g, k * 4 + 3, none⟩ v3) (some g) := by
  obtain ⟨h1, g1⟩ := h.stored (k * 4) v0
  obtain ⟨h2, g2⟩ := h1.stored (k * 4 + 1) v1
  obtain ⟨h3, g3⟩ := h2.stored (k * 4 + 2) v2
  obtain ⟨h4, g4⟩ := h3.stored (k * 4 + 3) v3
  exact ⟨h4, ((g1.trans g2).trans g3).trans g4⟩
set_option maxRecDepth 100000 in
set_option maxHeartbeats 4000000 in
theorem eachType_any (l : List Ty) (A : Option Addr) (c : Nat) (w : World) (hl : l.length ≤ 1000000) (hR : Rw TyA 4 w l A)
    (hc : ∀ i (h : i < l.length) v w', TyV w' (l[i]'h) v → Calls Tryz.prog 157 #[v] w' (NtP (l[i]'h) w')) :
    Calls Tryz.prog 171 #[.slice A l.length c, .func (.func 157) #[] #[]] w (EtP l w) := by
  have cC := cloneType_any l A c w hl hR
  unfold EtP
  obtain ⟨n, hn⟩ : ∃ n, l.length = n := ⟨_, rfl⟩
  have HN := Lib.hid hn
  rw [hn] at cC hl ⊢
  clear hn
  go_enter Tryz.func171, Tryz.ntmps171
  go_wp2_with fail
  refine cC.mono ?_
  rintro e w1 ⟨xs, hE, hxl, v', rfl, hown, hb1⟩
  clear cC
  by_cases h0 : n = 0
  · subst h0
    obtain ⟨-, hh⟩ := hown
    have hv : ∃ B d, v' = .slice B 0 d := by
      rcases hh with ⟨h, -⟩ | ⟨g, cap, cur, h, -⟩
      · exact ⟨_, _, h⟩
      · exact ⟨_, _, h⟩
    obtain ⟨B, d, rfl⟩ := hv
    have hnil : l = [] := List.eq_nil_of_length_eq_zero HN.out
    clear hc hh
    go_wp2_with fail
    go_loopw [12] (fun i wr => i = .int .i64 0 ∧ Below w.heap.size w wr) (fun _ _ => 0)
    case atStart => exact ⟨rfl, hb1⟩
    case round =>
      obtain ⟨rfl, hb⟩ := hrel
      go_wp2_with fail
      go_ret
      exact ⟨B, d, rfl, by rw [hnil]; exact NwR.nil _ _ _, hb⟩
  · have hv : ∃ g d, v' = .slice (some ⟨g, 0, none⟩) n d := by
      rcases hown.2 with ⟨-, h⟩ | ⟨g, cap, cur, h, -⟩
      · exact absurd h h0
      · exact ⟨_, _, h⟩
    obtain ⟨g, d, rfl⟩ := hv
    have hg := hown.lt g rfl
    have HE : Hid (EL (Rn w g w1 0) l xs) := Lib.hid fun j hj => by
      obtain ⟨A', c', h1, h2⟩ := hE j hj
      exact ⟨A', c', h1, by unfold Rn; rw [if_neg (by omega)]; exact h2⟩
    clear hE
    go_wp2_with fail
    go_loopw [12] (fun i wr => ∃ (k : Nat) (ys : List Value), k ≤ n ∧ i = .int .i64 (k : Int) ∧ Hid (EL (Rn w g wr k) l ys) ∧ ys.length = n * 4 ∧ wr.ownsRow w.heap.size 53 4 (.slice (some ⟨g, 0, none⟩) n d) n ys ∧ Below w.heap.size w wr) (fun i _ => n - (intOf i).toNat)
    case atStart => exact ⟨0, xs, by omega, rfl, HE, hxl, hown, hb1⟩
    case round =>
      clear HE hown hb1 hxl
      obtain ⟨k, ys, hk, rfl, HE, hyl, hown, hb⟩ := hrel
      by_cases hlt : k < n
      · have hkl : k < l.length := by rw [HN.out]; exact hlt
        obtain ⟨A3, c3, hE1, hP⟩ := HE.out k hkl
        have hP : Rw TyA 4 w (l[k]'hkl).elem A3 := by unfold Rn at hP; rw [if_neg (by omega)] at hP; exact hP
        have e0 : wr.cell? ⟨g, k * 4, none⟩ = _ := (hown.cellAt (k * 4) (by omega)).trans hE1.e0
        have e1 : wr.cell? ⟨g, k * 4 + 1, none⟩ = _ := (hown.cellAt (k * 4 + 1) (by omega)).trans hE1.e1
        have e2 : wr.cell? ⟨g, k * 4 + 2, none⟩ = _ := (hown.cellAt (k * 4 + 2) (by omega)).trans hE1.e2
        have e3 : wr.cell? ⟨g, k * 4 + 3, none⟩ = _ := (hown.cellAt (k * 4 + 3) (by omega)).trans hE1.e3
        have hgl := (hown.lt g rfl).2
        have hstep := fun W A9 c9 (hE9 : EL (Rn w g W k) l ys) => Rn.step (c := c9) (A := A9) hE9 hyl HN.out hkl
        have HS := Lib.hid hstep
        have cN := hc k hkl
        generalize l[k]'hkl = t at *
        have hW1 := ab1 wr (Obj.cells #[.int .i64 t.kind, .int .i64 t.size, .string (bs t.name), .slice A3 t.elem.length c3] 53)
        have cN2 := cN _ (wr.alloc (Obj.cells #[.int .i64 t.kind, .int .i64 t.size, .string (bs t.name), .slice A3 t.elem.length c3] 53)) ⟨A3, c3, rfl, hP.next (fun x p => TyA.next (Below.next hb hW1) x p)⟩
        have hz : wr.heap.size ≤ (wr.alloc (Obj.cells #[.int .i64 t.kind, .int .i64 t.size, .string (bs t.name), .slice A3 t.elem.length c3] 53)).heap.size := hW1.size
        clear hstep cN hE1 hP hkl
        go_wp2_with fail
        refine cN2.mono ?_
        rintro e w3 ⟨A9, c9, rfl, hN9, hb9⟩
        have hb3 := Below.next hW1 hb9
        have hb4 := Below.next hb hb3
        have hown3 := hown.kept (gbq_of hb3 none) (.inr (by simp [Value.ownBlock]))
        have f0 := hown3.frozenAt (k * 4)
        have f1 := hown3.frozenAt (k * 4 + 1)
        have f2 := hown3.frozenAt (k * 4 + 2)
        have f3 := hown3.frozenAt (k * 4 + 3)
        replace e0 := cell_next hb3 e0
        replace e1 := cell_next hb3 e1
        replace e2 := cell_next hb3 e2
        replace e3 := cell_next hb3 e3
        obtain ⟨hst, hgr⟩ := stored4 hown3 k (.int .i64 t.kind) (.int .i64 t.size) (.string (bs t.name)) (.slice A9 t.elem.length c9)
        have hE3 := Rn.next HE.out (Kpl.of (lo := g + 1) hb3)
        have hN3 : NwR (g + 1) w3 t.elem A9 := hN9.low (Nat.le_trans (Nat.succ_le_of_lt hgl) hz)
        have hE4 := Lib.hid (HS.out _ A9 c9 (Rn.next hE3 (Kpl.gb hgr (Nat.lt_succ_self _))) (hN3.next (Kpl.gb hgr (Nat.lt_succ_self _))))
        have hb5 := hb4.grown hgr hb4.size (fun j hj => by cases hj; exact (hown.lt g rfl).1)
        clear cN2 hW1 hb3 hb9 hb hown hE3
        go_wp2_with fail
        go_roundw
        case rel => exact ⟨k + 1, _, by omega, by go_num, hE4, by rw [set4_len]; exact hyl, hst, hb5⟩
        case measure => simp [intOf]; omega
      · obtain rfl : k = n := by omega
        have hF := NwR.row HN.out hown (fun j hj => by
          obtain ⟨A', c', h1, h2⟩ := HE.out j hj
          unfold Rn at h2
          rw [if_pos (by rw [← HN.out]; exact hj)] at h2
          exact ⟨A', c', h1, h2⟩)
        clear hc HE
        go_wp2_with fail
        go_ret
        exact ⟨_, _, rfl, hF, hb⟩
set_option maxRecDepth 100000 in
set_option maxHeartbeats 4000000 in
theorem newType_any (N : Nat) : ∀ (t : Ty) (v : Value) (w : World), SizeOf.sizeOf t < N → fewT t = true → TyV w t v →
    Calls Tryz.prog 157 #[v] w (NtP t w) := by
  induction N with
  | zero => intro t v w h; omega
  | succ N ih =>
    intro t v w hN hf hv
    rw [fewT_eq] at hf
    simp only [Bool.and_eq_true, decide_eq_true_eq, List.all_eq_true] at hf
    obtain ⟨A, c, rfl, hR⟩ := hv
    have hs1 := fun i h => size_elem (t := t) (i := i) h
    have z1 : (w.alloc (Obj.cells #[.int .i64 t.kind, .int .i64 t.size, .string (bs t.name), .slice A t.elem.length c] 53)).heap.size = w.heap.size + 1 := by simp
    have hab := ab2 w (Obj.cells #[.int .i64 t.kind, .int .i64 t.size, .string (bs t.name), .slice A t.elem.length c] 53) (Obj.cells #[.int .i64 0, .int .i64 0, .string ⟨#[]⟩, .slice none 0 0] 53)
    have B1 := (Bx.new4 w 53 (.int .i64 t.kind) (.int .i64 t.size) (.string (bs t.name)) (.slice A t.elem.length c)).next (ab1 _ (Obj.cells #[.int .i64 0, .int .i64 0, .string ⟨#[]⟩, .slice none 0 0] 53))
    have B2 := Bx.new4 (w.alloc (Obj.cells #[.int .i64 t.kind, .int .i64 t.size, .string (bs t.name), .slice A t.elem.length c] 53)) 53 (.int .i64 0) (.int .i64 0) (.string ⟨#[]⟩) (.slice none 0 0)
    rw [z1] at B2
    have cE := eachType_any t.elem A c _ (by omega) (hR.next fun x p => TyA.next hab x p) (fun i h v w' hV => ih _ v w' (by have := hs1 i h; omega) (hf.2.2.2 _ (List.getElem_mem h)) hV)
    have hz : w.heap.size + 1 + 1 ≤ ((w.alloc (Obj.cells #[.int .i64 t.kind, .int .i64 t.size, .string (bs t.name), .slice A t.elem.length c] 53)).alloc (Obj.cells #[.int .i64 0, .int .i64 0, .string ⟨#[]⟩, .slice none 0 0] 53)).heap.size := by simp
    unfold NtP
    clear ih hs1 hf hR z1 hN
    generalize t.elem = e at *
    go_enter Tryz.func157, Tryz.ntmps157
    go_wp2_with fail
    refine cE.mono ?_
    rintro e3 w3 ⟨A9, c9, rfl, hN9, hb9⟩
    have hb3 := Below.next hab hb9
    have C1 := B1.next hb9
    have C2 := B2.next hb9
    have p0 := C1.c 0 rfl
    have p1 := C1.c 1 rfl
    have p2 := C1.c 2 rfl
    have p3 := C1.c 3 rfl
    have f3 := C1.f 3 rfl
    have r0 := C2.c 0 rfl
    have r1 := C2.c 1 rfl
    have r2 := C2.c 2 rfl
    have r3 := C2.c 3 rfl
    have s0 := C2.f 0 rfl
    have s1 := C2.f 1 rfl
    have s2 := C2.f 2 rfl
    have s3 := C2.f 3 rfl
    have l1 := C1.lt
    have l2 := C2.lt
    clear cE
    go_wp2_with fail
    refine bodyPost_ret (v := .agg #[.int .i64 t.kind, .int .i64 t.size, .string (bs t.name), .slice A9 e.length c9]) (by simp [results, Tryz.results157, go_sem, r0, r1, r2, r3]) rfl ⟨A9, c9, rfl, ?_, ?_⟩
    · refine (hN9.next ?_).low hab.size
      exact ((((Kpl.of (Below.refl _ _)).set (by show w.heap.size < _; omega) _).set (by show w.heap.size + 1 < _; omega) _).set (by show w.heap.size + 1 < _; omega) _ |>.set (by show w.heap.size + 1 < _; omega) _).set (by show w.heap.size + 1 < _; omega) _
    · exact ((((hb3.setCell (by simp) _).setCell (by simp) _).setCell (by simp) _).setCell (by simp) _).setCell (by simp) _
end Go.Proofs.YtcilkcnddgacgaaGreatDoor
/-
  The developers' fields in new memory: newField, each. No conditions beyond those that each names.
-/
namespace Go.Proofs.YtcilkcnddgacgaaGreatDoor
open Go.RowKit Go.Shelf
/-- The fields lie in new memory. -/
def NwF (lo : Nat) (w : World) (l : List Fd) (A : Option Addr) : Prop := ∀ w', Kpl lo w w' → Rw FdA 7 w' l A
theorem NwF.next {lo : Nat} {w w' : World} {l : List Fd} {A : Option Addr} (h : NwF lo w l A) (k : Kpl lo w w') : NwF lo w' l A := fun w2 k2 => h w2 (k.trans k2)
theorem NwF.rw_ {lo : Nat} {w : World} {l : List Fd} {A : Option Addr} (h : NwF lo w l A) : Rw FdA 7 w l A := h w ⟨Nat.le_refl _, fun _ _ _ => rfl⟩
theorem NwF.nil (lo : Nat) (w : World) (A : Option Addr) : NwF lo w [] A := fun _ _ => .inl rfl
theorem NwF.low {lo hi : Nat} {w : World} {l : List Fd} {A : Option Addr} (h : NwF hi w l A) (hl : lo ≤ hi) : NwF lo w l A := fun w2 k2 => h w2 (k2.mono hl)
/-- The cells of element j. -/
structure FL1 (xs : List Value) (j : Nat) (t : Fd) (A : Option Addr) (c : Nat) : Prop where
  e0 : xs[j * 7]? = some (.int .i64 t.num)
  e1 : xs[j * 7 + 1]? = some (.string (bs t.name))
  e2 : xs[j * 7 + 2]? = some (.int .i64 t.type.kind)
  e3 : xs[j * 7 + 3]? = some (.int .i64 t.type.size)
  e4 : xs[j * 7 + 4]? = some (.string (bs t.type.name))
  e5 : xs[j * 7 + 5]? = some (.slice A t.type.elem.length c)
  e6 : xs[j * 7 + 6]? = some (.bool t.opt)
def FL (P : Nat → Fd → Option Addr → Prop) (l : List Fd) (xs : List Value) : Prop := ∀ j (h : j < l.length), ∃ A c, FL1 xs j (l[j]'h) A c ∧ P j (l[j]'h) A
theorem newsF_of {w : World} {b off : Nat} {l : List Fd} (h : ∀ i (h : i < l.length), FdA w (l[i]'h) ((⟨b, off, none⟩ : Addr).add (i * 7))) :
    ∃ xs : List Value, xs.length = l.length * 7 ∧ (∀ j u, xs[j]? = some u → w.cell? ⟨b, off + j, none⟩ = some u) ∧ (∀ u ∈ xs, u.oneCell' = true) ∧ FL (fun _ t A => Rw TyA 4 w t.type.elem A) l xs := by
  have hcell : ∀ q (hq : q < l.length), w.cell? ⟨b, off + q * 7, none⟩ = some (.int .i64 (l[q]'hq).num) ∧ w.cell? ⟨b, off + (q * 7 + 1), none⟩ = some (.string (bs (l[q]'hq).name)) ∧ w.cell? ⟨b, off + (q * 7 + 2), none⟩ = some (.int .i64 (l[q]'hq).type.kind) ∧ w.cell? ⟨b, off + (q * 7 + 3), none⟩ = some (.int .i64 (l[q]'hq).type.size) ∧ w.cell? ⟨b, off + (q * 7 + 4), none⟩ = some (.string (bs (l[q]'hq).type.name)) ∧ ∃ A c, w.cell? ⟨b, off + (q * 7 + 5), none⟩ = some (.slice A (l[q]'hq).type.elem.length c) ∧ w.cell? ⟨b, off + (q * 7 + 6), none⟩ = some (.bool (l[q]'hq).opt) ∧ Rw TyA 4 w (l[q]'hq).type.elem A := fun q hq => by
    obtain ⟨h0, h1, h2, h3, h4, ⟨A, c, h5, h6⟩, h7⟩ := h q hq
    rw [Addr.add_lit] at h0 h1 h2 h3 h4 h5 h7
    simp only [nx1, Nat.add_assoc] at h1 h2 h3 h4 h5 h7
    exact ⟨h0, h1, h2, h3, h4, A, c, h5, h7, h6⟩
  have hs : ∀ j, j < l.length * 7 → ∃ u, w.cell? ⟨b, off + j, none⟩ = some u ∧ u.oneCell' = true := fun j hj => by
    have hq : j / 7 < l.length := by omega
    obtain ⟨h0, h1, h2, h3, h4, A, c, h5, h6, -⟩ := hcell (j / 7) hq
    have : j = j / 7 * 7 ∨ j = j / 7 * 7 + 1 ∨ j = j / 7 * 7 + 2 ∨ j = j / 7 * 7 + 3 ∨ j = j / 7 * 7 + 4 ∨ j = j / 7 * 7 + 5 ∨ j = j / 7 * 7 + 6 := by omega
    rcases this with e | e | e | e | e | e | e
    · rw [← e] at h0; exact ⟨_, h0, rfl⟩
    · rw [← e] at h1; exact ⟨_, h1, rfl⟩
    · rw [← e] at h2; exact ⟨_, h2, rfl⟩
    · rw [← e] at h3; exact ⟨_, h3, rfl⟩
    · rw [← e] at h4; exact ⟨_, h4, rfl⟩
    · rw [← e] at h5; exact ⟨_, h5, rfl⟩
    · rw [← e] at h6; exact ⟨_, h6, rfl⟩
  have hget : ∀ j, j < l.length * 7 → ((List.range (l.length * 7)).map fun j => (w.cell? ⟨b, off + j, none⟩).getD undef)[j]? = some ((w.cell? ⟨b, off + j, none⟩).getD undef) := fun j hj => by simp [hj]
  refine ⟨(List.range (l.length * 7)).map fun j => (w.cell? ⟨b, off + j, none⟩).getD undef, by simp, fun j u hu => ?_, fun u hu => ?_, fun q hq => ?_⟩
  · have hj : j < l.length * 7 := by
      have := (List.getElem?_eq_some_iff.1 hu).1
      simpa using this
    rw [hget j hj] at hu
    obtain ⟨v, hv, -⟩ := hs j hj
    rw [hv] at hu ⊢
    exact hu
  · obtain ⟨j, hj, rfl⟩ := List.mem_map.1 hu
    obtain ⟨v, hv, h1⟩ := hs j (List.mem_range.1 hj)
    rw [hv]
    exact h1
  · obtain ⟨h0, h1, h2, h3, h4, A, c, h5, h6, h7⟩ := hcell q hq
    refine ⟨A, c, ⟨?_, ?_, ?_, ?_, ?_, ?_, ?_⟩, h7⟩
    · rw [hget _ (by omega), h0]; rfl
    · rw [hget _ (by omega), h1]; rfl
    · rw [hget _ (by omega), h2]; rfl
    · rw [hget _ (by omega), h3]; rfl
    · rw [hget _ (by omega), h4]; rfl
    · rw [hget _ (by omega), h5]; rfl
    · rw [hget _ (by omega), h6]; rfl
/-- Seven cells are set anew. -/
def set7 (xs : List Value) (k : Nat) (v0 v1 v2 v3 v4 v5 v6 : Value) : List Value := (((((((xs.set (k * 7) v0).set (k * 7 + 1) v1).set (k * 7 + 2) v2).set (k * 7 + 3) v3).set (k * 7 + 4) v4).set (k * 7 + 5) v5).set (k * 7 + 6) v6)
theorem set7_other {xs : List Value} {k i : Nat} (v0 v1 v2 v3 v4 v5 v6 : Value) (h : ¬ (k * 7 ≤ i ∧ i ≤ k * 7 + 6)) : (set7 xs k v0 v1 v2 v3 v4 v5 v6)[i]? = xs[i]? := by
  unfold set7
  rw [List.getElem?_set_ne (by omega), List.getElem?_set_ne (by omega), List.getElem?_set_ne (by omega), List.getElem?_set_ne (by omega), List.getElem?_set_ne (by omega), List.getElem?_set_ne (by omega), List.getElem?_set_ne (by omega)]
theorem FL1.set_other {xs : List Value} {j k : Nat} {t : Fd} {A : Option Addr} {c : Nat} (h : FL1 xs j t A c) (hne : j ≠ k) (v0 v1 v2 v3 v4 v5 v6 : Value) : FL1 (set7 xs k v0 v1 v2 v3 v4 v5 v6) j t A c :=
  ⟨(set7_other _ _ _ _ _ _ _ (by omega)).trans h.e0, (set7_other _ _ _ _ _ _ _ (by omega)).trans h.e1, (set7_other _ _ _ _ _ _ _ (by omega)).trans h.e2, (set7_other _ _ _ _ _ _ _ (by omega)).trans h.e3, (set7_other _ _ _ _ _ _ _ (by omega)).trans h.e4, (set7_other _ _ _ _ _ _ _ (by omega)).trans h.e5, (set7_other _ _ _ _ _ _ _ (by omega)).trans h.e6⟩
theorem FL1.set_same {xs : List Value} {k n : Nat} (t : Fd) (A : Option Addr) (c : Nat) (hl : xs.length = n * 7) (hk : k < n) : FL1 (set7 xs k (.int .i64 t.num) (.string (bs t.name)) (.int .i64 t.type.kind) (.int .i64 t.type.size) (.string (bs t.type.name)) (.slice A t.type.elem.length c) (.bool t.opt)) k t A c := by
  unfold set7
  refine ⟨?_, ?_, ?_, ?_, ?_, ?_, ?_⟩
  · rw [List.getElem?_set_ne (by omega), List.getElem?_set_ne (by omega), List.getElem?_set_ne (by omega), List.getElem?_set_ne (by omega), List.getElem?_set_ne (by omega), List.getElem?_set_ne (by omega), List.getElem?_set_self (by first | omega | (simp; omega))]
  · rw [List.getElem?_set_ne (by omega), List.getElem?_set_ne (by omega), List.getElem?_set_ne (by omega), List.getElem?_set_ne (by omega), List.getElem?_set_ne (by omega), List.getElem?_set_self (by first | omega | (simp; omega))]
  · rw [List.getElem?_set_ne (by omega), List.getElem?_set_ne (by omega), List.getElem?_set_ne (by omega), List.getElem?_set_ne (by omega), List.getElem?_set_self (by first | omega | (simp; omega))]
  · rw [List.getElem?_set_ne (by omega), List.getElem?_set_ne (by omega), List.getElem?_set_ne (by omega), List.getElem?_set_self (by first | omega | (simp; omega))]
  · rw [List.getElem?_set_ne (by omega), List.getElem?_set_ne (by omega), List.getElem?_set_self (by first | omega | (simp; omega))]
  · rw [List.getElem?_set_ne (by omega), List.getElem?_set_self (by first | omega | (simp; omega))]
  · rw [List.getElem?_set_self (by first | omega | (simp; omega))]
theorem set7_len (xs : List Value) (k : Nat) (v0 v1 v2 v3 v4 v5 v6 : Value) : (set7 xs k v0 v1 v2 v3 v4 v5 v6).length = xs.length := by unfold set7; simp
/-- A row of the call's own whose elements lie in new memory is one. -/
theorem NwF.row {w : World} {lo g n cap : Nat} {e : TypeId} {l : List Fd} {xs : List Value} (hn : l.length = n) (ho : w.ownsRow lo e 7 (.slice (some ⟨g, 0, none⟩) n cap) n xs) (h : FL (fun _ t A => NwR (g + 1) w t.type.elem A) l xs) : NwF lo w l (some ⟨g, 0, none⟩) := fun w' k => by
  have hg := ho.lt g rfl
  refine .inr ⟨_, rfl, fun i hi => ?_⟩
  obtain ⟨A, c, hE, hP⟩ := h i hi
  have hc : ∀ j u, j < n * 7 → xs[j]? = some u → w'.cell? ⟨g, j, none⟩ = some u := fun j u hj hu => by
    rw [World.cell?_of_block (w := w) (k.blk g hg.1 hg.2), ho.cellAt j hj, hu]
  rw [Addr.add_lit, Nat.zero_add]
  exact ⟨hc (i * 7) _ (by omega) hE.e0, hc (i * 7 + 1) _ (by omega) hE.e1, hc (i * 7 + 2) _ (by omega) hE.e2, hc (i * 7 + 3) _ (by omega) hE.e3, hc (i * 7 + 4) _ (by omega) hE.e4, ⟨A, c, hc (i * 7 + 5) _ (by omega) hE.e5, hP w' (k.mono (by omega))⟩, hc (i * 7 + 6) _ (by omega) hE.e6⟩
/-- A field in new memory. -/
def FtP (t : Fd) (w : World) (e : Ending) (w' : World) : Prop := ∃ A c, e = .returned (.agg #[.int .i64 t.num, .string (bs t.name), .int .i64 t.type.kind, .int .i64 t.type.size, .string (bs t.type.name), .slice A t.type.elem.length c, .bool t.opt]) ∧ NwR w.heap.size w' t.type.elem A ∧ Below w.heap.size w w'
def EfP (l : List Fd) (w : World) (e : Ending) (w' : World) : Prop := ∃ A c, e = .returned (.slice A l.length c) ∧ NwF w.heap.size w' l A ∧ Below w.heap.size w w'
theorem info74 : (Tryz.prog.info? 61).map (fun i => (i.zero, i.size, i.bytes)) = some (some (.agg #[.int .i64 0, .string ⟨#[]⟩, .int .i64 0, .int .i64 0, .string ⟨#[]⟩, .slice none 0 0, .bool false]), 7, 88) := by kernel_rfl
/-- A copy of a list of fields. -/
def ClF (n : Nat) (xs : List Value) (w : World) (e : Ending) (w' : World) : Prop := ∃ v', e = .returned v' ∧ w'.ownsRow w.heap.size 61 7 v' n xs ∧ Below w.heap.size w w'
set_option maxRecDepth 100000 in
set_option maxHeartbeats 2000000 in
theorem cloneZeroF_any (A : Option Addr) (c : Nat) (w : World) : Calls Tryz.prog 156 #[.slice A 0 c] w (ClF 0 [] w) := by
  cases A with
  | none => exact (AnyE.slices_Clone_nil Tryz.clone156 0 c w).mono fun e w' ⟨h1, h2⟩ => ⟨_, h1, World.ownsRow_nil _ _ _ _, by rw [h2]; exact Below.refl _ _⟩
  | some a =>
    obtain ⟨i, hi, hz, hs5, hby⟩ := info_parts info74
    have q22 : ∀ (w : World) (a : Option Addr) (n c n' c' : Nat), (binOp .eql 35 (.slice a n c) (.slice none n' c')).run Tryz.prog w = .ok (.bool a.isNone) w := fun w a n c n' c' => Lib.run_eql_slice_nil w _ _ a n c n' c' Tryz.underlying35
    go_enter Tryz.func156, Tryz.ntmps156
    go_wp2_with (at_builtin; refine wpList_append_own _ rfl _ _ 35 rfl w.heap.size 61 i _ 7 88 Tryz.underlying35 hi hz hs5 hby rfl (by decide) _ _ _ rfl (World.ownsRow_made w #[] 0 (Nat.le_refl _) (Nat.zero_le _) rfl) a 0 c [] rfl rfl (by intro j u hj; simp at hj) (by intro u hu; cases hu) (by unfold maxLen; omega) (by omega) (by simp) ?_)
    intro v' w1 hown hgrow hnil
    go_wp2
    go_ret
    exact ⟨v', rfl, by simpa using hown, ((Below.refl _ w).alloc (Nat.le_refl _) _).grown hgrow (by simp) (by intro k hk; simp [Value.ownBlock] at hk; omega)⟩
theorem cloneField_any (l : List Fd) (A : Option Addr) (c : Nat) (w : World) (hl : l.length ≤ 1000000) (hR : Rw FdA 7 w l A) :
    Calls Tryz.prog 156 #[.slice A l.length c] w fun e w' => ∃ xs, FL (fun _ t A => Rw TyA 4 w t.type.elem A) l xs ∧ xs.length = l.length * 7 ∧ ClF l.length xs w e w' := by
  by_cases h0 : l = []
  · subst h0
    exact (cloneZeroF_any A c w).mono fun e w' h => ⟨[], fun j h => absurd h (Nat.not_lt_zero _), rfl, h⟩
  · rcases hR with h | ⟨a, rfl, h⟩
    · exact absurd h h0
    · have h1 : 0 < l.length := List.length_pos_iff.2 h0
      have hs : a.spot = none := by
        have := spot_none0 (h 0 h1).1
        simpa [Addr.add] using this
      obtain ⟨b, off, s⟩ := a
      have hs : s = none := hs
      subst hs
      obtain ⟨xs, hx1, hx2, hx3, hx4⟩ := newsF_of h
      obtain ⟨i, hi, hz, hs5, hby⟩ := info_parts info74
      exact (AnyE.slices_Clone Tryz.clone156 i _ 7 88 hi hz hs5 hby rfl (by decide) Tryz.sizeOf61 b off l.length c xs w hx1 (by unfold maxLen; omega) (by omega) hx2 hx3).mono fun e w' ⟨v', e1, e2, _, e4⟩ => ⟨xs, hx4, hx1, v', e1, e2, e4⟩
/-- The condition on the fields of a row that is renewed: those before number k lie in new memory. -/
def Rf (w0 : World) (g : Nat) (w : World) (k : Nat) (j : Nat) (t : Fd) (A : Option Addr) : Prop := if j < k then NwR (g + 1) w t.type.elem A else Rw TyA 4 w0 t.type.elem A
theorem Rf.next {w0 : World} {g k : Nat} {w w' : World} {l : List Fd} {xs : List Value} (h : FL (Rf w0 g w k) l xs) (hk : Kpl (g + 1) w w') : FL (Rf w0 g w' k) l xs := fun j hj => by
  obtain ⟨A, c, h1, h2⟩ := h j hj
  refine ⟨A, c, h1, ?_⟩
  unfold Rf at h2 ⊢
  split
  · rename_i e; rw [if_pos e] at h2; exact h2.next hk
  · rename_i e; rw [if_neg e] at h2; exact h2
theorem Rf.step {w0 : World} {g k n : Nat} {w : World} {l : List Fd} {xs : List Value} (h : FL (Rf w0 g w k) l xs) (hx : xs.length = n * 7) (hn : l.length = n) (hk : k < l.length) {A : Option Addr} {c : Nat} (hA : NwR (g + 1) w (l[k]'hk).type.elem A) :
    FL (Rf w0 g w (k + 1)) l (set7 xs k (.int .i64 (l[k]'hk).num) (.string (bs (l[k]'hk).name)) (.int .i64 (l[k]'hk).type.kind) (.int .i64 (l[k]'hk).type.size) (.string (bs (l[k]'hk).type.name)) (.slice A (l[k]'hk).type.elem.length c) (.bool (l[k]'hk).opt)) := fun j hj => by
  by_cases e : j = k
  · subst e
    exact ⟨A, c, FL1.set_same _ _ _ hx (by omega), by unfold Rf; rw [if_pos (Nat.lt_succ_self _)]; exact hA⟩
  · obtain ⟨A', c', h1, h2⟩ := h j hj
    refine ⟨A', c', h1.set_other e _ _ _ _ _ _ _, ?_⟩
    unfold Rf at h2 ⊢
    by_cases e2 : j < k
    · rw [if_pos e2] at h2; rw [if_pos (by omega)]; exact h2
    · rw [if_neg e2] at h2; rw [if_neg (by omega)]; exact h2
theorem stored7 {w : World} {base g n cap : Nat} {e : TypeId} {xs : List Value} (h : w.ownsRow base e 7 (.slice (some ⟨g, 0, none⟩) n cap) n xs) (k : Nat) (v0 v1 v2 v3 v4 v5 v6 : Value) :
    (((((((w.setCell ⟨g, k * 7, none⟩ v0).setCell ⟨g, k * 7 + 1, none⟩ v1).setCell ⟨g, k * 7 + 2, none⟩ v2).setCell ⟨g, k * 7 + 3, none⟩ v3).setCell ⟨g, k * 7 + 4, none⟩ v4).setCell ⟨g, k * 7 + 5, none⟩ v5).setCell ⟨g, k * 7 + 6, none⟩ v6).ownsRow base e 7 (.slice (some ⟨g, 0, none⟩) n cap) n (set7 xs k v0 v1 v2 v3 v4 v5 v6) ∧ w.grownBy (((((((w.setCell ⟨g, k * 7, none⟩ v0).setCell ⟨g, k * 7 + 1, none⟩ v1).setCell ⟨g, k * 7 + 2, none⟩ v2).setCell ⟨g, k * 7 + 3, none⟩ v3).setCell ⟨g, k * 7 + 4, none⟩ v4).setCell ⟨g, k * 7 + 5, none⟩ v5).setCell ⟨g, k * 7 + 6, none⟩ v6) (some g) := by
  obtain ⟨h0, g0⟩ := h.stored (k * 7) v0
  obtain ⟨h1, g1⟩ := h0.stored (k * 7 + 1) v1
  obtain ⟨h2, g2⟩ := h1.stored (k * 7 + 2) v2
  obtain ⟨h3, g3⟩ := h2.stored (k * 7 + 3) v3
  obtain ⟨h4, g4⟩ := h3.stored (k * 7 + 4) v4
  obtain ⟨h5, g5⟩ := h4.stored (k * 7 + 5) v5
  obtain ⟨h6, g6⟩ := h5.stored (k * 7 + 6) v6
  exact ⟨h6, (((((g0.trans g1).trans g2).trans g3).trans g4).trans g5).trans g6⟩
set_option maxRecDepth 100000 in
set_option maxHeartbeats 4000000 in
theorem eachField_any (l : List Fd) (A : Option Addr) (c : Nat) (w : World) (hl : l.length ≤ 1000000) (hR : Rw FdA 7 w l A)
    (hc : ∀ i (h : i < l.length) v w', FdV w' (l[i]'h) v → Calls Tryz.prog 116 #[v] w' (FtP (l[i]'h) w')) :
    Calls Tryz.prog 115 #[.slice A l.length c, .func (.func 116) #[] #[]] w (EfP l w) := by
  have cC := cloneField_any l A c w hl hR
  unfold EfP
  obtain ⟨n, hn⟩ : ∃ n, l.length = n := ⟨_, rfl⟩
  have HN := Lib.hid hn
  rw [hn] at cC hl ⊢
  clear hn
  go_enter Tryz.func115, Tryz.ntmps115
  go_wp2_with fail
  refine cC.mono ?_
  rintro e w1 ⟨xs, hE, hxl, v', rfl, hown, hb1⟩
  clear cC
  by_cases h0 : n = 0
  · subst h0
    obtain ⟨-, hh⟩ := hown
    have hv : ∃ B d, v' = .slice B 0 d := by
      rcases hh with ⟨h, -⟩ | ⟨g, cap, cur, h, -⟩
      · exact ⟨_, _, h⟩
      · exact ⟨_, _, h⟩
    obtain ⟨B, d, rfl⟩ := hv
    have hnil : l = [] := List.eq_nil_of_length_eq_zero HN.out
    clear hc hh
    go_wp2_with fail
    go_loopw [12] (fun i wr => i = .int .i64 0 ∧ Below w.heap.size w wr) (fun _ _ => 0)
    case atStart => exact ⟨rfl, hb1⟩
    case round =>
      obtain ⟨rfl, hb⟩ := hrel
      go_wp2_with fail
      go_ret
      exact ⟨B, d, rfl, by rw [hnil]; exact NwF.nil _ _ _, hb⟩
  · have hv : ∃ g d, v' = .slice (some ⟨g, 0, none⟩) n d := by
      rcases hown.2 with ⟨-, h⟩ | ⟨g, cap, cur, h, -⟩
      · exact absurd h h0
      · exact ⟨_, _, h⟩
    obtain ⟨g, d, rfl⟩ := hv
    have hg := hown.lt g rfl
    have HE : Hid (FL (Rf w g w1 0) l xs) := Lib.hid fun j hj => by
      obtain ⟨A', c', h1, h2⟩ := hE j hj
      exact ⟨A', c', h1, by unfold Rf; rw [if_neg (by omega)]; exact h2⟩
    clear hE
    go_wp2_with fail
    go_loopw [12] (fun i wr => ∃ (k : Nat) (ys : List Value), k ≤ n ∧ i = .int .i64 (k : Int) ∧ Hid (FL (Rf w g wr k) l ys) ∧ ys.length = n * 7 ∧ wr.ownsRow w.heap.size 61 7 (.slice (some ⟨g, 0, none⟩) n d) n ys ∧ Below w.heap.size w wr) (fun i _ => n - (intOf i).toNat)
    case atStart => exact ⟨0, xs, by omega, rfl, HE, hxl, hown, hb1⟩
    case round =>
      clear HE hown hb1 hxl
      obtain ⟨k, ys, hk, rfl, HE, hyl, hown, hb⟩ := hrel
      by_cases hlt : k < n
      · have hkl : k < l.length := by rw [HN.out]; exact hlt
        obtain ⟨A3, c3, hE1, hP⟩ := HE.out k hkl
        have hP : Rw TyA 4 w (l[k]'hkl).type.elem A3 := by unfold Rf at hP; rw [if_neg (by omega)] at hP; exact hP
        have e0 : wr.cell? ⟨g, k * 7, none⟩ = _ := (hown.cellAt (k * 7) (by omega)).trans hE1.e0
        have e1 : wr.cell? ⟨g, k * 7 + 1, none⟩ = _ := (hown.cellAt (k * 7 + 1) (by omega)).trans hE1.e1
        have e2 : wr.cell? ⟨g, k * 7 + 2, none⟩ = _ := (hown.cellAt (k * 7 + 2) (by omega)).trans hE1.e2
        have e3 : wr.cell? ⟨g, k * 7 + 3, none⟩ = _ := (hown.cellAt (k * 7 + 3) (by omega)).trans hE1.e3
        have e4 : wr.cell? ⟨g, k * 7 + 4, none⟩ = _ := (hown.cellAt (k * 7 + 4) (by omega)).trans hE1.e4
        have e5 : wr.cell? ⟨g, k * 7 + 5, none⟩ = _ := (hown.cellAt (k * 7 + 5) (by omega)).trans hE1.e5
        have e6 : wr.cell? ⟨g, k * 7 + 6, none⟩ = _ := (hown.cellAt (k * 7 + 6) (by omega)).trans hE1.e6
        have hgl := (hown.lt g rfl).2
        have hstep := fun W A9 c9 (hE9 : FL (Rf w g W k) l ys) => Rf.step (c := c9) (A := A9) hE9 hyl HN.out hkl
        have HS := Lib.hid hstep
        have cN := hc k hkl
        generalize l[k]'hkl = t at *
        have hW1 := ab1 wr (Obj.cells #[.int .i64 t.num, .string (bs t.name), .int .i64 t.type.kind, .int .i64 t.type.size, .string (bs t.type.name), .slice A3 t.type.elem.length c3, .bool t.opt] 61)
        have cN2 := cN _ (wr.alloc (Obj.cells #[.int .i64 t.num, .string (bs t.name), .int .i64 t.type.kind, .int .i64 t.type.size, .string (bs t.type.name), .slice A3 t.type.elem.length c3, .bool t.opt] 61)) ⟨A3, c3, rfl, hP.next (fun x p => TyA.next (Below.next hb hW1) x p)⟩
        have hz : wr.heap.size ≤ (wr.alloc (Obj.cells #[.int .i64 t.num, .string (bs t.name), .int .i64 t.type.kind, .int .i64 t.type.size, .string (bs t.type.name), .slice A3 t.type.elem.length c3, .bool t.opt] 61)).heap.size := hW1.size
        clear hstep cN hE1 hP hkl
        go_wp2_with fail
        refine cN2.mono ?_
        rintro e w3 ⟨A9, c9, rfl, hN9, hb9⟩
        have hb3 := Below.next hW1 hb9
        have hb4 := Below.next hb hb3
        have hown3 := hown.kept (gbq_of hb3 none) (.inr (by simp [Value.ownBlock]))
        have f0 := hown3.frozenAt (k * 7)
        have f1 := hown3.frozenAt (k * 7 + 1)
        have f2 := hown3.frozenAt (k * 7 + 2)
        have f3 := hown3.frozenAt (k * 7 + 3)
        have f4 := hown3.frozenAt (k * 7 + 4)
        have f5 := hown3.frozenAt (k * 7 + 5)
        have f6 := hown3.frozenAt (k * 7 + 6)
        replace e0 := cell_next hb3 e0
        replace e1 := cell_next hb3 e1
        replace e2 := cell_next hb3 e2
        replace e3 := cell_next hb3 e3
        replace e4 := cell_next hb3 e4
        replace e5 := cell_next hb3 e5
        replace e6 := cell_next hb3 e6
        obtain ⟨hst, hgr⟩ := stored7 hown3 k (.int .i64 t.num) (.string (bs t.name)) (.int .i64 t.type.kind) (.int .i64 t.type.size) (.string (bs t.type.name)) (.slice A9 t.type.elem.length c9) (.bool t.opt)
        have hE3 := Rf.next HE.out (Kpl.of (lo := g + 1) hb3)
        have hN3 : NwR (g + 1) w3 t.type.elem A9 := hN9.low (Nat.le_trans (Nat.succ_le_of_lt hgl) hz)
        have hE4 := Lib.hid (HS.out _ A9 c9 (Rf.next hE3 (Kpl.gb hgr (Nat.lt_succ_self _))) (hN3.next (Kpl.gb hgr (Nat.lt_succ_self _))))
        have hb5 := hb4.grown hgr hb4.size (fun j hj => by cases hj; exact (hown.lt g rfl).1)
        clear cN2 hW1 hb3 hb9 hb hown hE3
        go_wp2_with fail
        go_roundw
        case rel => exact ⟨k + 1, _, by omega, by go_num, hE4, by rw [set7_len]; exact hyl, hst, hb5⟩
        case measure => simp [intOf]; omega
      · obtain rfl : k = n := by omega
        have hF := NwF.row HN.out hown (fun j hj => by
          obtain ⟨A', c', h1, h2⟩ := HE.out j hj
          unfold Rf at h2
          rw [if_pos (by rw [← HN.out]; exact hj)] at h2
          exact ⟨A', c', h1, h2⟩)
        clear hc HE
        go_wp2_with fail
        go_ret
        exact ⟨_, _, rfl, hF, hb⟩
set_option maxRecDepth 100000 in
set_option maxHeartbeats 4000000 in
theorem newField_any (t : Fd) (v : Value) (w : World) (hf : fewT t.type = true) (hv : FdV w t v) :
    Calls Tryz.prog 116 #[v] w (FtP t w) := by
  obtain ⟨A, c, rfl, hR⟩ := hv
  have z1 : (w.alloc (Obj.cells #[.int .i64 t.num, .string (bs t.name), .int .i64 t.type.kind, .int .i64 t.type.size, .string (bs t.type.name), .slice A t.type.elem.length c, .bool t.opt] 61)).heap.size = w.heap.size + 1 := by simp
  have hab := ab2 w (Obj.cells #[.int .i64 t.num, .string (bs t.name), .int .i64 t.type.kind, .int .i64 t.type.size, .string (bs t.type.name), .slice A t.type.elem.length c, .bool t.opt] 61) (Obj.cells #[.int .i64 0, .string ⟨#[]⟩, .int .i64 0, .int .i64 0, .string ⟨#[]⟩, .slice none 0 0, .bool false] 61)
  have B1 := (Bx.new7 w 61 (.int .i64 t.num) (.string (bs t.name)) (.int .i64 t.type.kind) (.int .i64 t.type.size) (.string (bs t.type.name)) (.slice A t.type.elem.length c) (.bool t.opt)).next (ab1 _ (Obj.cells #[.int .i64 0, .string ⟨#[]⟩, .int .i64 0, .int .i64 0, .string ⟨#[]⟩, .slice none 0 0, .bool false] 61))
  have B2 := Bx.new7 (w.alloc (Obj.cells #[.int .i64 t.num, .string (bs t.name), .int .i64 t.type.kind, .int .i64 t.type.size, .string (bs t.type.name), .slice A t.type.elem.length c, .bool t.opt] 61)) 61 (.int .i64 0) (.string ⟨#[]⟩) (.int .i64 0) (.int .i64 0) (.string ⟨#[]⟩) (.slice none 0 0) (.bool false)
  rw [z1] at B2
  have cE := newType_any (SizeOf.sizeOf t.type + 1) t.type _ _ (Nat.lt_succ_self _) hf ⟨A, c, rfl, hR.next fun x p => TyA.next hab x p⟩
  have hz : w.heap.size + 1 + 1 ≤ ((w.alloc (Obj.cells #[.int .i64 t.num, .string (bs t.name), .int .i64 t.type.kind, .int .i64 t.type.size, .string (bs t.type.name), .slice A t.type.elem.length c, .bool t.opt] 61)).alloc (Obj.cells #[.int .i64 0, .string ⟨#[]⟩, .int .i64 0, .int .i64 0, .string ⟨#[]⟩, .slice none 0 0, .bool false] 61)).heap.size := by simp
  unfold FtP
  unfold NtP at cE
  clear hf hR z1
  generalize t.type.elem = e at *
  go_enter Tryz.func116, Tryz.ntmps116
  go_wp2_with fail
  refine cE.mono ?_
  rintro e3 w3 ⟨A9, c9, rfl, hN9, hb9⟩
  have hb3 := Below.next hab hb9
  have C1 := B1.next hb9
  have C2 := B2.next hb9
  have p0 := C1.c 0 rfl
  have p1 := C1.c 1 rfl
  have p2 := C1.c 2 rfl
  have p3 := C1.c 3 rfl
  have p4 := C1.c 4 rfl
  have p5 := C1.c 5 rfl
  have p6 := C1.c 6 rfl
  have q2 := C1.f 2 rfl
  have q3 := C1.f 3 rfl
  have q4 := C1.f 4 rfl
  have q5 := C1.f 5 rfl
  have r0 := C2.c 0 rfl
  have s0 := C2.f 0 rfl
  have r1 := C2.c 1 rfl
  have s1 := C2.f 1 rfl
  have r2 := C2.c 2 rfl
  have s2 := C2.f 2 rfl
  have r3 := C2.c 3 rfl
  have s3 := C2.f 3 rfl
  have r4 := C2.c 4 rfl
  have s4 := C2.f 4 rfl
  have r5 := C2.c 5 rfl
  have s5 := C2.f 5 rfl
  have r6 := C2.c 6 rfl
  have s6 := C2.f 6 rfl
  have l1 := C1.lt
  have l2 := C2.lt
  clear cE
  go_wp2_with fail
  refine bodyPost_ret (v := .agg #[.int .i64 t.num, .string (bs t.name), .int .i64 t.type.kind, .int .i64 t.type.size, .string (bs t.type.name), .slice A9 e.length c9, .bool t.opt]) (by simp [results, Tryz.results116, go_sem, r0, r1, r2, r3, r4, r5, r6]) rfl ⟨A9, c9, rfl, ?_, ?_⟩
  · refine (hN9.next ?_).low hab.size
    iterate 11 refine Kpl.set ?_ (by first | (show w.heap.size < _; omega) | (show w.heap.size + 1 < _; omega)) _
    exact Kpl.of (Below.refl _ _)
  · iterate 11 refine Below.setCell ?_ (by simp) _
    exact hb3
end Go.Proofs.YtcilkcnddgacgaaGreatDoor


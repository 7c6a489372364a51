import Derived.Test.YtlebppjldoodgaaYf
import Derived.Test.YtlebppjldoodgaaUx
/-
  The developers' renew: a value in new memory. No conditions beyond those that each names.
-/
namespace Go.Proofs.Ytlebppjldoodgaa
open Go.RowKit Go.Shelf
/-- From block lo on, but for block g, what was there is as it was. -/
structure Kpx (lo : Nat) (g : Option Nat) (w w' : World) : Prop where
  size : w.heap.size ≤ w'.heap.size
  blk : ∀ i, lo ≤ i → i < w.heap.size → some i ≠ g → w'.heap[i]? = w.heap[i]?
theorem Kpx.of {lo : Nat} {g : Option Nat} {w w' : World} (h : Kpl lo w w') : Kpx lo g w w' := ⟨h.size, fun i h1 h2 _ => h.blk i h1 h2⟩
theorem Kpx.kpl {lo hi : Nat} {g : Option Nat} {w w' : World} (h : Kpx lo g w w') (hl : lo ≤ hi) (hg : ∀ b, g = some b → b < hi) : Kpl hi w w' := ⟨h.size, fun i h1 h2 => h.blk i (by omega) h2 (fun e => by have := hg i e.symm; omega)⟩
theorem Kpx.trans {lo : Nat} {g : Option Nat} {w w1 w2 : World} (h : Kpx lo g w w1) (k : Kpx lo g w1 w2) : Kpx lo g w w2 := ⟨Nat.le_trans h.size k.size, fun i h1 h2 h3 => (k.blk i h1 (Nat.lt_of_lt_of_le h2 h.size) h3).trans (h.blk i h1 h2 h3)⟩
theorem Kpx.gb {lo : Nat} {g : Option Nat} {w w' : World} (h : w.grownBy w' g) : Kpx lo g w w' := ⟨h.size, fun i _ h2 h3 => h.block i h2 h3⟩
/-- A value in new memory, its entries in a row of the call's own. -/
def ReS (t : Vl) (w : World) (e : Ending) (w' : World) : Prop := ∃ (hi : Nat) (A : Option Addr) (c : Nat) (B : Option Addr) (d : Nat) (xs : List Value), e = .returned (.agg #[.int .i64 t.kind, .int .i64 t.n, .string (bs t.s), .slice A t.l.length c, .slice B t.f.length d]) ∧ w.heap.size ≤ hi ∧
  (∀ w2, Kpx w.heap.size (Value.slice B t.f.length d).ownBlock w' w2 → Rw VlA 5 w2 t.l A) ∧ (∀ g, (Value.slice B t.f.length d).ownBlock = some g → g < hi) ∧ IL 6 encE (fun _ x s => NwV hi w' x.2 s) t.f xs ∧ w'.ownsRow w.heap.size 72 6 (.slice B t.f.length d) t.f.length xs ∧ Below w.heap.size w w'
def ReW (t : Vl) (w : World) (e : Ending) (w' : World) : Prop := ∃ s, e = .returned (.agg #[.int .i64 t.kind, .int .i64 t.n, .string (bs t.s), .slice s.A t.l.length s.c, .slice s.B t.f.length s.d]) ∧ NwV w.heap.size w' t s ∧ Below w.heap.size w w'
theorem own_form {w : World} {base : Nat} {e : TypeId} {z n : Nat} {v : Value} {xs : List Value} (h : w.ownsRow base e z v n xs) : ∃ B d, v = .slice B n d := by
  rcases h.2 with ⟨rfl, rfl⟩ | ⟨g, cap, cur, rfl, -⟩
  · exact ⟨_, _, rfl⟩
  · exact ⟨_, _, rfl⟩
theorem own_some {w : World} {base : Nat} {e : TypeId} {z n d : Nat} {B : Option Addr} {xs : List Value} (h : w.ownsRow base e z (.slice B n d) n xs) (hn : n ≠ 0) : ∃ g, B = some ⟨g, 0, none⟩ := by
  rcases h.2 with ⟨-, h⟩ | ⟨g, cap, cur, h, -⟩
  · exact absurd h hn
  · injection h with h; exact ⟨g, h⟩
theorem ReS.weak {t : Vl} {w w' : World} {e : Ending} (h : ReS t w e w') : ReW t w e w' := by
  obtain ⟨hi, A, c, B, d, xs, e1, h1, h2, h3, h4, h5, h6⟩ := h
  refine ⟨⟨A, c, B, d⟩, e1, fun w2 k => ⟨h2 w2 (Kpx.of k), ?_⟩, h6⟩
  by_cases h0 : t.f.length = 0
  · exact .inl (List.eq_nil_of_length_eq_zero h0)
  · obtain ⟨g, rfl⟩ := own_some h5 h0
    have hg := h5.lt g rfl
    exact rowE_of h5 (k.blk g hg.1 hg.2) rfl (h4.mono fun j hj s hs => hs w2 (k.mono h1))
def FCV (l : List Vl) (n : Nat) (w W0 : World) : Fact := ⟨fun v w' => ∃ xs, IL 5 encV (fun _ t s => RdV w t s) l xs ∧ w'.ownsRow W0.heap.size 25 5 v n xs ∧ Below W0.heap.size W0 w', fun _ _ _ ⟨xs, h1, h2, h3⟩ hb => ⟨xs, h1, own_next h2 hb, upG h3 hb⟩⟩
def FCE (l : List (Int × Vl)) (n : Nat) (w W0 : World) : Fact := ⟨fun v w' => ∃ xs, IL 6 encE (fun _ t s => RdV w t.2 s) l xs ∧ w'.ownsRow W0.heap.size 72 6 v n xs ∧ Below W0.heap.size W0 w', fun _ _ _ ⟨xs, h1, h2, h3⟩ hb => ⟨xs, h1, own_next h2 hb, upG h3 hb⟩⟩
theorem own_neq {w : World} {base base' n n' z z' : Nat} {e e' : TypeId} {v v' : Value} {xs xs' : List Value} (h : w.ownsRow base e z v n xs) (h' : w.ownsRow base' e' z' v' n' xs') (he : e ≠ e') : ∀ g, v.ownBlock = some g → v'.ownBlock ≠ some g := by
  intro g h1 h2
  rcases h.2 with ⟨rfl, -⟩ | ⟨k, cap, cur, rfl, -, h3, -⟩
  · cases h1
  rcases h'.2 with ⟨rfl, -⟩ | ⟨k', cap', cur', rfl, -, h3', -⟩
  · cases h2
  have e1 : k = g := by injection h1
  have e2 : k' = g := by injection h2
  subst e1 e2
  rw [h3] at h3'
  injection h3' with h3'
  injection h3' with _ h3'
  exact he h3'
theorem Bx.gb {w w' : World} {b g : Nat} {vs : List Value} (h : Bx w b vs) (hg : w.grownBy w' (some g)) (hne : b ≠ g) : Bx w' b vs := by
  have hk := hg.block b h.lt (fun e => hne (by injection e))
  exact ⟨Nat.lt_of_lt_of_le h.lt hg.size, fun j v e => ⟨(World.cell?_of_block (w := w) (a := ⟨b, j, none⟩) hk).trans (h.at_ j v e).1, (World.frozen?_of_block (w := w) (a := ⟨b, j, none⟩) hk).trans (h.at_ j v e).2⟩⟩
def FNw (t : Vl) (W0 : World) : Fact := ⟨fun v w' => ∃ s : Sb, v = .agg #[.int .i64 t.kind, .int .i64 t.n, .string (bs t.s), .slice s.A t.l.length s.c, .slice s.B t.f.length s.d] ∧ NwV W0.heap.size w' t s ∧ Below W0.heap.size W0 w', fun _ _ _ ⟨s, h1, h2, h3⟩ hb => ⟨s, h1, h2.next (Kpl.of hb), upG h3 hb⟩⟩
/-- The elements before number k are renewed. -/
def RnV (w0 : World) (hi : Nat) (w : World) (k : Nat) (j : Nat) (t : Vl) (s : Sb) : Prop := if j < k then NwV hi w t s else RdV w0 t s
theorem RnV.next {w0 : World} {hi k j : Nat} {w w' : World} {t : Vl} {s : Sb} (h : RnV w0 hi w k j t s) (hk : Kpl hi w w') : RnV w0 hi w' k j t s := by
  unfold RnV at h ⊢
  split
  · rename_i e; rw [if_pos e] at h; exact h.next hk
  · rename_i e; rw [if_neg e] at h; exact h
theorem RnV.step {w0 : World} {hi k j : Nat} {w : World} {t : Vl} {s : Sb} (h : RnV w0 hi w k j t s) (hj : j ≠ k) : RnV w0 hi w (k + 1) j t s := by
  unfold RnV at h ⊢
  by_cases e : j < k
  · rw [if_pos e] at h; rw [if_pos (by omega)]; exact h
  · rw [if_neg e] at h; rw [if_neg (by omega)]; exact h
theorem putAt_one {xs : List Value} {p : Nat} {v : Value} (vs : List Value) (h : xs[p]? = some v) : putAt xs p (v :: vs) = putAt xs (p + 1) vs := by
  have hp : p < xs.length := (List.getElem?_eq_some_iff.1 h).1
  have : xs.set p v = xs := by
    apply List.ext_getElem?
    intro i
    by_cases e : i = p
    · subst e; rw [List.getElem?_set_self hp, h]
    · rw [List.getElem?_set_ne (by omega)]
  rw [putAt, this]
set_option maxRecDepth 100000 in
set_option maxHeartbeats 8000000 in
theorem renew_any (N : Nat) : ∀ (t : Vl) (v : Value) (w : World), SizeOf.sizeOf t < N → sz t ≤ 2000000 → VlV w t v →
    Calls Try.prog 40 #[v] w (ReS t w) := by
  induction N with
  | zero => intro t v w h; omega
  | succ N ih =>
    intro t v w hN hz hv
    have cL : ∀ (i : Nat) (h : i < t.l.length) v w, VlV w (t.l[i]'h) v → Calls Try.prog 40 #[v] w (ReW (t.l[i]'h) w) := fun i h v w hv => (ih _ v w (by have := size_l h; omega) (by have := sz_l h; omega) hv).mono fun _ _ => ReS.weak
    have cF : ∀ (i : Nat) (h : i < t.f.length) v w, VlV w (t.f[i]'h).2 v → Calls Try.prog 40 #[v] w (ReW (t.f[i]'h).2 w) := fun i h v w hv => (ih _ v w (by have := size_f h; omega) (by have := sz_f h; omega) hv).mono fun _ _ => ReS.weak
    have hml : t.l.length ≤ 2000000 := by have := sz_ll t; omega
    have hnl : t.f.length ≤ 2000000 := by have := sz_fl t; omega
    obtain ⟨A, c, B, d, rfl, hR, hR2⟩ := hv
    have cV := fun W (h : Below w.heap.size w W) => (cloneV_any t.l A c w W h (by omega) hR)
    have cE := fun W (h : Below w.heap.size w W) => (cloneE_any t.f B d w W h (by omega) hR2)
    unfold ReS
    obtain ⟨m, hm⟩ : ∃ m, t.l.length = m := ⟨_, rfl⟩
    obtain ⟨n, hn⟩ : ∃ n, t.f.length = n := ⟨_, rfl⟩
    rw [hm, hn]
    rw [hm] at cV hml
    rw [hn] at cE hnl
    have HM := Lib.hid hm
    have HN := Lib.hid hn
    have z1 : (w.alloc (Obj.cells #[.int .i64 t.kind, .int .i64 t.n, .string (bs t.s), .slice A m c, .slice B n d] 25)).heap.size = w.heap.size + 1 := by simp
    have z2 : ((w.alloc (Obj.cells #[.int .i64 t.kind, .int .i64 t.n, .string (bs t.s), .slice A m c, .slice B n d] 25)).alloc (Obj.cells #[.int .i64 0, .int .i64 0, .string ⟨#[]⟩, .slice none 0 0, .slice none 0 0] 25)).heap.size = w.heap.size + 1 + 1 := by simp
    have hab := ab2 w (Obj.cells #[.int .i64 t.kind, .int .i64 t.n, .string (bs t.s), .slice A m c, .slice B n d] 25) (Obj.cells #[.int .i64 0, .int .i64 0, .string ⟨#[]⟩, .slice none 0 0, .slice none 0 0] 25)
    have C1 := (Bx.new5 w 25 (.int .i64 t.kind) (.int .i64 t.n) (.string (bs t.s)) (.slice A m c) (.slice B n d)).next (ab1 _ (Obj.cells #[.int .i64 0, .int .i64 0, .string ⟨#[]⟩, .slice none 0 0, .slice none 0 0] 25))
    have C2 := Bx.new5 (w.alloc (Obj.cells #[.int .i64 t.kind, .int .i64 t.n, .string (bs t.s), .slice A m c, .slice B n d] 25)) 25 (.int .i64 0) (.int .i64 0) (.string ⟨#[]⟩) (.slice none 0 0) (.slice none 0 0)
    rw [z1] at C2
    have s3 := C1.c 3 rfl
    have s4 := C1.c 4 rfl
    clear hm hn hR hR2 ih hN hz z1
    replace cV := fun W h => cV W (Below.next hab h)
    replace cE := fun W h => cE W (Below.next hab h)
    go_enter Try.func40, Try.ntmps40
    go_upto_region 1 with (fail)
    generalize (w.alloc (Obj.cells #[.int .i64 t.kind, .int .i64 t.n, .string (bs t.s), .slice A m c, .slice B n d] 25)).alloc (Obj.cells #[.int .i64 0, .int .i64 0, .string ⟨#[]⟩, .slice none 0 0, .slice none 0 0] 25) = W1 at *
    refine wp_region_seqN (by kernel_rfl) (FF [(1, Fact.at_ W1 (.pointer (some ⟨w.heap.size, 0, none⟩))), (7, Fact.at_ W1 (.pointer (some ⟨w.heap.size, 3, none⟩))), (8, Fact.at_ W1 (.slice A m c)), (9, FCV t.l m w W1), (10, Fact.at_ W1 (.pointer (some ⟨w.heap.size, 4, none⟩))), (11, Fact.at_ W1 (.slice B n d)), (12, FCE t.f n w W1), (13, Fact.at_ W1 (.pointer (some ⟨w.heap.size, 3, none⟩)))]) [1] [] 48 7 [7, 8, 9, 10, 11, 12, 13] rfl (by kernel_rfl) (by kernel_rfl) (by decide) (by kernel_rfl) (by kernel_rfl) ?_ ?_ ?_
    · intro t9 ht9
      simp only [List.mem_cons, List.not_mem_nil, or_false] at ht9
      rcases ht9 with rfl
      · exact ⟨rfl, Below.refl _ _⟩
    · refine fcs ⟨Ob.new_ (at1 1 7 (.pointer (some ⟨w.heap.size, 0, none⟩)) (.pointer (some ⟨w.heap.size, 3, none⟩)) rfl (by first | exact .inl rfl | exact .inr ⟨_, _, _, rfl, rfl, by kernel_rfl, by decide, rfl⟩) (by kernel_rfl) rfl rfl (fun a9 W9 hb9 h9 => by simp [execOp, h9] <;> go_simp)) (by kernel_rfl), ?_⟩
      refine fcs ⟨Ob.new_ (at1 7 8 (.pointer (some ⟨w.heap.size, 3, none⟩)) (.slice A m c) rfl (by first | exact .inl rfl | exact .inr ⟨_, _, _, rfl, rfl, by kernel_rfl, by decide, rfl⟩) (by kernel_rfl) rfl rfl (fun a9 W9 hb9 h9 => by have g0 := cell_next hb9 s3; simp [execOp, h9] <;> go_simp)) (by kernel_rfl), ?_⟩
      refine fcs ⟨Ob.new_ (at_enter (W0 := W1) (by first | exact .inl rfl | exact .inr ⟨_, _, _, rfl, rfl, by kernel_rfl, by decide, rfl⟩) (fun a9 W9 hf9 => by have p8 := hf9 8 (by kernel_rfl); have q8 : a9.tmps.getD 8 undef = (.slice A m c) := p8.1; have hb9 := p8.2; exact ⟨68, #[(.slice A m c)], by rw [← q8]; simpa [execOp, resolve, Act.eval] using run_invoke (by kernel_rfl) _ W9, (cV W9 hb9).mono fun e w' ⟨xs, h1, v', e1, h2, h3⟩ => ⟨v', e1, h3, fun s hs => by injection hs with hs; subst hs; exact ⟨xs, h1, own_mono h2 hb9.size, upG hb9 h3⟩⟩⟩)) (by kernel_rfl), ?_⟩
      refine fcs ⟨Ob.new_ (at1 1 10 (.pointer (some ⟨w.heap.size, 0, none⟩)) (.pointer (some ⟨w.heap.size, 4, none⟩)) rfl (by first | exact .inl rfl | exact .inr ⟨_, _, _, rfl, rfl, by kernel_rfl, by decide, rfl⟩) (by kernel_rfl) rfl rfl (fun a9 W9 hb9 h9 => by simp [execOp, h9] <;> go_simp)) (by kernel_rfl), ?_⟩
      refine fcs ⟨Ob.new_ (at1 10 11 (.pointer (some ⟨w.heap.size, 4, none⟩)) (.slice B n d) rfl (by first | exact .inl rfl | exact .inr ⟨_, _, _, rfl, rfl, by kernel_rfl, by decide, rfl⟩) (by kernel_rfl) rfl rfl (fun a9 W9 hb9 h9 => by have g0 := cell_next hb9 s4; simp [execOp, h9] <;> go_simp)) (by kernel_rfl), ?_⟩
      refine fcs ⟨Ob.new_ (at_enter (W0 := W1) (by first | exact .inl rfl | exact .inr ⟨_, _, _, rfl, rfl, by kernel_rfl, by decide, rfl⟩) (fun a9 W9 hf9 => by have p11 := hf9 11 (by kernel_rfl); have q11 : a9.tmps.getD 11 undef = (.slice B n d) := p11.1; have hb9 := p11.2; exact ⟨69, #[(.slice B n d)], by rw [← q11]; simpa [execOp, resolve, Act.eval] using run_invoke (by kernel_rfl) _ W9, (cE W9 hb9).mono fun e w' ⟨xs, h1, v', e1, h2, h3⟩ => ⟨v', e1, h3, fun s hs => by injection hs with hs; subst hs; exact ⟨xs, h1, own_mono h2 hb9.size, upG hb9 h3⟩⟩⟩)) (by kernel_rfl), ?_⟩
      refine fcs ⟨Ob.new_ (at1 1 13 (.pointer (some ⟨w.heap.size, 0, none⟩)) (.pointer (some ⟨w.heap.size, 3, none⟩)) rfl (by first | exact .inl rfl | exact .inr ⟨_, _, _, rfl, rfl, by kernel_rfl, by decide, rfl⟩) (by kernel_rfl) rfl rfl (fun a9 W9 hb9 h9 => by simp [execOp, h9] <;> go_simp)) (by kernel_rfl), ?_⟩
      exact fnl
    intro vv wv hvv hbv _ _
    have hv13 : vv 13 = (.pointer (some ⟨w.heap.size, 3, none⟩)) := (hvv 13 (by decide)).1
    simp only [lay, List.foldl_cons, List.foldl_nil, List.setIfInBounds_toArray, List.set_cons_succ, List.set_cons_zero, hv13, List.drop_succ_cons, List.drop_zero]
    obtain ⟨xs, hE, ho, -⟩ := hvv 9 (by decide)
    obtain ⟨ys0, hE', ho', -⟩ := hvv 12 (by decide)
    obtain ⟨AL, dL, hv9⟩ := own_form ho
    obtain ⟨BF, dF, hv12⟩ := own_form ho'
    simp only [hv9, hv12]
    rw [hv9] at ho
    rw [hv12] at ho'
    clear hvv hv13 hv9 hv12 s3 s4 cV cE
    replace hab := Below.next hab hbv
    replace C1 := C1.next hbv
    replace C2 := C2.next hbv
    have hlo : w.heap.size + 1 + 1 ≤ wv.heap.size := by have := hbv.size; omega
    have q3 := C1.c 3 rfl
    have q4 := C1.c 4 rfl
    have f3 := C1.f 3 rfl
    have f4 := C1.f 4 rfl
    have ql := C1.lt
    go_wp2_with fail
    have hgr := ((gb_set1 wv ⟨w.heap.size, 3, none⟩ (.slice AL m dL)).trans (gb_set1 _ ⟨w.heap.size, 4, none⟩ (.slice BF n dF)))
    have D1 := (C1.put1 3 (.slice AL m dL)).put1 4 (.slice BF n dF)
    have D2 := C2.gb hgr (by show w.heap.size + 1 ≠ w.heap.size; omega)
    have hgL := ho.lt
    have hgF := ho'.lt
    have hne := own_neq ho ho' (by decide)
    replace ho := ho.kept hgr (.inr fun e => by have := hgL _ e; show False; simp at this; omega)
    replace ho' := ho'.kept hgr (.inr fun e => by have := hgF _ e; show False; simp at this; omega)
    have hb2 := (hab.setCell (p := ⟨w.heap.size, 3, none⟩) (Nat.le_refl _) (.slice AL m dL)).setCell (p := ⟨w.heap.size, 4, none⟩) (Nat.le_refl _) (.slice BF n dF)
    have hs2 := hgr.size
    have HE : Hid (IL 5 encV (RnV w wv.heap.size ((wv.setCell ⟨w.heap.size, 3, none⟩ (.slice AL m dL)).setCell ⟨w.heap.size, 4, none⟩ (.slice BF n dF)) 0) t.l xs) := Lib.hid (hE.mono fun j _ b h => by unfold RnV; rw [if_neg (by omega)]; exact h)
    have HE' := Lib.hid hE'
    have hgL2 : ∀ g, (Value.slice AL m dL).ownBlock = some g → W1.heap.size ≤ g ∧ g < wv.heap.size := hgL
    have hgF2 : ∀ g, (Value.slice BF n dF).ownBlock = some g → W1.heap.size ≤ g ∧ g < wv.heap.size := hgF
    obtain ⟨hi, hhi⟩ : ∃ hi, wv.heap.size = hi := ⟨_, rfl⟩
    rw [hhi] at HE hs2 hgL2 hgF2 hlo
    clear q3 q4 f3 f4 hE hE' hgL hgF hgr hab C1 C2
    go_loopw [18] (fun i wr => ∃ (k : Nat) (ys : List Value), k ≤ m ∧ i = .int .i64 (k : Int) ∧ Hid (IL 5 encV (RnV w hi wr k) t.l ys) ∧ wr.ownsRow W1.heap.size 25 5 (.slice AL m dL) m ys ∧ wr.ownsRow W1.heap.size 72 6 (.slice BF n dF) n ys0 ∧ Bx wr w.heap.size [.int .i64 t.kind, .int .i64 t.n, .string (bs t.s), .slice AL m dL, .slice BF n dF] ∧ Bx wr (w.heap.size + 1) [.int .i64 0, .int .i64 0, .string ⟨#[]⟩, .slice none 0 0, .slice none 0 0] ∧ hi ≤ wr.heap.size ∧ Below w.heap.size w wr) (fun i _ => m - (intOf i).toNat)
    case atStart => exact ⟨0, xs, by omega, rfl, HE, ho, ho', D1, D2, by rw [← hhi]; simp, hb2⟩
    case round =>
      clear HE ho ho' D1 D2 hb2 hs2 hhi
      obtain ⟨k, ys, hk, rfl, HE, ho, ho', D1, D2, hs2, hb⟩ := hrel
      by_cases hlt : k < m
      · have hkl : k < t.l.length := by rw [HM.out]; exact hlt
        have hk1 := Lib.hid hlt
        obtain ⟨g, rfl⟩ := own_some ho (by omega)
        have hg := hgL2 g rfl
        obtain ⟨s, hc, hp0⟩ := HE.out.2 k hkl
        have hp : RdV w (t.l[k]'hkl) s := by unfold RnV at hp0; rw [if_neg (by omega)] at hp0; exact hp0
        have e0 : wr.cell? ⟨g, k * 5, none⟩ = some (.int .i64 (t.l[k]'hkl).kind) := (ho.cellAt (k * 5) (by omega)).trans (hc 0 (by omega))
        have e1 : wr.cell? ⟨g, k * 5 + 1, none⟩ = some (.int .i64 (t.l[k]'hkl).n) := (ho.cellAt (k * 5 + 1) (by omega)).trans (hc 1 (by omega))
        have e2 : wr.cell? ⟨g, k * 5 + 2, none⟩ = some (.string (bs (t.l[k]'hkl).s)) := (ho.cellAt (k * 5 + 2) (by omega)).trans (hc 2 (by omega))
        have e3 : wr.cell? ⟨g, k * 5 + 3, none⟩ = some (.slice s.A (t.l[k]'hkl).l.length s.c) := (ho.cellAt (k * 5 + 3) (by omega)).trans (hc 3 (by omega))
        have e4 : wr.cell? ⟨g, k * 5 + 4, none⟩ = some (.slice s.B (t.l[k]'hkl).f.length s.d) := (ho.cellAt (k * 5 + 4) (by omega)).trans (hc 4 (by omega))
        have hgl : g < wr.heap.size := by omega
        have HS := Lib.hid (fun (W : World) (s2 : Sb) (h1 : Kpl hi wr W) (h2 : NwV hi W (t.l[k]'hkl) s2) => (HE.out.put (Q := RnV w hi W (k + 1)) hkl (t.l[k]'hkl) s2 rfl (fun j hj b hne hp => (hp.next h1).step hne) (by unfold RnV; rw [if_pos (by omega)]; exact h2)))
        rw [List.set_getElem_self] at HS
        have cN0 := cL k hkl
        generalize t.l[k]'hkl = u at *
        have hbx := ab1 wr (Obj.cells #[.int .i64 u.kind, .int .i64 u.n, .string (bs u.s), .slice s.A u.l.length s.c, .slice s.B u.f.length s.d] 25)
        have Q := Bx.new5 wr 25 (.int .i64 u.kind) (.int .i64 u.n) (.string (bs u.s)) (.slice s.A u.l.length s.c) (.slice s.B u.f.length s.d)
        have E1 := D1.next hbx
        have r3 := E1.c 3 rfl
        have c3 := D1.c 3 rfl
        have q0 := Q.c 0 rfl
        have q1 := Q.c 1 rfl
        have q2 := Q.c 2 rfl
        have q3 := Q.c 3 rfl
        have q4 := Q.c 4 rfl
        have hsz : (wr.alloc (Obj.cells #[.int .i64 u.kind, .int .i64 u.n, .string (bs u.s), .slice s.A u.l.length s.c, .slice s.B u.f.length s.d] 25)).heap.size = wr.heap.size + 1 := by simp
        have cN := fun W (h : Below (wr.alloc (Obj.cells #[.int .i64 u.kind, .int .i64 u.n, .string (bs u.s), .slice s.A u.l.length s.c, .slice s.B u.f.length s.d] 25)).heap.size (wr.alloc (Obj.cells #[.int .i64 u.kind, .int .i64 u.n, .string (bs u.s), .slice s.A u.l.length s.c, .slice s.B u.f.length s.d] 25)) W) => cN0 _ W ⟨s.A, s.c, s.B, s.d, rfl, hp.next (Below.next hb (Below.next hbx h))⟩
        obtain ⟨bx, hbxe⟩ : ∃ bx, wr.heap.size = bx := ⟨_, rfl⟩
        clear cN0 hc hp hp0 HE E1 Q
        go_upto_region 5 with (fail)
        generalize wr.alloc (Obj.cells #[.int .i64 u.kind, .int .i64 u.n, .string (bs u.s), .slice s.A u.l.length s.c, .slice s.B u.f.length s.d] 25) = W5 at *
        rw [hbxe] at q0 q1 q2 q3 q4 hsz hgl hs2
        refine wp_region_seqN (by kernel_rfl) (FF [(1, Fact.at_ W5 (.pointer (some ⟨w.heap.size, 0, none⟩))), (3, Fact.at_ W5 (.int .i64 (k : Int))), (4, Fact.at_ W5 (.pointer (some ⟨bx, 0, none⟩))), (23, Fact.at_ W5 (.pointer (some ⟨w.heap.size, 3, none⟩))), (24, Fact.at_ W5 (.slice (some ⟨g, 0, none⟩) m dL)), (25, Fact.at_ W5 (.int .i64 (k : Int))), (26, Fact.at_ W5 (.agg #[.int .i64 u.kind, .int .i64 u.n, .string (bs u.s), .slice s.A u.l.length s.c, .slice s.B u.f.length s.d])), (27, FNw u W5), (28, Fact.at_ W5 (.pointer (some ⟨g, k * 5, none⟩)))]) [1, 3, 4] [] 48 6 [23, 24, 25, 26, 27, 28] rfl (by kernel_rfl) (by kernel_rfl) (by decide) (by kernel_rfl) (by kernel_rfl) ?_ ?_ ?_
        · intro t9 ht9
          simp only [List.mem_cons, List.not_mem_nil, or_false] at ht9
          rcases ht9 with rfl | rfl | rfl
          · exact ⟨rfl, Below.refl _ _⟩
          · exact ⟨rfl, Below.refl _ _⟩
          · exact ⟨rfl, Below.refl _ _⟩
        · refine fcs ⟨Ob.new_ (at1 1 23 (.pointer (some ⟨w.heap.size, 0, none⟩)) (.pointer (some ⟨w.heap.size, 3, none⟩)) rfl (by first | exact .inl rfl | exact .inr ⟨_, _, _, rfl, rfl, by kernel_rfl, by decide, rfl⟩) (by kernel_rfl) rfl rfl (fun a9 W9 hb9 h9 => by simp [execOp, h9] <;> go_simp)) (by kernel_rfl), ?_⟩
          refine fcs ⟨Ob.new_ (at1 23 24 (.pointer (some ⟨w.heap.size, 3, none⟩)) (.slice (some ⟨g, 0, none⟩) m dL) rfl (by first | exact .inl rfl | exact .inr ⟨_, _, _, rfl, rfl, by kernel_rfl, by decide, rfl⟩) (by kernel_rfl) rfl rfl (fun a9 W9 hb9 h9 => by have g0 := cell_next hb9 r3; simp [execOp, h9] <;> go_simp)) (by kernel_rfl), ?_⟩
          refine fcs ⟨Ob.new_ (atcopy 3 25 (.int .i64 (k : Int)) (.inl rfl) rfl (by first | exact .inl rfl | exact .inr ⟨_, _, _, rfl, rfl, by kernel_rfl, by decide, rfl⟩) (by kernel_rfl) rfl rfl) (by kernel_rfl), ?_⟩
          refine fcs ⟨Ob.new_ (at1 4 26 (.pointer (some ⟨bx, 0, none⟩)) (.agg #[.int .i64 u.kind, .int .i64 u.n, .string (bs u.s), .slice s.A u.l.length s.c, .slice s.B u.f.length s.d]) rfl (by first | exact .inl rfl | exact .inr ⟨_, _, _, rfl, rfl, by kernel_rfl, by decide, rfl⟩) (by kernel_rfl) rfl rfl (fun a9 W9 hb9 h9 => by have g0 := cell_next hb9 q0; have g1 := cell_next hb9 q1; have g2 := cell_next hb9 q2; have g3 := cell_next hb9 q3; have g4 := cell_next hb9 q4; simp [execOp, h9] <;> go_simp)) (by kernel_rfl), ?_⟩
          refine fcs ⟨Ob.new_ (at_enter (W0 := W5) (by first | exact .inl rfl | exact .inr ⟨_, _, _, rfl, rfl, by kernel_rfl, by decide, rfl⟩) (fun a9 W9 hf9 => by have p26 := hf9 26 (by kernel_rfl); have q26 : a9.tmps.getD 26 undef = (.agg #[.int .i64 u.kind, .int .i64 u.n, .string (bs u.s), .slice s.A u.l.length s.c, .slice s.B u.f.length s.d]) := p26.1; have hb9 := p26.2; exact ⟨40, #[(.agg #[.int .i64 u.kind, .int .i64 u.n, .string (bs u.s), .slice s.A u.l.length s.c, .slice s.B u.f.length s.d])], by rw [← q26]; simpa [execOp, resolve, Act.eval] using run_invoke (by kernel_rfl) _ W9, (cN W9 hb9).mono fun e w' ⟨s2, e1, h1, h2⟩ => ⟨_, e1, h2, fun s hs => by injection hs with hs; subst hs; exact ⟨s2, rfl, h1.low hb9.size, upG hb9 h2⟩⟩⟩)) (by kernel_rfl), ?_⟩
          refine fcs ⟨Ob.new_ (at2 24 25 28 (.slice (some ⟨g, 0, none⟩) m dL) (.int .i64 (k : Int)) (.pointer (some ⟨g, k * 5, none⟩)) rfl (by first | exact .inl rfl | exact .inr ⟨_, _, _, rfl, rfl, by kernel_rfl, by decide, rfl⟩) (by kernel_rfl) (by kernel_rfl) rfl rfl rfl (fun a9 W9 hb9 h9 h8 => by simp [execOp, h9, h8] <;> go_simp)) (by kernel_rfl), ?_⟩
          exact fnl
        intro vv wv hvv hbv _ _
        have hv28 : vv 28 = (.pointer (some ⟨g, k * 5, none⟩)) := (hvv 28 (by decide)).1
        simp only [lay, List.foldl_cons, List.foldl_nil, List.setIfInBounds_toArray, List.set_cons_succ, List.set_cons_zero, hv28, List.drop_succ_cons, List.drop_zero]
        obtain ⟨s2, hv27, hN2, -⟩ := hvv 27 (by decide)
        simp only [hv27]
        clear hvv hv28 hv27 q0 q1 q2 q3 q4 r3 cN
        have hb3 := Below.next hbx hbv
        have ho3 := own_next ho hb3
        have f0 := ho3.frozenAt (k * 5)
        have f1 := ho3.frozenAt (k * 5 + 1)
        have f2 := ho3.frozenAt (k * 5 + 2)
        have f3 := ho3.frozenAt (k * 5 + 3)
        have f4 := ho3.frozenAt (k * 5 + 4)
        replace e0 := cell_next hb3 e0
        replace e1 := cell_next hb3 e1
        replace e2 := cell_next hb3 e2
        replace e3 := cell_next hb3 e3
        replace e4 := cell_next hb3 e4
        have hst := storedN (encV u s2) ho3 (k * 5)
        have hst1 : ((((((wv.setCell ⟨g, k * 5, none⟩ (.int .i64 u.kind)).setCell ⟨g, k * 5 + 1, none⟩ (.int .i64 u.n)).setCell ⟨g, k * 5 + 2, none⟩ (.string (bs u.s))).setCell ⟨g, k * 5 + 3, none⟩ (.slice s2.A u.l.length s2.c)).setCell ⟨g, k * 5 + 4, none⟩ (.slice s2.B u.f.length s2.d))).ownsRow W1.heap.size 25 5 (.slice (some ⟨g, 0, none⟩) m dL) m (putAt ys (k * 5) (encV u s2)) := hst.1
        have hgr : wv.grownBy ((((((wv.setCell ⟨g, k * 5, none⟩ (.int .i64 u.kind)).setCell ⟨g, k * 5 + 1, none⟩ (.int .i64 u.n)).setCell ⟨g, k * 5 + 2, none⟩ (.string (bs u.s))).setCell ⟨g, k * 5 + 3, none⟩ (.slice s2.A u.l.length s2.c)).setCell ⟨g, k * 5 + 4, none⟩ (.slice s2.B u.f.length s2.d))) (some g) := hst.2
        have hKp : Kpl hi wr ((((((wv.setCell ⟨g, k * 5, none⟩ (.int .i64 u.kind)).setCell ⟨g, k * 5 + 1, none⟩ (.int .i64 u.n)).setCell ⟨g, k * 5 + 2, none⟩ (.string (bs u.s))).setCell ⟨g, k * 5 + 3, none⟩ (.slice s2.A u.l.length s2.c)).setCell ⟨g, k * 5 + 4, none⟩ (.slice s2.B u.f.length s2.d))) := (Kpl.of hb3).trans (Kpl.gb hgr hg.2)
        have HE2 := Lib.hid (HS.out _ s2 hKp ((hN2.low (by omega)).next (Kpl.gb hgr hg.2)))
        have ho2 := (own_next ho' hb3).kept hgr (.inr (hne g rfl))
        have D3 := (D1.next hb3).gb hgr (by omega)
        have D4 := (D2.next hb3).gb hgr (by omega)
        have hsz2 : hi ≤ ((((((wv.setCell ⟨g, k * 5, none⟩ (.int .i64 u.kind)).setCell ⟨g, k * 5 + 1, none⟩ (.int .i64 u.n)).setCell ⟨g, k * 5 + 2, none⟩ (.string (bs u.s))).setCell ⟨g, k * 5 + 3, none⟩ (.slice s2.A u.l.length s2.c)).setCell ⟨g, k * 5 + 4, none⟩ (.slice s2.B u.f.length s2.d))).heap.size := by have := hb3.size; have := hgr.size; omega
        have hb4 := (Below.next hb hb3).grown hgr (Below.next hb hb3).size (fun j hj => by cases hj; omega)
        clear hst hgr hKp hb3 hb ho ho' HS hN2 hbv D1 D2 hbx c3
        go_wp2_with fail
        go_roundw
        case rel => exact ⟨k + 1, _, hk1.out, by go_num, HE2, hst1, ho2, D3, D4, hsz2, hb4⟩
        case measure => have := hk1.out; simp [intOf]; omega
      · obtain rfl : k = m := by omega
        have HL := Lib.hid (show IL 5 encV (fun _ t s => NwV hi wr t s) t.l ys from HE.out.mono fun j hj b h => by unfold RnV at h; rw [if_pos (by rw [← HM.out]; exact hj)] at h; exact h)
        have c3 := D1.c 3 rfl
        have c4 := D1.c 4 rfl
        have HF : Hid (IL 6 encE (fun j x s => RnV w hi wr 0 j x.2 s) t.f ys0) := Lib.hid (HE'.out.mono fun j _ b h => by unfold RnV; rw [if_neg (by omega)]; exact h)
        clear HE HE' cL hlt
        go_wp2_with fail
        go_loopw [33] (fun i wr => ∃ (j : Nat) (zs : List Value), j ≤ n ∧ i = .int .i64 (j : Int) ∧ Hid (IL 6 encE (fun q x s => RnV w hi wr j q x.2 s) t.f zs) ∧ Hid (IL 5 encV (fun _ t s => NwV hi wr t s) t.l ys) ∧ wr.ownsRow W1.heap.size 25 5 (.slice AL k dL) k ys ∧ wr.ownsRow W1.heap.size 72 6 (.slice BF n dF) n zs ∧ Bx wr w.heap.size [.int .i64 t.kind, .int .i64 t.n, .string (bs t.s), .slice AL k dL, .slice BF n dF] ∧ Bx wr (w.heap.size + 1) [.int .i64 0, .int .i64 0, .string ⟨#[]⟩, .slice none 0 0, .slice none 0 0] ∧ hi ≤ wr.heap.size ∧ Below w.heap.size w wr) (fun i _ => n - (intOf i).toNat)
        case atStart => exact ⟨0, ys0, by omega, rfl, HF, HL, ho, ho', D1, D2, hs2, hb⟩
        case round =>
          clear HF HL ho ho' D1 D2 hs2 hb c3 c4
          obtain ⟨k, zs, hk, rfl, HE, HL, ho', ho, D1, D2, hs2, hb⟩ := hrel
          by_cases hlt : k < n
          · have hkl : k < t.f.length := by rw [HN.out]; exact hlt
            have hk1 := Lib.hid hlt
            obtain ⟨g, rfl⟩ := own_some ho (by omega)
            have hg := hgF2 g rfl
            obtain ⟨s, hc, hp0⟩ := HE.out.2 k hkl
            have hp : RdV w (t.f[k]'hkl).2 s := by unfold RnV at hp0; rw [if_neg (by omega)] at hp0; exact hp0
            have e0 : wr.cell? ⟨g, k * 6, none⟩ = some (.int .i64 (t.f[k]'hkl).1) := (ho.cellAt (k * 6) (by omega)).trans (hc 0 (by omega))
            have e1 : wr.cell? ⟨g, k * 6 + 1, none⟩ = some (.int .i64 (t.f[k]'hkl).2.kind) := (ho.cellAt (k * 6 + 1) (by omega)).trans (hc 1 (by omega))
            have e2 : wr.cell? ⟨g, k * 6 + 2, none⟩ = some (.int .i64 (t.f[k]'hkl).2.n) := (ho.cellAt (k * 6 + 2) (by omega)).trans (hc 2 (by omega))
            have e3 : wr.cell? ⟨g, k * 6 + 3, none⟩ = some (.string (bs (t.f[k]'hkl).2.s)) := (ho.cellAt (k * 6 + 3) (by omega)).trans (hc 3 (by omega))
            have e4 : wr.cell? ⟨g, k * 6 + 4, none⟩ = some (.slice s.A (t.f[k]'hkl).2.l.length s.c) := (ho.cellAt (k * 6 + 4) (by omega)).trans (hc 4 (by omega))
            have e5 : wr.cell? ⟨g, k * 6 + 5, none⟩ = some (.slice s.B (t.f[k]'hkl).2.f.length s.d) := (ho.cellAt (k * 6 + 5) (by omega)).trans (hc 5 (by omega))
            have hgl : g < wr.heap.size := by omega
            have HS := Lib.hid (fun (W : World) (s2 : Sb) (h1 : Kpl hi wr W) (h2 : NwV hi W (t.f[k]'hkl).2 s2) => (HE.out.put (Q := fun q x s => RnV w hi W (k + 1) q x.2 s) hkl (t.f[k]'hkl) s2 rfl (fun j hj b hne hp => (hp.next h1).step hne) (by unfold RnV; rw [if_pos (by omega)]; exact h2)))
            rw [List.set_getElem_self] at HS
            have HC0 := Lib.hid (hc 0 (by omega))
            have cN0 := cF k hkl
            generalize t.f[k]'hkl = xu at *
            obtain ⟨num, u⟩ := xu
            simp only at e0 e1 e2 e3 e4 e5
            have hbx := ab1 wr (Obj.cells #[.int .i64 num, .int .i64 u.kind, .int .i64 u.n, .string (bs u.s), .slice s.A u.l.length s.c, .slice s.B u.f.length s.d] 72)
            have Q := Bx.new6 wr 72 (.int .i64 num) (.int .i64 u.kind) (.int .i64 u.n) (.string (bs u.s)) (.slice s.A u.l.length s.c) (.slice s.B u.f.length s.d)
            have E1 := D1.next hbx
            have r4 := E1.c 4 rfl
            have c3 := D1.c 4 rfl
            have q1 := Q.c 1 rfl
            have q2 := Q.c 2 rfl
            have q3 := Q.c 3 rfl
            have q4 := Q.c 4 rfl
            have q5 := Q.c 5 rfl
            have hsz : (wr.alloc (Obj.cells #[.int .i64 num, .int .i64 u.kind, .int .i64 u.n, .string (bs u.s), .slice s.A u.l.length s.c, .slice s.B u.f.length s.d] 72)).heap.size = wr.heap.size + 1 := by simp
            have cN := fun W (h : Below (wr.alloc (Obj.cells #[.int .i64 num, .int .i64 u.kind, .int .i64 u.n, .string (bs u.s), .slice s.A u.l.length s.c, .slice s.B u.f.length s.d] 72)).heap.size (wr.alloc (Obj.cells #[.int .i64 num, .int .i64 u.kind, .int .i64 u.n, .string (bs u.s), .slice s.A u.l.length s.c, .slice s.B u.f.length s.d] 72)) W) => cN0 _ W ⟨s.A, s.c, s.B, s.d, rfl, RdV.next (Below.next hb (Below.next hbx h)) hp⟩
            obtain ⟨bx, hbxe⟩ : ∃ bx, wr.heap.size = bx := ⟨_, rfl⟩
            clear cN0 hc hp hp0 HE E1 Q
            go_upto_region 10 with (fail)
            generalize wr.alloc (Obj.cells #[.int .i64 num, .int .i64 u.kind, .int .i64 u.n, .string (bs u.s), .slice s.A u.l.length s.c, .slice s.B u.f.length s.d] 72) = W5 at *
            rw [hbxe] at q1 q2 q3 q4 q5 hsz hgl hs2
            refine wp_region_seqN (by kernel_rfl) (FF [(1, Fact.at_ W5 (.pointer (some ⟨w.heap.size, 0, none⟩))), (5, Fact.at_ W5 (.int .i64 (k : Int))), (6, Fact.at_ W5 (.pointer (some ⟨bx, 0, none⟩))), (38, Fact.at_ W5 (.pointer (some ⟨w.heap.size, 4, none⟩))), (39, Fact.at_ W5 (.slice (some ⟨g, 0, none⟩) n dF)), (40, Fact.at_ W5 (.int .i64 (k : Int))), (41, Fact.at_ W5 (.pointer (some ⟨bx, 1, none⟩))), (42, Fact.at_ W5 (.agg #[.int .i64 u.kind, .int .i64 u.n, .string (bs u.s), .slice s.A u.l.length s.c, .slice s.B u.f.length s.d])), (43, FNw u W5), (44, Fact.at_ W5 (.pointer (some ⟨g, k * 6, none⟩))), (45, Fact.at_ W5 (.pointer (some ⟨g, k * 6 + 1, none⟩)))]) [1, 5, 6] [] 48 8 [38, 39, 40, 41, 42, 43, 44, 45] rfl (by kernel_rfl) (by kernel_rfl) (by decide) (by kernel_rfl) (by kernel_rfl) ?_ ?_ ?_
            · intro t9 ht9
              simp only [List.mem_cons, List.not_mem_nil, or_false] at ht9
              rcases ht9 with rfl | rfl | rfl
              · exact ⟨rfl, Below.refl _ _⟩
              · exact ⟨rfl, Below.refl _ _⟩
              · exact ⟨rfl, Below.refl _ _⟩
            · refine fcs ⟨Ob.new_ (at1 1 38 (.pointer (some ⟨w.heap.size, 0, none⟩)) (.pointer (some ⟨w.heap.size, 4, none⟩)) rfl (by first | exact .inl rfl | exact .inr ⟨_, _, _, rfl, rfl, by kernel_rfl, by decide, rfl⟩) (by kernel_rfl) rfl rfl (fun a9 W9 hb9 h9 => by simp [execOp, h9] <;> go_simp)) (by kernel_rfl), ?_⟩
              refine fcs ⟨Ob.new_ (at1 38 39 (.pointer (some ⟨w.heap.size, 4, none⟩)) (.slice (some ⟨g, 0, none⟩) n dF) rfl (by first | exact .inl rfl | exact .inr ⟨_, _, _, rfl, rfl, by kernel_rfl, by decide, rfl⟩) (by kernel_rfl) rfl rfl (fun a9 W9 hb9 h9 => by have g0 := cell_next hb9 r4; simp [execOp, h9] <;> go_simp)) (by kernel_rfl), ?_⟩
              refine fcs ⟨Ob.new_ (atcopy 5 40 (.int .i64 (k : Int)) (.inl rfl) rfl (by first | exact .inl rfl | exact .inr ⟨_, _, _, rfl, rfl, by kernel_rfl, by decide, rfl⟩) (by kernel_rfl) rfl rfl) (by kernel_rfl), ?_⟩
              refine fcs ⟨Ob.new_ (at1 6 41 (.pointer (some ⟨bx, 0, none⟩)) (.pointer (some ⟨bx, 1, none⟩)) rfl (by first | exact .inl rfl | exact .inr ⟨_, _, _, rfl, rfl, by kernel_rfl, by decide, rfl⟩) (by kernel_rfl) rfl rfl (fun a9 W9 hb9 h9 => by simp [execOp, h9] <;> go_simp)) (by kernel_rfl), ?_⟩
              refine fcs ⟨Ob.new_ (at1 41 42 (.pointer (some ⟨bx, 1, none⟩)) (.agg #[.int .i64 u.kind, .int .i64 u.n, .string (bs u.s), .slice s.A u.l.length s.c, .slice s.B u.f.length s.d]) rfl (by first | exact .inl rfl | exact .inr ⟨_, _, _, rfl, rfl, by kernel_rfl, by decide, rfl⟩) (by kernel_rfl) rfl rfl (fun a9 W9 hb9 h9 => by have g0 := cell_next hb9 q1; have g1 := cell_next hb9 q2; have g2 := cell_next hb9 q3; have g3 := cell_next hb9 q4; have g4 := cell_next hb9 q5; simp [execOp, h9] <;> go_simp)) (by kernel_rfl), ?_⟩
              refine fcs ⟨Ob.new_ (at_enter (W0 := W5) (by first | exact .inl rfl | exact .inr ⟨_, _, _, rfl, rfl, by kernel_rfl, by decide, rfl⟩) (fun a9 W9 hf9 => by have p42 := hf9 42 (by kernel_rfl); have q42 : a9.tmps.getD 42 undef = (.agg #[.int .i64 u.kind, .int .i64 u.n, .string (bs u.s), .slice s.A u.l.length s.c, .slice s.B u.f.length s.d]) := p42.1; have hb9 := p42.2; exact ⟨40, #[(.agg #[.int .i64 u.kind, .int .i64 u.n, .string (bs u.s), .slice s.A u.l.length s.c, .slice s.B u.f.length s.d])], by rw [← q42]; simpa [execOp, resolve, Act.eval] using run_invoke (by kernel_rfl) _ W9, (cN W9 hb9).mono fun e w' ⟨s2, e1, h1, h2⟩ => ⟨_, e1, h2, fun s hs => by injection hs with hs; subst hs; exact ⟨s2, rfl, h1.low hb9.size, upG hb9 h2⟩⟩⟩)) (by kernel_rfl), ?_⟩
              refine fcs ⟨Ob.new_ (at2 39 40 44 (.slice (some ⟨g, 0, none⟩) n dF) (.int .i64 (k : Int)) (.pointer (some ⟨g, k * 6, none⟩)) rfl (by first | exact .inl rfl | exact .inr ⟨_, _, _, rfl, rfl, by kernel_rfl, by decide, rfl⟩) (by kernel_rfl) (by kernel_rfl) rfl rfl rfl (fun a9 W9 hb9 h9 h8 => by simp [execOp, h9, h8] <;> go_simp)) (by kernel_rfl), ?_⟩
              refine fcs ⟨Ob.new_ (at1 44 45 (.pointer (some ⟨g, k * 6, none⟩)) (.pointer (some ⟨g, k * 6 + 1, none⟩)) rfl (by first | exact .inl rfl | exact .inr ⟨_, _, _, rfl, rfl, by kernel_rfl, by decide, rfl⟩) (by kernel_rfl) rfl rfl (fun a9 W9 hb9 h9 => by simp [execOp, h9] <;> go_simp)) (by kernel_rfl), ?_⟩
              exact fnl
            intro vv wv hvv hbv _ _
            have hv45 : vv 45 = (.pointer (some ⟨g, k * 6 + 1, none⟩)) := (hvv 45 (by decide)).1
            simp only [lay, List.foldl_cons, List.foldl_nil, List.setIfInBounds_toArray, List.set_cons_succ, List.set_cons_zero, hv45, List.drop_succ_cons, List.drop_zero]
            obtain ⟨s2, hv43, hN2, -⟩ := hvv 43 (by decide)
            simp only [hv43]
            clear hvv hv45 hv43 q1 q2 q3 q4 q5 r4 cN
            have hb3 := Below.next hbx hbv
            have ho3 := own_next ho hb3
            have f1 := ho3.frozenAt (k * 6 + 1)
            have f2 := ho3.frozenAt (k * 6 + 2)
            have f3 := ho3.frozenAt (k * 6 + 3)
            have f4 := ho3.frozenAt (k * 6 + 4)
            have f5 := ho3.frozenAt (k * 6 + 5)
            replace e1 := cell_next hb3 e1
            replace e2 := cell_next hb3 e2
            replace e3 := cell_next hb3 e3
            replace e4 := cell_next hb3 e4
            replace e5 := cell_next hb3 e5
            have hst := storedN (encV u s2) ho3 (k * 6 + 1)
            have hput : putAt zs (k * 6) (encE (num, u) s2) = putAt zs (k * 6 + 1) (encV u s2) := putAt_one (encV u s2) HC0.out
            have hst1 : ((((((wv.setCell ⟨g, k * 6 + 1, none⟩ (.int .i64 u.kind)).setCell ⟨g, k * 6 + 2, none⟩ (.int .i64 u.n)).setCell ⟨g, k * 6 + 3, none⟩ (.string (bs u.s))).setCell ⟨g, k * 6 + 4, none⟩ (.slice s2.A u.l.length s2.c)).setCell ⟨g, k * 6 + 5, none⟩ (.slice s2.B u.f.length s2.d))).ownsRow W1.heap.size 72 6 (.slice (some ⟨g, 0, none⟩) n dF) n (putAt zs (k * 6) (encE (num, u) s2)) := by rw [hput]; exact hst.1
            have hgr : wv.grownBy ((((((wv.setCell ⟨g, k * 6 + 1, none⟩ (.int .i64 u.kind)).setCell ⟨g, k * 6 + 2, none⟩ (.int .i64 u.n)).setCell ⟨g, k * 6 + 3, none⟩ (.string (bs u.s))).setCell ⟨g, k * 6 + 4, none⟩ (.slice s2.A u.l.length s2.c)).setCell ⟨g, k * 6 + 5, none⟩ (.slice s2.B u.f.length s2.d))) (some g) := hst.2
            have hKp : Kpl hi wr ((((((wv.setCell ⟨g, k * 6 + 1, none⟩ (.int .i64 u.kind)).setCell ⟨g, k * 6 + 2, none⟩ (.int .i64 u.n)).setCell ⟨g, k * 6 + 3, none⟩ (.string (bs u.s))).setCell ⟨g, k * 6 + 4, none⟩ (.slice s2.A u.l.length s2.c)).setCell ⟨g, k * 6 + 5, none⟩ (.slice s2.B u.f.length s2.d))) := (Kpl.of hb3).trans (Kpl.gb hgr hg.2)
            have HE2 := Lib.hid (HS.out _ s2 hKp ((hN2.low (by omega)).next (Kpl.gb hgr hg.2)))
            have HL2 := Lib.hid (show IL 5 encV (fun _ t s => NwV hi ((((((wv.setCell ⟨g, k * 6 + 1, none⟩ (.int .i64 u.kind)).setCell ⟨g, k * 6 + 2, none⟩ (.int .i64 u.n)).setCell ⟨g, k * 6 + 3, none⟩ (.string (bs u.s))).setCell ⟨g, k * 6 + 4, none⟩ (.slice s2.A u.l.length s2.c)).setCell ⟨g, k * 6 + 5, none⟩ (.slice s2.B u.f.length s2.d))) t s) t.l ys from HL.out.mono fun j hj b h => h.next hKp)
            have ho2 := (own_next ho' hb3).kept hgr (.inr fun e => hne g e rfl)
            have D3 := (D1.next hb3).gb hgr (by omega)
            have D4 := (D2.next hb3).gb hgr (by omega)
            have hsz2 : hi ≤ ((((((wv.setCell ⟨g, k * 6 + 1, none⟩ (.int .i64 u.kind)).setCell ⟨g, k * 6 + 2, none⟩ (.int .i64 u.n)).setCell ⟨g, k * 6 + 3, none⟩ (.string (bs u.s))).setCell ⟨g, k * 6 + 4, none⟩ (.slice s2.A u.l.length s2.c)).setCell ⟨g, k * 6 + 5, none⟩ (.slice s2.B u.f.length s2.d))).heap.size := by have := hb3.size; have := hgr.size; omega
            have hb4 := (Below.next hb hb3).grown hgr (Below.next hb hb3).size (fun j hj => by cases hj; omega)
            clear hst hgr hKp hb3 hb ho ho' HS hN2 hbv D1 D2 hbx c3 HL hput HC0 e0
            go_wp2_with fail
            go_roundw
            case rel => exact ⟨k + 1, _, hk1.out, by go_num, HE2, HL2, ho2, hst1, D3, D4, hsz2, hb4⟩
            case measure => have := hk1.out; simp [intOf]; omega
          · obtain rfl : k = n := by omega
            have HF : IL 6 encE (fun _ x s => NwV hi wr x.2 s) t.f zs := HE.out.mono fun j hj b h => by unfold RnV at h; rw [if_pos (by rw [← HN.out]; exact hj)] at h; exact h
            have HL := HL.out
            have c0 := D1.c 0 rfl
            have c1 := D1.c 1 rfl
            have c2 := D1.c 2 rfl
            have c3 := D1.c 3 rfl
            have c4 := D1.c 4 rfl
            have r0 := D2.c 0 rfl
            have r1 := D2.c 1 rfl
            have r2 := D2.c 2 rfl
            have r3 := D2.c 3 rfl
            have r4 := D2.c 4 rfl
            have f0 := D2.f 0 rfl
            have f1 := D2.f 1 rfl
            have f2 := D2.f 2 rfl
            have f3 := D2.f 3 rfl
            have f4 := D2.f 4 rfl
            have l1 := D1.lt
            have l2 := D2.lt
            clear HE cF hlt
            go_wp2_with fail
            have hgr := (((((gb_set1 wr ⟨w.heap.size + 1, 0, none⟩ (.int .i64 t.kind)).trans (gb_set1 _ ⟨w.heap.size + 1, 1, none⟩ (.int .i64 t.n))).trans (gb_set1 _ ⟨w.heap.size + 1, 2, none⟩ (.string (bs t.s)))).trans (gb_set1 _ ⟨w.heap.size + 1, 3, none⟩ (.slice AL t.l.length dL))).trans (gb_set1 _ ⟨w.heap.size + 1, 4, none⟩ (.slice BF k dF)))
            rw [HM.out] at hgr
            have hKp := Kpl.gb (hi := hi) hgr (by show w.heap.size + 1 < hi; omega)
            have ho3 := ho.kept hgr (.inr fun e => by have := hgF2 _ e; simp at this; omega)
            have ho4 := ho'.kept hgr (.inr fun e => by have := hgL2 _ e; simp at this; omega)
            have hb4 := hb.grown hgr hb.size (fun j hj => by injection hj with hj; simp at hj; omega)
            refine bodyPost_ret (v := .agg #[.int .i64 t.kind, .int .i64 t.n, .string (bs t.s), .slice AL _ dL, .slice BF k dF]) (by simp [results, Try.results40, go_sem, r0, r1, r2, r3, r4]) rfl ⟨hi, AL, dL, BF, dF, zs, rfl, by omega, fun w3 hx => ?_, fun g hg => (hgF2 g hg).2, HF.mono fun j _ b h => h.next hKp, own_mono ho3 (by omega), hb4⟩
            have hKx : Kpl hi _ w3 := hx.kpl (by omega) (fun g hg => (hgF2 g hg).2)
            by_cases h0 : t.l.length = 0
            · exact .inl (List.eq_nil_of_length_eq_zero h0)
            · obtain ⟨g, rfl⟩ := own_some ho4 (by rw [← HM.out]; exact h0)
              have hg := hgL2 g rfl
              have hlt4 := ho4.lt g rfl
              exact rowV_of ho4 (hx.blk g (by omega) hlt4.2 (fun e => hne g rfl e.symm)) HM.out (HL.mono fun j _ b h => (h.next hKp) w3 hKx)
end Go.Proofs.Ytlebppjldoodgaa

import Derived.Test.YtiooilkbbfflaaaHr
/-
  A clock: Advance. No conditions beyond those that each names.
-/
namespace Go.Proofs.Ytiooilkbbfflaaa
open Go.RowKit Go.Sort Go.Lib Go.Shelf
theorem Fm.weak {s t : Nat → Prop} {w w' : World} (h : Fm s w w') (k : ∀ i, s i → t i) : Fm t w w' := ⟨h.os, h.tape, h.output, h.size, fun i hi hn => h.blk i hi fun e => hn (k i e)⟩
/-- What advancing comes to: the clock, the firings, the error. -/
def adS (S : Cs) (t : Int) : Cs × List (Nat × Nat) × Int :=
  if ahd S t then match fr t.toNat 4096 [] S.l with
    | none => (S, [], 3)
    | some r => (⟨t.toNat, S.last, r.2⟩, r.1, 0)
  else (S, [], 4)
/-- What a call of Advance leaves. -/
def AdP (c : Nat) (v : Value) (R : Cs × List (Nat × Nat) × Int) (w : World) (e : Ending) (w' : World) : Prop :=
  ∃ x v', e = .returned (.tuple #[x, .int .i64 R.2.2]) ∧ OwF w.heap.size w' x R.2.1 ∧ Ck c w' v' R.1 ∧ NW w v v' ∧ Fm (fun i => i = c ∨ v.ownBlock = some i) w w' ∧ ∀ g, x.ownBlock = some g → v'.ownBlock ≠ some g
theorem fr_le {u : Nat} : ∀ {f : Nat} {acc : List (Nat × Nat)} {l : List Tm} {r : List (Nat × Nat) × List Tm}, fr u f acc l = some r → r.2.length ≤ l.length ∧ (∀ x ∈ r.2, ∃ y ∈ l, x.id = y.id)
  | f, acc, [], r, e => by rw [fr_nil] at e; injection e with e; subst e; exact ⟨Nat.le_refl _, fun x hx => by simp at hx⟩
  | f, acc, x :: l, r, e => by
    by_cases hx : u < x.at_
    · rw [fr_stop hx] at e; injection e with e; subst e; exact ⟨Nat.le_refl _, fun y hy => ⟨y, hy, rfl⟩⟩
    · cases f with
      | zero => rw [fr_long (by omega)] at e; cases e
      | succ f =>
        rw [fr_step (by omega)] at e
        obtain ⟨h1, h2⟩ := fr_le e
        refine ⟨Nat.le_trans h1 (nxt_len x l), fun z hz => ?_⟩
        obtain ⟨y, hy, hyz⟩ := h2 z hz
        unfold nxt at hy
        split at hy
        · rcases ins_mem.1 hy with rfl | hy
          · exact ⟨x, List.mem_cons_self .., hyz⟩
          · exact ⟨y, List.mem_cons_of_mem _ hy, hyz⟩
        · exact ⟨y, List.mem_cons_of_mem _ hy, hyz⟩
theorem Okc.fire {S : Cs} (h : Okc S) {u : Nat} (hu : u ≤ 1099511627776) {r : List (Nat × Nat) × List Tm} (e : fr u 4096 [] S.l = some r) : Okc ⟨u, S.last, r.2⟩ := by
  obtain ⟨h1, h2⟩ := fr_iv hu h.iv e
  obtain ⟨h3, h4⟩ := fr_le e
  exact ⟨h1, hu, Nat.le_trans h3 h.len, fun x hx => by
    obtain ⟨y, hy, hyx⟩ := h4 x hx
    rw [hyx]
    exact h.ids y hy, fun x hx => Nat.le_of_lt (h2 x hx)⟩
/-- A clock whose time and timers were set. -/
theorem Ck.put {c : Nat} {w : World} {v0 v' : Value} {u0 : Value} {S : Cs} (h0 : w.cell? ⟨c, 0, none⟩ = some u0) (f0 : w.frozen? ⟨c, 0, none⟩ = false) (h1 : w.cell? ⟨c, 1, none⟩ = some (.int .i64 (S.last : Int))) (f1 : w.frozen? ⟨c, 1, none⟩ = false) (h2 : w.cell? ⟨c, 2, none⟩ = some v0) (f2 : w.frozen? ⟨c, 2, none⟩ = false) (ho : OwT c w v' S.l) (hne : v'.ownBlock ≠ some c) (hok : Okc S) :
    Ck c ((w.setCell ⟨c, 0, none⟩ (.int .i64 (S.now : Int))).setCell ⟨c, 2, none⟩ v') v' S := by
  have n02 : (⟨c, 0, none⟩ : Addr) ≠ ⟨c, 2, none⟩ := fun e => by injection e with _ e; cases e
  have n20 : (⟨c, 2, none⟩ : Addr) ≠ ⟨c, 0, none⟩ := fun e => by injection e with _ e; cases e
  have n01 : (⟨c, 0, none⟩ : Addr) ≠ ⟨c, 1, none⟩ := fun e => by injection e with _ e; cases e
  have n21 : (⟨c, 2, none⟩ : Addr) ≠ ⟨c, 1, none⟩ := fun e => by injection e with _ e; cases e
  have fr := fun i => (fr_set (w.setCell ⟨c, 0, none⟩ (.int .i64 (S.now : Int))) c 2 i v').trans (fr_set w c 0 i (.int .i64 (S.now : Int)))
  refine ⟨(World.cell?_setCell_other (h := n20) ..).trans (World.cell?_setCell_same (h := h0) ..), (fr 0).trans f0, (World.cell?_setCell_other (h := n21) ..).trans ((World.cell?_setCell_other (h := n01) ..).trans h1), (fr 1).trans f1, ⟨World.cell?_setCell_same (h := (World.cell?_setCell_other (h := n02) ..).trans h2) .., (fr 2).trans f2, (ho.kept (gb_set1 w ⟨c, 0, none⟩ _) (.inr hne)).kept (gb_set1 _ ⟨c, 2, none⟩ _) (.inr hne), hne⟩, hok⟩
/-- What fire leaves where nothing went wrong. -/
def FirS (p : Nat) (w : World) (r : List (Nat × Nat) × List Tm) (e : Ending) (w4 : World) : Prop :=
  ∃ Ax nx dx A4 n4 d4, e = .returned (.tuple #[.slice Ax nx dx, .int .i64 0]) ∧ w4.cell? ⟨p, 0, none⟩ = some (.slice A4 n4 d4) ∧ Hid (Fm (fun _ => False) w w4) ∧ Hid (OwF w.heap.size w4 (.slice Ax nx dx) r.1 ∧ OwT w.heap.size w4 (.slice A4 n4 d4) r.2 ∧ ∀ g, (Value.slice Ax nx dx).ownBlock = some g → (Value.slice A4 n4 d4).ownBlock ≠ some g)
set_option maxRecDepth 100000 in
set_option maxHeartbeats 4000000 in
theorem advance_any (c : Nat) (v : Value) (S : Cs) (t : Int) (w : World) (h : Ck c w v S) :
    Calls Try.prog 17 #[(.pointer (some ⟨c, 0, none⟩)), .int .i64 t] w (AdP c v (adS S t) w) := by
  have cA := ahead_any c v S t w h
  have lc := h.lt
  have H := Lib.hid h
  cases ha : ahd S t with
  | false =>
    rw [ha] at cA
    have HR := Lib.hid (show adS S t = (S, [], 4) by unfold adS; rw [ha]; rfl)
    clear h ha
    go_enter Try.func17, Try.ntmps17
    go_wp2_with (refine cA.mono ?_; rintro e w1 ⟨rfl, hb1⟩)
    go_ret2
    rw [HR.out]
    exact ⟨_, v, rfl, World.ownsRow_nil _ _ _ _, H.out.next hb1, NW.refl _ _, Fm.of _ hb1, fun g e => by cases e⟩
  | true =>
    rw [ha] at cA
    have ht := of_decide_eq_true ha
    have hl9 := h.ok.len
    obtain ⟨u, hu⟩ : ∃ u : Nat, t = (u : Int) := ⟨t.toNat, (Int.toNat_of_nonneg (by omega)).symm⟩
    subst hu
    have hu2 : u ≤ 1099511627776 := by omega
    have HA := Lib.hid ha
    have HT := Lib.hid (show S.now ≤ u by omega)
    have HU := Lib.hid hu2
    have HL := Lib.hid hl9
    have cC := fun w1 (hb : Below w.heap.size w w1) => sclone_any c c 2 v S.l w1 (by have := HL.out; omega) (H.out.next hb).sd
    have HC := Lib.hid cC
    clear h ha ht hl9 hu2 cC
    go_enter Try.func17, Try.ntmps17
    go_upto_region 6 with (first | (refine cA.mono ?_; rintro e w1 ⟨rfl, hb1⟩) | (refine (HC.out w1 hb1).mono ?_; rintro e w2 ⟨vn, rfl, hoN, hb2⟩; obtain ⟨An, dn, rfl, -⟩ := own_nil_or hoN))
    have hb12 := Below.next hb1 hb2
    have hb := Below.next hb12 (ab1 w2 (Obj.cells #[.slice An S.l.length dn] 62))
    have B3 := Bx.new1 w2 62 (.slice An S.l.length dn)
    have hvn : ∀ g, (Value.slice An S.l.length dn).ownBlock = some g → w.heap.size ≤ g ∧ g < w2.heap.size := fun g e => ⟨Nat.le_trans hb1.size (hoN.lt g e).1, (hoN.lt g e).2⟩
    have sdN : Sd w.heap.size w2.heap.size 0 (w2.alloc (Obj.cells #[.slice An S.l.length dn] 62)) (.slice An S.l.length dn) S.l := ⟨B3.c 0 rfl, B3.f 0 rfl, own_next (own_mono hoN hb1.size) (ab1 w2 _), fun e => by have := (hvn _ e).2; omega⟩
    have hp := hb12.size
    clear hb12 hoN
    generalize w2.alloc (Obj.cells #[.slice An S.l.length dn] 62) = w3 at *
    generalize w2.heap.size = p at *
    clear hb1 hb2
    have cFi := fire_any w.heap.size p _ S.l u w3 (by have := HL.out; omega) hb.size sdN H.out.ok.iv HU.out
    have hbc : ∀ w4, Fm (fun i => i = p ∨ (Value.slice An S.l.length dn).ownBlock = some i) w3 w4 → Fm (fun _ => False) w w4 := fun w4 k => (Fm.of _ hb).trans k fun i hi e => by
      rcases e with e | e
      · omega
      · have := (hvn i e).1; omega
    have HBC := Lib.hid hbc
    cases hfr : fr u 4096 [] S.l with
    | none =>
      have HR := Lib.hid (show adS S u = (S, [], 3) by unfold adS; rw [HA.out, if_pos rfl, Int.toNat_natCast, hfr])
      have cF2 : Calls Try.prog 34 #[(.pointer (some ⟨p, 0, none⟩)), .int .i64 (u : Int)] w3 (fun e w4 => e = .returned (.tuple #[.slice none 0 0, .int .i64 3]) ∧ Hid (Fm (fun _ => False) w w4)) := cFi.mono fun e w4 k => by
        rcases k with ⟨-, k1, k2⟩ | ⟨acc, l', x, v4, k, -⟩
        · exact ⟨k1, Lib.hid (HBC.out w4 k2)⟩
        · rw [hfr] at k; cases k
      clear cFi hbc hfr sdN hvn B3 HC cA hb hp
      go_wp2_with (refine cF2.mono ?_; rintro e w4 ⟨rfl, HF⟩)
      go_ret2
      rw [HR.out]
      have F := HF.out
      exact ⟨_, v, rfl, World.ownsRow_nil _ _ _ _, H.out.fm F id fun _ _ => id, NW.refl _ _, (Fm.refl _ w).trans F fun i _ e => e.elim, fun g e => by cases e⟩
    | some r =>
      have HR := Lib.hid (show adS S u = (⟨u, S.last, r.2⟩, r.1, 0) by unfold adS; rw [HA.out, if_pos rfl, Int.toNat_natCast, hfr])
      have HK := Lib.hid (H.out.ok.fire HU.out hfr)
      have cF2 : Calls Try.prog 34 #[(.pointer (some ⟨p, 0, none⟩)), .int .i64 (u : Int)] w3 (FirS p w r) := cFi.mono fun e w4 k => by
        rcases k with ⟨k, -⟩ | ⟨acc, l', x, v4, k, k1, k2, k3, k4⟩
        · rw [hfr] at k; cases k
        · rw [hfr] at k; injection k with k; subst k
          obtain ⟨A4, d4, rfl, -⟩ := own_nil_or k3.sd.own
          obtain ⟨Ax, dx, rfl, -⟩ := own_nil_or k2
          exact ⟨Ax, _, dx, A4, _, d4, k1, k3.sd.c, Lib.hid (HBC.out w4 k3.fm), Lib.hid ⟨own_mono k2 hb.size, k3.sd.own, k4⟩⟩
      obtain ⟨Av, nv, dv, rfl⟩ : ∃ Av nv dv, v = .slice Av nv dv := by
        obtain ⟨Av, dv, rfl, -⟩ := own_nil_or H.out.sd.own
        exact ⟨_, _, _, rfl⟩
      clear cFi hbc hfr sdN hvn B3 HC cA hb hp
      have c0 := H.out.c0
      have c2 := H.out.sd.c
      have HQ : ∀ w4 A4 n4 d4, Hid (Fm (fun _ => False) w w4) → OwT w.heap.size w4 (.slice A4 n4 d4) r.2 → w4.cell? ⟨p, 0, none⟩ = some (.slice A4 n4 d4) → w4.cell? ⟨c, 0, none⟩ = some (.int .i64 (S.now : Int)) ∧ w4.cell? ⟨c, 2, none⟩ = some (.slice Av nv dv) ∧ w4.frozen? ⟨c, 0, none⟩ = false ∧ w4.frozen? ⟨c, 2, none⟩ = false ∧ c < w4.heap.size ∧ p < w4.heap.size ∧ Hid (Ck c ((w4.setCell ⟨c, 0, none⟩ (.int .i64 (u : Int))).setCell ⟨c, 2, none⟩ (.slice A4 n4 d4)) (.slice A4 n4 d4) ⟨u, S.last, r.2⟩) := fun w4 A4 n4 d4 HF ho p4 => by
        have hbk : w4.heap[c]? = w.heap[c]? := HF.out.blk c lc id
        have k_ := fun j => World.cell?_of_block (w := w) (w' := w4) (a := ⟨c, j, none⟩) hbk
        have g_ := fun j => World.frozen?_of_block (w := w) (w' := w4) (a := ⟨c, j, none⟩) hbk
        have k0 := (k_ 0).trans c0
        have k2 := (k_ 2).trans c2
        have g0 := (g_ 0).trans H.out.f0
        have g2 := (g_ 2).trans H.out.sd.f
        exact ⟨k0, k2, g0, g2, blk_lt k0, blk_lt p4, Lib.hid (Ck.put (S := ⟨u, S.last, r.2⟩) k0 g0 ((k_ 1).trans H.out.c1) ((g_ 1).trans H.out.f1) k2 g2 (own_mono ho (Nat.le_of_lt lc)) (fun e => by have := (ho.lt c e).1; omega) HK.out)⟩
      have HQ2 := Lib.hid HQ
      clear HQ c0 c2
      go_wp2_with (refine cF2.mono ?_; rintro e w4 ⟨Ax, nx, dx, A4, n4, d4, rfl, p4, HF, HO⟩; obtain ⟨k0, k2, g0, g2, kl, pl, HE⟩ := HQ2.out w4 A4 n4 d4 HF HO.out.2.1 p4)
      go_ret2
      rw [HR.out]
      have F := HF.out
      have gg : w4.grownBy ((w4.setCell ⟨c, 0, none⟩ (.int .i64 (u : Int))).setCell ⟨c, 2, none⟩ (.slice A4 n4 d4)) (some c) := (gb_set1 w4 ⟨c, 0, none⟩ _).trans (gb_set1 _ ⟨c, 2, none⟩ _)
      refine ⟨_, _, rfl, HO.out.1.kept gg (.inr fun e => by have := (HO.out.1.lt c e).1; omega), HE.out, fun g e => .inr (HO.out.2.1.lt g e).1, (F.weak fun _ e => e.elim).trans (Fm.gb (s := fun i => i = c ∨ (Value.slice Av nv dv).ownBlock = some i) gg fun i e => by injection e with e; exact .inl e.symm) (fun i _ e => e), HO.out.2.2⟩
end Go.Proofs.Ytiooilkbbfflaaa

import Derived.Test.YtndidbanbklonaaBo
/-
  A network: sending. No conditions beyond those that each names.
-/
namespace Go.Proofs.Ytndidbanbklonaa
open Go.RowKit Go.Sort Go.Lib Go.Shelf
/-- A network behind a sending. -/
def sndS (S : Ns) (at_ fr to_ : Int) (s : ByteArray) : Ns := ⟨S.nodes, S.lat, S.fs, S.sent + 1, at_, (arT S.lat at_ fr to_ S.fs).foldl (fun q t => q.add ⟨t, fr, to_, S.sent + 1, s⟩) S.q⟩
theorem dlv_bd (at_ fr to_ : Int) : ∀ (ys : List Ft) (o : Int) (l : List Int) (r : Int × List Int), (∀ y ∈ ys, 0 ≤ y.x ∧ y.x ≤ 1099511627776) → (∀ x ∈ l, 0 ≤ x ∧ x ≤ 1099511627776) → dlv at_ fr to_ ys o l = some r → o ≤ r.1 ∧ r.1 ≤ o + ys.length * 1099511627776 ∧ (∀ x ∈ r.2, 0 ≤ x ∧ x ≤ 1099511627776) ∧ r.2.length ≤ l.length + ys.length
  | [], o, l, r, _, hl, e => by
    rw [dlv] at e; injection e with e; subst e
    exact ⟨Int.le_refl _, by simp, hl, by simp⟩
  | y :: ys, o, l, r, hy, hl, e => by
    have h1 := hy y (List.mem_cons_self ..)
    have h2 : ∀ z ∈ ys, 0 ≤ z.x ∧ z.x ≤ 1099511627776 := fun z hz => hy z (List.mem_cons_of_mem _ hz)
    rw [dlv] at e
    rw [List.length_cons]
    have key : ∀ (o' : Int) (l' : List Int), o ≤ o' → o' ≤ o + 1099511627776 → (∀ x ∈ l', 0 ≤ x ∧ x ≤ 1099511627776) → l'.length ≤ l.length + 1 → dlv at_ fr to_ ys o' l' = some r → o ≤ r.1 ∧ r.1 ≤ o + ((ys.length + 1 : Nat) : Int) * 1099511627776 ∧ (∀ x ∈ r.2, 0 ≤ x ∧ x ≤ 1099511627776) ∧ r.2.length ≤ l.length + (ys.length + 1) := fun o' l' a1 a2 a3 a4 a5 => by
      obtain ⟨b1, b2, b3, b4⟩ := dlv_bd at_ fr to_ ys o' l' r h2 a3 a5
      exact ⟨by omega, by omega, b3, by omega⟩
    split at e
    · split at e
      · cases e
      · split at e
        · exact key _ _ (by omega) (by omega) hl (by omega) e
        · split at e
          · refine key _ _ (Int.le_refl _) (by omega) (fun x hx => ?_) (by simp) e
            rcases List.mem_append.1 hx with hx | hx
            · exact hl x hx
            · rw [List.mem_singleton.1 hx]; exact h1
          · exact key _ _ (Int.le_refl _) (by omega) hl (by omega) e
    · exact key _ _ (Int.le_refl _) (by omega) hl (by omega) e
theorem arT_bd {lat at_ fr to_ : Int} {fs : List Ft} (hf : fs.length ≤ 64) (hx : ∀ y ∈ fs, 0 ≤ y.x ∧ y.x ≤ 1099511627776) (h1 : 0 ≤ at_ ∧ at_ ≤ 1099511627776) (h2 : 0 ≤ lat ∧ lat ≤ 1099511627776) : (arT lat at_ fr to_ fs).length ≤ 65 ∧ ∀ t ∈ arT lat at_ fr to_ fs, at_ + lat ≤ t ∧ t ≤ 73667279060992 := by
  unfold arT
  cases e : dlv at_ fr to_ fs (at_ + lat) [] with
  | none => exact ⟨Nat.zero_le _, fun t h => by cases h⟩
  | some r =>
    obtain ⟨b1, b2, b3, b4⟩ := dlv_bd at_ fr to_ fs (at_ + lat) [] r hx (fun x h => by cases h) e
    have hl : ((fs.length : Nat) : Int) ≤ 64 := by omega
    refine ⟨by simp at b4 ⊢; omega, fun t ht => ?_⟩
    rcases List.mem_cons.1 ht with rfl | ht
    · omega
    · obtain ⟨x, hx2, rfl⟩ := List.mem_map.1 ht
      have := b3 x hx2
      omega
theorem fold_ok {fr to_ : Int} {k : Nat} {s : ByteArray} : ∀ (l : List Int) (q : Sq), Okq q → Okq (l.foldl (fun q t => q.add ⟨t, fr, to_, k, s⟩) q) ∧ (l.foldl (fun q t => q.add ⟨t, fr, to_, k, s⟩) q).n = q.n + l.length
  | [], q, h => ⟨h, rfl⟩
  | t :: l, q, h => by
    obtain ⟨h1, h2⟩ := fold_ok (fr := fr) (to_ := to_) (k := k) (s := s) l (q.add ⟨t, fr, to_, k, s⟩) (h.add _)
    refine ⟨h1, ?_⟩
    rw [List.foldl_cons, h2]
    show q.n + 1 + l.length = q.n + (l.length + 1)
    omega
/-- What a call that changes a network leaves. -/
def NwM (c m : Nat) (V : Int → Value) (tv fv : Value) (S' : Ns) (r : Value) (w : World) (e : Ending) (w' : World) : Prop := e = .returned r ∧ ∃ V' tv', Nw c w' m V' tv' fv S' ∧ FpN w (Fp c m V tv) (Fp c m V' tv') ∧ Fm (Fp c m V tv) w w'
theorem NwM.same {c m : Nat} {V : Int → Value} {tv fv : Value} {S : Ns} {r : Value} {w : World} {e : Ending} {w' : World} (h : Nw c w m V tv fv S) (k : Ib r w e w') : NwM c m V tv fv S r w e w' := ⟨k.1, V, tv, h.next k.2, FpN.refl _ _, Fm.of _ k.2⟩
/-- How the loop of a sending stands. -/
structure SnL (c m : Nat) (V : Int → Value) (tv : Value) (fr to_ : Int) (k : Nat) (s : ByteArray) (l : List Int) (q : Sq) (w : World) (i : Nat) (V' : Int → Value) (tv' : Value) (wr : World) : Prop where
  sb : Sb c 5 wr m V' tv' ((l.take i).foldl (fun q t => q.add ⟨t, fr, to_, k, s⟩) q).T ((l.take i).foldl (fun q t => q.add ⟨t, fr, to_, k, s⟩) q).T ((l.take i).foldl (fun q t => q.add ⟨t, fr, to_, k, s⟩) q).G (((l.take i).foldl (fun q t => q.add ⟨t, fr, to_, k, s⟩) q).n : Int)
  fp : FpN w (Fp c m V tv) (Fp c m V' tv')
  fm : Fm (Fp c m V tv) w wr
  oc : Oc c 5 w wr
/-- A network whose time and count were set. -/
structure SnB (c m : Nat) (V : Int → Value) (tv fv : Value) (S : Ns) (at_ : Int) (w w3 : World) : Prop where
  c0 : w3.cell? ⟨c, 0, none⟩ = some (.int .i64 S.nodes)
  c1 : w3.cell? ⟨c, 1, none⟩ = some (.int .i64 S.lat)
  c2 : w3.cell? ⟨c, 2, none⟩ = some fv
  c3 : w3.cell? ⟨c, 3, none⟩ = some (.int .i64 ((S.sent : Int) + 1))
  f3 : w3.frozen? ⟨c, 3, none⟩ = false
  c4 : w3.cell? ⟨c, 4, none⟩ = some (.int .i64 at_)
  f4 : w3.frozen? ⟨c, 4, none⟩ = false
  sb : Sb c 5 w3 m V tv S.q.T S.q.T S.q.G (S.q.n : Int)
  fo : OwY 0 w3 fv S.fs
  fm : Fm (Fp c m V tv) w w3
theorem snd_start {c m : Nat} {V : Int → Value} {tv fv : Value} {S : Ns} {at_ : Int} {w w1 w3 : World} (h : Nw c w m V tv fv S) (hb : Below w.heap.size w w1) (hb3 : Below ((w1.setCell ⟨c, 4, none⟩ (.int .i64 at_)).setCell ⟨c, 3, none⟩ (.int .i64 ((S.sent : Int) + 1))).heap.size ((w1.setCell ⟨c, 4, none⟩ (.int .i64 at_)).setCell ⟨c, 3, none⟩ (.int .i64 ((S.sent : Int) + 1))) w3) : SnB c m V tv fv S at_ w w3 := by
  have h1 := h.next hb
  have n4 : ∀ j, j ≠ 4 → (⟨c, 4, none⟩ : Addr) ≠ ⟨c, j, none⟩ := fun j hj e => by injection e with _ e; exact hj e.symm
  have n3 : ∀ j, j ≠ 3 → (⟨c, 3, none⟩ : Addr) ≠ ⟨c, j, none⟩ := fun j hj e => by injection e with _ e; exact hj e.symm
  have c_ := fun j (hj : j ≠ 4) (hj3 : j ≠ 3) v (e : w1.cell? ⟨c, j, none⟩ = some v) => (World.cell?_setCell_other (w := w1.setCell ⟨c, 4, none⟩ (.int .i64 at_)) (v := .int .i64 ((S.sent : Int) + 1)) (h := n3 j hj3) ..).trans ((World.cell?_setCell_other (w := w1) (v := .int .i64 at_) (h := n4 j hj) ..).trans e)
  have f_ := fun j => (fr_set (w1.setCell ⟨c, 4, none⟩ (.int .i64 at_)) c 3 j (.int .i64 ((S.sent : Int) + 1))).trans (fr_set w1 c 4 j (.int .i64 at_))
  have hfo : OwY 0 ((w1.setCell ⟨c, 4, none⟩ (.int .i64 at_)).setCell ⟨c, 3, none⟩ (.int .i64 ((S.sent : Int) + 1))) fv S.fs := (h1.fo.kept (gb_set1 w1 ⟨c, 4, none⟩ _) (.inr fun e => h1.fn c e (.inl rfl))).kept (gb_set1 _ ⟨c, 3, none⟩ _) (.inr fun e => h1.fn c e (.inl rfl))
  have d3 : ((w1.setCell ⟨c, 4, none⟩ (.int .i64 at_)).setCell ⟨c, 3, none⟩ (.int .i64 ((S.sent : Int) + 1))).cell? ⟨c, 3, none⟩ = some (.int .i64 ((S.sent : Int) + 1)) := World.cell?_setCell_same (h := (World.cell?_setCell_other (h := n4 3 (by decide)) ..).trans h1.c3) ..
  have d4 : ((w1.setCell ⟨c, 4, none⟩ (.int .i64 at_)).setCell ⟨c, 3, none⟩ (.int .i64 ((S.sent : Int) + 1))).cell? ⟨c, 4, none⟩ = some (.int .i64 at_) := (World.cell?_setCell_other (h := n3 4 (by decide)) ..).trans (World.cell?_setCell_same (h := h1.c4) ..)
  have hsb := (h1.sb.set 4 (by decide) (.int .i64 at_)).set 3 (by decide) (.int .i64 ((S.sent : Int) + 1))
  have hlt := hsb.lt
  have fmc : ∀ (W : World) (j : Nat) (v : Value), Fm (Fp c m V tv) W (W.setCell ⟨c, j, none⟩ v) := fun W j v => Fm.gb (gb_set1 W ⟨c, j, none⟩ v) fun i e => by injection e with e; exact .inl e.symm
  exact ⟨cell_next hb3 (c_ 0 (by decide) (by decide) _ h1.c0), cell_next hb3 (c_ 1 (by decide) (by decide) _ h1.c1), cell_next hb3 (c_ 2 (by decide) (by decide) _ h1.c2), cell_next hb3 d3, (hb3.frozen (p := ⟨c, 3, none⟩) hlt).trans ((f_ 3).trans h1.f3), cell_next hb3 d4, (hb3.frozen (p := ⟨c, 4, none⟩) hlt).trans ((f_ 4).trans h1.f4), hsb.next hb3, own_next hfo hb3,
    (((Fm.of _ hb).trans (fmc w1 4 _) fun _ _ e => e).trans (fmc _ 3 _) fun _ _ e => e).trans (Fm.of _ hb3) fun _ _ e => e⟩
theorem snd_end {c m : Nat} {V : Int → Value} {tv fv : Value} {S : Ns} {at_ fr to_ : Int} {s : ByteArray} {w w3 wr : World} {T : List Int} {i : Nat} {V' : Int → Value} {tv' : Value} (h : Nw c w m V tv fv S) (hb : SnB c m V tv fv S at_ w w3) (hT : arT S.lat at_ fr to_ S.fs = T) (hq : S.q.n < 65536) (hl : T.length ≤ 65) (hi : T.length ≤ i) (I : SnL c m V tv fr to_ (S.sent + 1) s T S.q w3 i V' tv' wr) :
    NwM c m V tv fv (sndS S at_ fr to_ s) (.tuple #[.int .i64 ((S.sent : Int) + 1), .int .i64 0]) w (.returned (.tuple #[.int .i64 ((S.sent : Int) + 1), .int .i64 0])) wr := by
  have hk : T.take i = T := List.take_of_length_le hi
  have hsb := I.sb
  rw [hk] at hsb
  have hfo := fold_ok (fr := fr) (to_ := to_) (k := S.sent + 1) (s := s) T S.q h.ok.oq
  have cl := fun j (h1 : j ≠ 5) (h2 : j ≠ 6) (h3 : j ≠ 7) => I.oc.cl j h1 h2 h3
  refine ⟨rfl, V', tv', ⟨(cl 0 (by decide) (by decide) (by decide)).trans hb.c0, (cl 1 (by decide) (by decide) (by decide)).trans hb.c1, (cl 2 (by decide) (by decide) (by decide)).trans hb.c2, (cl 3 (by decide) (by decide) (by decide)).trans (by rw [hb.c3]; rfl), (I.oc.fr 3).trans hb.f3, (cl 4 (by decide) (by decide) (by decide)).trans hb.c4, (I.oc.fr 4).trans hb.f4, ?_, ?_, fun g e hg => ?_, ⟨h.ok.nd, h.ok.lt, h.ok.fl, h.ok.fo, ?_, ?_⟩⟩, ?_, ?_⟩
  · unfold sndS
    rw [hT]; exact hsb
  · exact own_blk hb.fo fun g e => I.fm.blk g (hb.fo.lt g e).2 (h.fn g e)
  · rcases I.fp g hg with hg | hg
    · exact h.fn g e hg
    · have := (hb.fo.lt g e).2; omega
  · unfold sndS
    rw [hT]; exact hfo.1
  · unfold sndS
    rw [hT]
    show (T.foldl _ S.q).n ≤ 100000
    rw [hfo.2]; omega
  · exact (FpN.refl w _).trans hb.fm.size I.fp
  · exact hb.fm.trans I.fm fun _ _ e => e
set_option maxRecDepth 100000 in
set_option maxHeartbeats 8000000 in
theorem send_any (c : Nat) (w : World) (m : Nat) (V : Int → Value) (tv fv : Value) (S : Ns) (at_ fr to_ : Int) (s : ByteArray) (hs : s.size ≤ maxLen) (h : Nw c w m V tv fv S) (hst : S.sent ≤ 1000000) :
    Calls Try.prog 23 #[(.pointer (some ⟨c, 0, none⟩)), .int .i64 at_, .int .i64 fr, .int .i64 to_, .string s] w (NwM c m V tv fv (if sndE S at_ fr to_ s.size = 0 then sndS S at_ fr to_ s else S) (if sndE S at_ fr to_ s.size = 0 then .tuple #[.int .i64 ((S.sent : Int) + 1), .int .i64 0] else .tuple #[.int .i64 0, .int .i64 (sndE S at_ fr to_ s.size)]) w) := by
  have cC := checkSend_any c w m V tv fv S at_ fr to_ s hs h
  have pl := h.lt
  have H := Lib.hid h
  by_cases he : sndE S at_ fr to_ s.size = 0
  · rw [if_pos he, if_pos he]
    rw [he] at cC
    have hcond : tmB at_ = true ∧ S.q.n < 65536 := by
      unfold sndE at he
      split at he
      · split at he
        · rename_i h2
          refine ⟨h2, ?_⟩
          split at he
          · cases he
          · split at he
            · cases he
            · split at he
              · cases he
              · omega
        · cases he
      · cases he
    have hta := of_decide_eq_true hcond.1
    have HTA := Lib.hid hta
    have HQN := Lib.hid hcond.2
    have HX : Hid (∀ y ∈ S.fs, 0 ≤ y.x ∧ y.x ≤ 1099511627776) := Lib.hid fun y hy => (h.ok.fo y hy).2.2.2.2.2.2.1
    have HBD := Lib.hid (arT_bd (fr := fr) (to_ := to_) h.ok.fl HX.out hta h.ok.lt)
    have hwr : IntKind.i64.wrap ((S.sent : Int) + 1) = (S.sent : Int) + 1 := by rw [IntKind.wrap_i64]; omega
    obtain ⟨T, hT⟩ : ∃ T, arT S.lat at_ fr to_ S.fs = T := ⟨_, rfl⟩
    have HT := Lib.hid hT
    rw [hT] at HBD
    have HAF : Hid (∀ w1, Below w.heap.size w w1 → w1.cell? ⟨c, 4, none⟩ = some (.int .i64 S.rch) ∧ w1.frozen? ⟨c, 4, none⟩ = false ∧ w1.cell? ⟨c, 3, none⟩ = some (.int .i64 (S.sent : Int)) ∧ w1.frozen? ⟨c, 3, none⟩ = false ∧ c < w1.heap.size) := Lib.hid fun w1 hb => by
      have h1 := H.out.next hb
      exact ⟨h1.c4, h1.f4, h1.c3, h1.f3, h1.lt⟩
    clear h hcond hta hT he
    have HAC : Hid (∀ w1, Below w.heap.size w w1 → Calls Try.prog 34 #[(.pointer (some ⟨c, 0, none⟩)), .int .i64 at_, .int .i64 fr, .int .i64 to_] ((w1.setCell ⟨c, 4, none⟩ (.int .i64 at_)).setCell ⟨c, 3, none⟩ (.int .i64 ((S.sent : Int) + 1))) (fun e w3 => ∃ Av dv, e = .returned (.slice Av T.length dv) ∧ Hid (RoN w.heap.size w3 (.slice Av T.length dv) T ∧ Below ((w1.setCell ⟨c, 4, none⟩ (.int .i64 at_)).setCell ⟨c, 3, none⟩ (.int .i64 ((S.sent : Int) + 1))).heap.size ((w1.setCell ⟨c, 4, none⟩ (.int .i64 at_)).setCell ⟨c, 3, none⟩ (.int .i64 ((S.sent : Int) + 1))) w3))) := Lib.hid fun w1 hb => by
      have h1 := H.out.next hb
      have n4 : ∀ j, j ≠ 4 → (⟨c, 4, none⟩ : Addr) ≠ ⟨c, j, none⟩ := fun j hj e => by injection e with _ e; exact hj e.symm
      have n3 : ∀ j, j ≠ 3 → (⟨c, 3, none⟩ : Addr) ≠ ⟨c, j, none⟩ := fun j hj e => by injection e with _ e; exact hj e.symm
      have c_ := fun j (hj : j ≠ 4) (hj3 : j ≠ 3) v (e : w1.cell? ⟨c, j, none⟩ = some v) => (World.cell?_setCell_other (w := w1.setCell ⟨c, 4, none⟩ (.int .i64 at_)) (v := .int .i64 ((S.sent : Int) + 1)) (h := n3 j hj3) ..).trans ((World.cell?_setCell_other (w := w1) (v := .int .i64 at_) (h := n4 j hj) ..).trans e)
      have hfo : OwY 0 ((w1.setCell ⟨c, 4, none⟩ (.int .i64 at_)).setCell ⟨c, 3, none⟩ (.int .i64 ((S.sent : Int) + 1))) fv S.fs := (h1.fo.kept (gb_set1 w1 ⟨c, 4, none⟩ _) (.inr fun e => h1.fn c e (.inl rfl))).kept (gb_set1 _ ⟨c, 3, none⟩ _) (.inr fun e => h1.fn c e (.inl rfl))
      have hsz : w.heap.size ≤ ((w1.setCell ⟨c, 4, none⟩ (.int .i64 at_)).setCell ⟨c, 3, none⟩ (.int .i64 ((S.sent : Int) + 1))).heap.size := Nat.le_trans hb.size (Nat.le_trans (gb_set1 w1 ⟨c, 4, none⟩ _).size (gb_set1 _ ⟨c, 3, none⟩ _).size)
      have h2 := arT_any c _ S.lat at_ fr to_ fv S.fs (c_ 1 (by decide) (by decide) _ h1.c1) (c_ 2 (by decide) (by decide) _ h1.c2) hfo h1.ok.fl HTA.out h1.ok.lt HX.out
      rw [HT.out] at h2
      refine h2.mono ?_
      rintro e w3 ⟨v, rfl, k1, k2⟩
      obtain ⟨Av, dv, rfl, -⟩ := id k1.1
      exact ⟨Av, dv, rfl, Lib.hid ⟨⟨k1.1, fun g e => ⟨Nat.le_trans hsz (k1.2 g e).1, (k1.2 g e).2⟩⟩, k2⟩⟩
    obtain ⟨n, hTn⟩ : ∃ n, T.length = n := ⟨_, rfl⟩
    have HTN := Lib.hid hTn
    rw [hTn] at HAC HBD
    clear hTn
    go_enter Try.func23, Try.ntmps23
    go_wp2_with (first | (refine cC.mono ?_; rintro e w1 ⟨rfl, hb1⟩; obtain ⟨k4, j4, k3, j3, l1⟩ := HAF.out w1 hb1) | (refine (HAC.out w1 hb1).mono ?_; rintro e w3 ⟨Av, dv, rfl, HR3⟩))
    have HB0 : Hid (SnB c m V tv fv S at_ w w3) := Lib.hid (snd_start H.out hb1 HR3.out.2)
    clear k4 j4 k3 j3 l1 HAF HAC cC hb1 pl hwr
    have HRO := Lib.hid HR3.out.1
    clear HR3
    clear w1
    go_loopg [43] n (fun kx s43 wr => ∃ (i : Nat) (V' : Int → Value) (tv' : Value), s43 = .int .i64 (i : Int) ∧ i ≤ n ∧ n - i ≤ kx ∧ Hid (SnL c m V tv fr to_ (S.sent + 1) s T S.q w3 i V' tv' wr))
    case atStart => exact ⟨0, V, tv, rfl, Nat.zero_le _, Nat.le_refl _, Lib.hid ⟨HB0.out.sb, FpN.refl _ _, Fm.refl _ _, Oc.blk rfl⟩⟩
    case round =>
      obtain ⟨i, V', tv', rfl, hin, hkx, I⟩ := hrel
      have k3 : wr.cell? ⟨c, 3, none⟩ = some (.int .i64 ((S.sent : Int) + 1)) := (I.out.oc.cl 3 (by decide) (by decide) (by decide)).trans HB0.out.c3
      have pl : c < wr.heap.size := blk_lt k3
      by_cases hi : i < n
      · have hi2 : i < T.length := by rw [HTN.out]; exact hi
        obtain ⟨-, -, gx, ox, rfl, -⟩ := HRO.out.1.pos (fun e => by rw [e] at hi2; simp at hi2)
        have hro : Ro wr (.slice (some ⟨gx, ox, none⟩) n dv) T := HRO.out.1.fm I.out.fm fun g e hg => by have := (HRO.out.2 g e).1; have := H.out.sb.fp_lt g hg; omega
        have kx := hro.cell i hi2
        have lx : gx < wr.heap.size := blk_lt kx
        obtain ⟨x, hx⟩ : ∃ x, T[i]'hi2 = x := ⟨_, rfl⟩
        rw [hx] at kx
        have hxb := HBD.out.2 x (by rw [← hx]; exact List.getElem_mem hi2)
        have hS0 := HTA.out
        have hlt0 := H.out.ok.lt
        have HI : Hid (I64 x) := Lib.hid ⟨by omega, by omega⟩
        have HTK : Hid (T.take (i + 1) = T.take i ++ [x]) := Lib.hid (by rw [List.take_succ_eq_append_getElem hi2, hx])
        have di : decide (i < n) = true := decide_eq_true hi
        have hi1 : i + 1 ≤ n := by omega
        have hn65 : n ≤ 65 := HBD.out.1
        clear hi2 hro hx hxb hS0 hlt0
        go_upto_region 11 with (fail)
        refine wp_region_seqN (by kernel_rfl) (FF [(0, Fact.at_ wr (.pointer (some ⟨c, 0, none⟩))), (2, Fact.at_ wr (.int .i64 fr)), (3, Fact.at_ wr (.int .i64 to_)), (4, Fact.at_ wr (.string s)), (14, Fact.at_ wr (.int .i64 x)), (47, Fact.at_ wr (.pointer (some ⟨c, 0, none⟩))), (48, Fact.at_ wr (.pointer (some ⟨c, 0, none⟩))), (49, Fact.at_ wr (.pointer (some ⟨c, 5, none⟩))), (50, Fact.at_ wr (.int .i64 x)), (51, Fact.at_ wr (.int .i64 fr)), (52, Fact.at_ wr (.int .i64 to_)), (53, Fact.at_ wr (.pointer (some ⟨c, 0, none⟩))), (54, Fact.at_ wr (.pointer (some ⟨c, 0, none⟩))), (55, Fact.at_ wr (.pointer (some ⟨c, 3, none⟩))), (56, Fact.at_ wr (.int .i64 ((S.sent : Int) + 1))), (57, Fact.at_ wr (.string s)), (58, Fact.at_ wr (.agg #[.int .i64 x, .int .i64 fr, .int .i64 to_, .int .i64 ((S.sent : Int) + 1), .string s]))]) [0, 2, 3, 4, 14] [] 65 12 [47, 48, 49, 50, 51, 52, 53, 54, 55, 56, 57, 58] rfl (by kernel_rfl) (by kernel_rfl) (by decide) (by kernel_rfl) (by kernel_rfl) ?_ ?_ ?_
        · intro t9 ht9
          simp only [List.mem_cons, List.not_mem_nil, or_false] at ht9
          rcases ht9 with rfl | rfl | rfl | rfl | rfl
          · exact ⟨rfl, Below.refl _ _⟩
          · exact ⟨rfl, Below.refl _ _⟩
          · exact ⟨rfl, Below.refl _ _⟩
          · exact ⟨rfl, Below.refl _ _⟩
          · exact ⟨rfl, Below.refl _ _⟩
        · refine fcs ⟨Ob.new_ (atcopy 0 47 (.pointer (some ⟨c, 0, none⟩)) (.inl rfl) rfl (by first | exact .inl rfl | exact .inr ⟨_, _, _, rfl, rfl, by kernel_rfl, by decide, rfl⟩) (by kernel_rfl) rfl rfl) (by kernel_rfl), ?_⟩
          refine fcs ⟨Ob.new_ (at1 47 48 (.pointer (some ⟨c, 0, none⟩)) (.pointer (some ⟨c, 0, none⟩)) rfl (by first | exact .inl rfl | exact .inr ⟨_, _, _, rfl, rfl, by kernel_rfl, by decide, rfl⟩) (by kernel_rfl) rfl rfl (fun a9 W9 hb9 h9 => by simp [execOp, h9] <;> go_simp)) (by kernel_rfl), ?_⟩
          refine fcs ⟨Ob.new_ (at1 48 49 (.pointer (some ⟨c, 0, none⟩)) (.pointer (some ⟨c, 5, none⟩)) rfl (by first | exact .inl rfl | exact .inr ⟨_, _, _, rfl, rfl, by kernel_rfl, by decide, rfl⟩) (by kernel_rfl) rfl rfl (fun a9 W9 hb9 h9 => by simp [execOp, h9] <;> go_simp)) (by kernel_rfl), ?_⟩
          refine fcs ⟨Ob.new_ (atcopy 14 50 (.int .i64 x) (.inl rfl) rfl (by first | exact .inl rfl | exact .inr ⟨_, _, _, rfl, rfl, by kernel_rfl, by decide, rfl⟩) (by kernel_rfl) rfl rfl) (by kernel_rfl), ?_⟩
          refine fcs ⟨Ob.new_ (atcopy 2 51 (.int .i64 fr) (.inl rfl) rfl (by first | exact .inl rfl | exact .inr ⟨_, _, _, rfl, rfl, by kernel_rfl, by decide, rfl⟩) (by kernel_rfl) rfl rfl) (by kernel_rfl), ?_⟩
          refine fcs ⟨Ob.new_ (atcopy 3 52 (.int .i64 to_) (.inl rfl) rfl (by first | exact .inl rfl | exact .inr ⟨_, _, _, rfl, rfl, by kernel_rfl, by decide, rfl⟩) (by kernel_rfl) rfl rfl) (by kernel_rfl), ?_⟩
          refine fcs ⟨Ob.new_ (atcopy 0 53 (.pointer (some ⟨c, 0, none⟩)) (.inl rfl) rfl (by first | exact .inl rfl | exact .inr ⟨_, _, _, rfl, rfl, by kernel_rfl, by decide, rfl⟩) (by kernel_rfl) rfl rfl) (by kernel_rfl), ?_⟩
          refine fcs ⟨Ob.new_ (at1 53 54 (.pointer (some ⟨c, 0, none⟩)) (.pointer (some ⟨c, 0, none⟩)) rfl (by first | exact .inl rfl | exact .inr ⟨_, _, _, rfl, rfl, by kernel_rfl, by decide, rfl⟩) (by kernel_rfl) rfl rfl (fun a9 W9 hb9 h9 => by simp [execOp, h9] <;> go_simp)) (by kernel_rfl), ?_⟩
          refine fcs ⟨Ob.new_ (at1 54 55 (.pointer (some ⟨c, 0, none⟩)) (.pointer (some ⟨c, 3, none⟩)) rfl (by first | exact .inl rfl | exact .inr ⟨_, _, _, rfl, rfl, by kernel_rfl, by decide, rfl⟩) (by kernel_rfl) rfl rfl (fun a9 W9 hb9 h9 => by simp [execOp, h9] <;> go_simp)) (by kernel_rfl), ?_⟩
          refine fcs ⟨Ob.new_ (at1 55 56 (.pointer (some ⟨c, 3, none⟩)) (.int .i64 ((S.sent : Int) + 1)) rfl (by first | exact .inl rfl | exact .inr ⟨_, _, _, rfl, rfl, by kernel_rfl, by decide, rfl⟩) (by kernel_rfl) rfl rfl (fun a9 W9 hb9 h9 => by have g0 := cell_next hb9 k3; simp [execOp, h9] <;> go_simp)) (by kernel_rfl), ?_⟩
          refine fcs ⟨Ob.new_ (atcopy 4 57 (.string s) (.inl rfl) rfl (by first | exact .inl rfl | exact .inr ⟨_, _, _, rfl, rfl, by kernel_rfl, by decide, rfl⟩) (by kernel_rfl) rfl rfl) (by kernel_rfl), ?_⟩
          refine fcs ⟨Ob.new_ (at_val (W0 := wr) (by first | exact .inl rfl | exact .inr ⟨_, _, _, rfl, rfl, by kernel_rfl, by decide, rfl⟩) (fun a9 W9 hf9 => by have p50 := hf9 50 (by kernel_rfl); have p51 := hf9 51 (by kernel_rfl); have p52 := hf9 52 (by kernel_rfl); have p56 := hf9 56 (by kernel_rfl); have p57 := hf9 57 (by kernel_rfl); have h50 : a9.eval (.tmp 50) = (.int .i64 x) := p50.1; have h51 : a9.eval (.tmp 51) = (.int .i64 fr) := p51.1; have h52 : a9.eval (.tmp 52) = (.int .i64 to_) := p52.1; have h56 : a9.eval (.tmp 56) = (.int .i64 ((S.sent : Int) + 1)) := p56.1; have h57 : a9.eval (.tmp 57) = (.string s) := p57.1; exact ⟨(.agg #[.int .i64 x, .int .i64 fr, .int .i64 to_, .int .i64 ((S.sent : Int) + 1), .string s]), W9, by simp [execOp, h50, h51, h52, h56, h57] <;> go_simp, Below.refl _ _, fun t9 ht9 => by injection ht9 with ht9; subst ht9; exact ⟨rfl, p50.2⟩⟩)) (by kernel_rfl), ?_⟩
          exact fnl
        intro vv wv hvv hbv _ _
        have hv47 : vv 47 = (.pointer (some ⟨c, 0, none⟩)) := (hvv 47 (by decide)).1
        have hv48 : vv 48 = (.pointer (some ⟨c, 0, none⟩)) := (hvv 48 (by decide)).1
        have hv49 : vv 49 = (.pointer (some ⟨c, 5, none⟩)) := (hvv 49 (by decide)).1
        have hv50 : vv 50 = (.int .i64 x) := (hvv 50 (by decide)).1
        have hv51 : vv 51 = (.int .i64 fr) := (hvv 51 (by decide)).1
        have hv52 : vv 52 = (.int .i64 to_) := (hvv 52 (by decide)).1
        have hv53 : vv 53 = (.pointer (some ⟨c, 0, none⟩)) := (hvv 53 (by decide)).1
        have hv54 : vv 54 = (.pointer (some ⟨c, 0, none⟩)) := (hvv 54 (by decide)).1
        have hv55 : vv 55 = (.pointer (some ⟨c, 3, none⟩)) := (hvv 55 (by decide)).1
        have hv56 : vv 56 = (.int .i64 ((S.sent : Int) + 1)) := (hvv 56 (by decide)).1
        have hv57 : vv 57 = (.string s) := (hvv 57 (by decide)).1
        have hv58 : vv 58 = (.agg #[.int .i64 x, .int .i64 fr, .int .i64 to_, .int .i64 ((S.sent : Int) + 1), .string s]) := (hvv 58 (by decide)).1
        simp only [lay, List.foldl_cons, List.foldl_nil, List.setIfInBounds_toArray, List.set_cons_succ, List.set_cons_zero, hv47, hv48, hv49, hv50, hv51, hv52, hv53, hv54, hv55, hv56, hv57, hv58, List.drop_succ_cons, List.drop_zero]
        clear hvv
        have hfo := fold_ok (fr := fr) (to_ := to_) (k := S.sent + 1) (s := s) (T.take i) S.q H.out.ok.oq
        have hqi : ((T.take i).foldl (fun q t => q.add ⟨t, fr, to_, S.sent + 1, s⟩) S.q).n ≤ 1000000 := by
          rw [hfo.2]
          have h1 := HQN.out
          have h2 := HBD.out.1
          have h3 : (T.take i).length ≤ T.length := by rw [List.length_take]; omega
          have h4 := HTN.out
          omega
        have cA := qadd_any c 5 wv m V' tv' ((T.take i).foldl (fun q t => q.add ⟨t, fr, to_, S.sent + 1, s⟩) S.q) ⟨x, fr, to_, S.sent + 1, s⟩ (I.out.sb.next hbv) hfo.1 hqi HI.out
        have cA2 : Calls Try.prog 35 #[(.pointer (some ⟨c, 5, none⟩)), (.agg #[.int .i64 x, .int .i64 fr, .int .i64 to_, .int .i64 ((S.sent : Int) + 1), .string s])] wv (fun e w' => e = .returned (.tuple #[]) ∧ ∃ V2 tv2, Hid (SnL c m V tv fr to_ (S.sent + 1) s T S.q w3 (i + 1) V2 tv2 w')) := by
          have h := cA
          simp only [Int.natCast_add, Int.cast_ofNat_Int] at h
          refine h.mono ?_
          rintro e w4 ⟨rfl, V2, tv2, a1, a2, a3, a4⟩
          refine ⟨rfl, V2, tv2, Lib.hid ⟨?_, I.out.fp.trans I.out.fm.size ((FpN.refl wr _).trans hbv.size a2), ?_, (I.out.oc.trans (Oc.blk (hbv.block c pl))).trans a4⟩⟩
          · rw [HTK.out, List.foldl_append]; exact a1
          · exact ((I.out.fm.trans (Fm.of (Fp c m V tv) hbv) (fun _ _ e => e)).trans a3 fun k hk e => (I.out.fp k e).resolve_right (by omega))
        clear cA hfo hqi
        have hbl := hbv.size
        clear hbv k3 kx lx
        go_wp2_with (refine cA2.mono ?_; rintro e w4 ⟨rfl, V2, tv2, HL⟩)
        go_roundg (n - (i + 1))
        case measure => omega
        case rel => exact ⟨i + 1, V2, tv2, rfl, hi1, Nat.le_refl _, HL⟩
      · have di : decide (i < n) = false := decide_eq_false hi
        have HE := Lib.hid (snd_end (fr := fr) (to_ := to_) H.out HB0.out HT.out HQN.out (by have := HBD.out.1; have := HTN.out; omega) (show T.length ≤ i by rw [HTN.out]; omega) I.out)
        clear hi
        go_wp2_with fail
        go_ret2
        exact HE.out
  · rw [if_neg he, if_neg he]
    have hz2 : (sndE S at_ fr to_ s.size != 0) = true := bne_iff_ne.2 he
    generalize sndE S at_ fr to_ s.size = E at *
    clear h he
    go_enter Try.func23, Try.ntmps23
    go_wp2_with (refine cC.mono ?_; rintro e w1 ⟨rfl, hb1⟩)
    go_ret2
    exact NwM.same H.out ⟨rfl, hb1⟩
end Go.Proofs.Ytndidbanbklonaa

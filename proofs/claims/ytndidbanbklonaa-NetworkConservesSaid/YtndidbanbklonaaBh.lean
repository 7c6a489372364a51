import Derived.Test.YtndidbanbklonaaBg
/-
  A schedule in memory: the first time; taking the arrivals up to a time. No conditions beyond those that each names.
-/
namespace Go.Proofs.Ytndidbanbklonaa
open Go.RowKit Go.Sort Go.Lib Go.Shelf
theorem Sb.gb {p o m : Nat} {w w' : World} {V : Int → Value} {tv : Value} {T TM : List Int} {G : Int → List Ar} {n : Int} {q : Option Nat} (h : Sb p o w m V tv T TM G n) (hg : w.grownBy w' q) (hq : ∀ i, Fp p m V tv i → q ≠ some i) : Sb p o w' m V tv T TM G n :=
  h.blk hg.size fun i hi => hg.block i (h.fp_lt i hi) fun e => hq i hi e.symm
/-- The first number, or 0. -/
def hdI : List Int → Int
  | [] => 0
  | x :: _ => x
set_option maxRecDepth 100000 in
set_option maxHeartbeats 1000000 in
theorem first_any (p o : Nat) (w : World) (m : Nat) (V : Int → Value) (tv : Value) (Q : Sq) (n : Int) (h : Sb p o w m V tv Q.T Q.T Q.G n) (hl : Q.T.length ≤ 1000000) :
    Calls Try.prog 36 #[(.pointer (some ⟨p, o, none⟩))] w (Is (.tuple #[.int .i64 (hdI Q.T), .bool !Q.T.isEmpty]) w) := by
  have k1 := h.c1
  have pl := h.lt
  have hro := h.ro
  obtain ⟨A, c, rfl, -, -⟩ := hro
  cases hT : Q.T with
  | nil =>
    rw [hT] at k1
    clear h hT hl
    go_enter Try.func36, Try.ntmps36
    go_wp2_with fail
    go_ret2
    exact ⟨rfl, rfl⟩
  | cons t T =>
    rw [hT] at k1 hl
    have hro := h.ro
    rw [hT] at hro
    obtain ⟨-, -, g, oo, rfl, hg⟩ := hro.pos (by simp)
    have kt : w.cell? ⟨g, oo, none⟩ = some (.int .i64 t) := hro.cell 0 (Nat.succ_pos _)
    generalize hN : T.length = nT at *
    rw [List.length_cons, hN] at k1 hl
    have hn0 : decide ((0 : Int) < (nT : Int) + 1) = true := decide_eq_true (by omega)
    have hn1 : (((nT : Int) + 1) == 0) = false := by rw [beq_eq_false_iff_ne]; omega
    clear h hT hro hN
    go_enter Try.func36, Try.ntmps36
    go_wp2_with fail
    go_ret2
    exact ⟨rfl, rfl⟩
/-- What taking the arrivals up to a time leaves. -/
def TkP (p o m : Nat) (V : Int → Value) (tv : Value) (Q : Sq) (u : Int) (w : World) (e : Ending) (w' : World) : Prop := ∃ x l Q' V' tv', e = .returned x ∧ OwA w.heap.size w' x l ∧ Sb p o w' m V' tv' Q'.T Q'.T Q'.G (Q'.n : Int) ∧ Okq Q' ∧ Q.fl = l ++ Q'.fl ∧ (∀ a ∈ l, a.at_ ≤ u) ∧ (∀ a ∈ Q'.fl, u < a.at_) ∧ (∀ i, Fp p m V' tv' i → Fp p m V tv i) ∧ Fm (Fp p m V tv) w w' ∧ Oc p o w w'
/-- How the loop stands. -/
structure TkL (p o m : Nat) (V : Int → Value) (tv : Value) (Q : Sq) (u : Int) (w : World) (x : Value) (l : List Ar) (Q' : Sq) (V' : Int → Value) (tv' : Value) (w' : World) : Prop where
  ow : OwA w.heap.size w' x l
  sb : Sb p o w' m V' tv' Q'.T Q'.T Q'.G (Q.n : Int)
  ok : Okq Q'
  fl : Q.fl = l ++ Q'.fl
  le : ∀ a ∈ l, a.at_ ≤ u
  fp : ∀ i, Fp p m V' tv' i → Fp p m V tv i
  fm : Fm (Fp p m V tv) w w'
  oc : Oc p o w w'
  xp : x.ownBlock ≠ some p
theorem tk_end {p o m : Nat} {V : Int → Value} {tv : Value} {Q : Sq} {u : Int} {w : World} {x : Value} {l : List Ar} {Q' : Sq} {V' : Int → Value} {tv' : Value} {w' : World} {n : Int} (h : TkL p o m V tv Q u w x l Q' V' tv' w') (hg : ∀ a ∈ Q'.fl, u < a.at_) (hn : n = (Q'.n : Int)) :
    TkP p o m V tv Q u w (.returned x) (w'.setCell ⟨p, o + 2, none⟩ (.int .i64 n)) := by
  have gb := gb_set1 w' ⟨p, o + 2, none⟩ (.int .i64 n)
  have hpw : p < w.heap.size ∨ w.heap.size ≤ p := Nat.lt_or_ge _ _
  refine ⟨x, l, Q', V', tv', rfl, h.ow.kept gb (.inr fun e => h.xp e), by rw [← hn]; exact h.sb.cnt n, h.ok, h.fl, h.le, hg, h.fp, h.fm.trans (Fm.gb (s := Fp p m V tv) gb fun i e => by injection e with e; exact .inl e.symm) (fun i _ e => e), h.oc.trans (Oc.set _ _ _ _ _ (.inr (.inr rfl)))⟩
set_option maxRecDepth 100000 in
set_option maxHeartbeats 8000000 in
theorem take_any (p o : Nat) (w : World) (m : Nat) (V : Int → Value) (tv : Value) (Q : Sq) (u : Int) (h : Sb p o w m V tv Q.T Q.T Q.G (Q.n : Int)) (hok : Okq Q) (hn : Q.n ≤ 1000000) :
    Calls Try.prog 25 #[(.pointer (some ⟨p, o, none⟩)), .int .i64 u] w (TkP p o m V tv Q u w) := by
  have HH := Lib.hid h
  have HN := Lib.hid hn
  have hst : TkL p o m V tv Q u w (.slice none 0 0) [] Q V tv w := ⟨World.ownsRow_nil _ _ _ _, h, hok, rfl, fun a h => (by cases h), fun _ e => e, Fm.refl _ _, Oc.blk rfl, fun e => by cases e⟩
  have HST := Lib.hid hst
  obtain ⟨i, hi, hz, hs5, hby⟩ := info_parts infoA
  clear h hok hn hst
  go_enter Try.func25, Try.ntmps25
  go_wp2_with fail
  go_loopg [5] (Q.n) (fun kx s5 wr => ∃ (Ax : Option Addr) (nx dx : Nat) (l : List Ar) (Q' : Sq) (V' : Int → Value) (tv' : Value), s5 = .slice Ax nx dx ∧ Q'.T.length ≤ kx ∧ Hid (TkL p o m V tv Q u w (.slice Ax nx dx) l Q' V' tv' wr))
  case atStart => exact ⟨none, 0, 0, [], Q, V, tv, rfl, len_T HST.out.ok, HST⟩
  case round =>
    obtain ⟨Ax, nx, dx, l, Q', V', tv', rfl, hkx, I⟩ := hrel
    have k1 := I.out.sb.c1
    have k0 := I.out.sb.c0
    have pl := I.out.sb.lt
    have hro := I.out.sb.ro
    have hnx : l.length = nx := by obtain ⟨A0, c0, e, -⟩ := own_nil_or I.out.ow; injection e with _ e _; exact e.symm
    have HNX := Lib.hid hnx
    have hlf : l.length + Q'.n = Q.n := by rw [HST.out.ok.cnt, I.out.fl, I.out.ok.cnt, List.length_append]
    have HLF := Lib.hid hlf
    have hnx9 : nx ≤ 1000000 := by have := HN.out; omega
    cases hT : Q'.T with
    | nil =>
      rw [hT] at hro
      have k2 := I.out.sb.c2
      have f2 := I.out.sb.f2
      have hq9 : Q.n ≤ 1000000 := HN.out
      have hqn : nx ≤ Q.n := by omega
      obtain ⟨A, c, e, -, -⟩ := hro
      subst e
      have HT := Lib.hid hT
      have HE : Hid (TkP p o m V tv Q u w (.returned (.slice Ax nx dx)) (wr.setCell ⟨p, o + 2, none⟩ (.int .i64 ((Q.n : Int) - (nx : Int))))) := Lib.hid (tk_end I.out (fun a ha => by unfold Sq.fl at ha; rw [hT] at ha; cases ha) (by rw [← hlf, hnx]; omega))
      clear hT hnx hlf hkx
      have hwr : IntKind.i64.wrap ((Q.n : Int) - (nx : Int)) = (Q.n : Int) - (nx : Int) := by rw [IntKind.wrap_i64]; omega
      go_wp2_with fail
      go_ret
      exact HE.out
    | cons t T =>
      rw [hT] at hro hkx
      obtain ⟨A, cT, e, -, -⟩ := id hro
      subst e
      obtain ⟨nT, hN⟩ : ∃ nT, T.length = nT := ⟨_, rfl⟩
      obtain ⟨-, -, gt, ot, rfl, hgt⟩ := hro.pos (by simp)
      have kt : wr.cell? ⟨gt, ot, none⟩ = some (.int .i64 t) := hro.cell 0 (Nat.succ_pos _)
      have hcT : nT + 1 ≤ cT := by
        have := (hro.pos (by simp)).2.1
        rw [List.length_cons, hN] at this; exact this
      rw [List.length_cons, hN] at k1 hkx
      have hlen : (t :: T).length = nT + 1 := congrArg (· + 1) hN
      rw [hlen] at I hro
      clear hlen
      have HT := Lib.hid hT
      have HNT := Lib.hid hN
      have HRO := Lib.hid hro
      have hT9 : nT + 1 ≤ 1000000 := by
        have := len_T I.out.ok
        rw [hT, List.length_cons, hN] at this
        have := HN.out
        omega
      have hn0 : decide ((0 : Int) < (nT : Int) + 1) = true := decide_eq_true (by omega)
      have hn1 : decide (0 < nT + 1) = true := decide_eq_true (by omega)
      by_cases htu : t ≤ u
      · have d1 : decide (t ≤ u) = true := decide_eq_true htu
        have HTU := Lib.hid htu
        obtain ⟨Av, dv, hv, hA⟩ := own_nil_or (I.out.sb.ow t)
        obtain ⟨k, hk⟩ : ∃ k, (Q'.G t).length = k := ⟨_, rfl⟩
        rw [hk] at hv hA
        have hk0 : 0 < k := by
          rw [← hk]
          exact List.length_pos_iff.2 ((I.out.ok.mem t).1 (by rw [hT]; exact List.mem_cons_self ..))
        have hk9 : nx + k ≤ 1000000 := by
          have h1 := len_G I.out.ok t
          have := HN.out
          omega
        obtain ⟨gv, rfl, hgv⟩ : ∃ gv, Av = some ⟨gv, 0, none⟩ ∧ gv < wr.heap.size := by
          rcases hA with ⟨-, -, h0⟩ | ⟨gv, h1, -, h2, -⟩
          · omega
          · exact ⟨gv, h1, h2⟩
        have HV := Lib.hid hv
        have HK := Lib.hid hk
        have hI : I64 t := by
          obtain ⟨D, -, -, -, -, -, h6⟩ := I.out.sb.mi
          exact h6 t (by rw [hT]; exact List.mem_cons_self ..)
        have HI := Lib.hid hI
        have hLk : ∀ W, Below wr.heap.size wr W → (Instr.lookup 58 (.map (some m)) (.int .i64 t) false).run Try.prog W = .ok (.slice (some ⟨gv, 0, none⟩) k dv) W := fun W hb => by
          have := (I.out.sb.mi.next hb).look hI
          rw [hv] at this; exact this
        clear hT hN hro hlf hnx htu hv hk hI
        go_upto_region 3 with (fail)
        refine wp_region_seqN (by kernel_rfl) (FF [(0, Fact.at_ wr (.pointer (some ⟨p, o, none⟩))), (5, Fact.at_ wr (.slice Ax nx dx)), (22, Fact.at_ wr (.slice Ax nx dx)), (23, Fact.at_ wr (.pointer (some ⟨p, o, none⟩))), (24, Fact.at_ wr (.pointer (some ⟨p, o, none⟩))), (25, Fact.at_ wr (.pointer (some ⟨p, o, none⟩))), (26, Fact.at_ wr (.map (some m))), (27, Fact.at_ wr (.pointer (some ⟨p, o, none⟩))), (28, Fact.at_ wr (.pointer (some ⟨p, o, none⟩))), (29, Fact.at_ wr (.pointer (some ⟨p, o + 1, none⟩))), (30, Fact.at_ wr (.slice (some ⟨gt, ot, none⟩) (nT + 1) cT)), (31, Fact.at_ wr (.pointer (some ⟨gt, ot, none⟩))), (32, Fact.at_ wr (.int .i64 t)), (33, Fact.at_ wr (.slice (some ⟨gv, 0, none⟩) k dv))]) [0, 5] [] 63 12 [22, 23, 24, 25, 26, 27, 28, 29, 30, 31, 32, 33] rfl (by kernel_rfl) (by kernel_rfl) (by decide) (by kernel_rfl) (by kernel_rfl) ?_ ?_ ?_
        · intro t9 ht9
          simp only [List.mem_cons, List.not_mem_nil, or_false] at ht9
          rcases ht9 with rfl | rfl
          · exact ⟨rfl, Below.refl _ _⟩
          · exact ⟨rfl, Below.refl _ _⟩
        · refine fcs ⟨Ob.new_ (atcopy 5 22 (.slice Ax nx dx) (.inl rfl) rfl (by first | exact .inl rfl | exact .inr ⟨_, _, _, rfl, rfl, by kernel_rfl, by decide, rfl⟩) (by kernel_rfl) rfl rfl) (by kernel_rfl), ?_⟩
          refine fcs ⟨Ob.new_ (atcopy 0 23 (.pointer (some ⟨p, o, none⟩)) (.inl rfl) rfl (by first | exact .inl rfl | exact .inr ⟨_, _, _, rfl, rfl, by kernel_rfl, by decide, rfl⟩) (by kernel_rfl) rfl rfl) (by kernel_rfl), ?_⟩
          refine fcs ⟨Ob.new_ (at1 23 24 (.pointer (some ⟨p, o, none⟩)) (.pointer (some ⟨p, o, none⟩)) rfl (by first | exact .inl rfl | exact .inr ⟨_, _, _, rfl, rfl, by kernel_rfl, by decide, rfl⟩) (by kernel_rfl) rfl rfl (fun a9 W9 hb9 h9 => by simp [execOp, h9] <;> go_simp)) (by kernel_rfl), ?_⟩
          refine fcs ⟨Ob.new_ (at1 24 25 (.pointer (some ⟨p, o, none⟩)) (.pointer (some ⟨p, o, none⟩)) rfl (by first | exact .inl rfl | exact .inr ⟨_, _, _, rfl, rfl, by kernel_rfl, by decide, rfl⟩) (by kernel_rfl) rfl rfl (fun a9 W9 hb9 h9 => by simp [execOp, h9] <;> go_simp)) (by kernel_rfl), ?_⟩
          refine fcs ⟨Ob.new_ (at1 25 26 (.pointer (some ⟨p, o, none⟩)) (.map (some m)) rfl (by first | exact .inl rfl | exact .inr ⟨_, _, _, rfl, rfl, by kernel_rfl, by decide, rfl⟩) (by kernel_rfl) rfl rfl (fun a9 W9 hb9 h9 => by have g0 := cell_next hb9 k0; simp [execOp, h9] <;> go_simp)) (by kernel_rfl), ?_⟩
          refine fcs ⟨Ob.new_ (atcopy 0 27 (.pointer (some ⟨p, o, none⟩)) (.inl rfl) rfl (by first | exact .inl rfl | exact .inr ⟨_, _, _, rfl, rfl, by kernel_rfl, by decide, rfl⟩) (by kernel_rfl) rfl rfl) (by kernel_rfl), ?_⟩
          refine fcs ⟨Ob.new_ (at1 27 28 (.pointer (some ⟨p, o, none⟩)) (.pointer (some ⟨p, o, none⟩)) rfl (by first | exact .inl rfl | exact .inr ⟨_, _, _, rfl, rfl, by kernel_rfl, by decide, rfl⟩) (by kernel_rfl) rfl rfl (fun a9 W9 hb9 h9 => by simp [execOp, h9] <;> go_simp)) (by kernel_rfl), ?_⟩
          refine fcs ⟨Ob.new_ (at1 28 29 (.pointer (some ⟨p, o, none⟩)) (.pointer (some ⟨p, o + 1, none⟩)) rfl (by first | exact .inl rfl | exact .inr ⟨_, _, _, rfl, rfl, by kernel_rfl, by decide, rfl⟩) (by kernel_rfl) rfl rfl (fun a9 W9 hb9 h9 => by simp [execOp, h9] <;> go_simp)) (by kernel_rfl), ?_⟩
          refine fcs ⟨Ob.new_ (at1 29 30 (.pointer (some ⟨p, o + 1, none⟩)) (.slice (some ⟨gt, ot, none⟩) (nT + 1) cT) rfl (by first | exact .inl rfl | exact .inr ⟨_, _, _, rfl, rfl, by kernel_rfl, by decide, rfl⟩) (by kernel_rfl) rfl rfl (fun a9 W9 hb9 h9 => by have g0 := cell_next hb9 k1; simp [execOp, h9] <;> go_simp)) (by kernel_rfl), ?_⟩
          refine fcs ⟨Ob.new_ (at1 30 31 (.slice (some ⟨gt, ot, none⟩) (nT + 1) cT) (.pointer (some ⟨gt, ot, none⟩)) rfl (by first | exact .inl rfl | exact .inr ⟨_, _, _, rfl, rfl, by kernel_rfl, by decide, rfl⟩) (by kernel_rfl) rfl rfl (fun a9 W9 hb9 h9 => by simp [execOp, h9] <;> go_simp)) (by kernel_rfl), ?_⟩
          refine fcs ⟨Ob.new_ (at1 31 32 (.pointer (some ⟨gt, ot, none⟩)) (.int .i64 t) rfl (by first | exact .inl rfl | exact .inr ⟨_, _, _, rfl, rfl, by kernel_rfl, by decide, rfl⟩) (by kernel_rfl) rfl rfl (fun a9 W9 hb9 h9 => by have g0 := cell_next hb9 kt; simp [execOp, h9] <;> go_simp)) (by kernel_rfl), ?_⟩
          refine fcs ⟨Ob.new_ (at2 26 32 33 (.map (some m)) (.int .i64 t) (.slice (some ⟨gv, 0, none⟩) k dv) rfl (by first | exact .inl rfl | exact .inr ⟨_, _, _, rfl, rfl, by kernel_rfl, by decide, rfl⟩) (by kernel_rfl) (by kernel_rfl) rfl rfl rfl (fun a9 W9 hb9 h9 h8 => by have g0 := hLk W9 hb9; simp [execOp, h9, h8, g0] <;> go_simp)) (by kernel_rfl), ?_⟩
          exact fnl
        intro vv wv hvv hbv _ _
        have hv22 : vv 22 = (.slice Ax nx dx) := (hvv 22 (by decide)).1
        have hv23 : vv 23 = (.pointer (some ⟨p, o, none⟩)) := (hvv 23 (by decide)).1
        have hv24 : vv 24 = (.pointer (some ⟨p, o, none⟩)) := (hvv 24 (by decide)).1
        have hv25 : vv 25 = (.pointer (some ⟨p, o, none⟩)) := (hvv 25 (by decide)).1
        have hv26 : vv 26 = (.map (some m)) := (hvv 26 (by decide)).1
        have hv27 : vv 27 = (.pointer (some ⟨p, o, none⟩)) := (hvv 27 (by decide)).1
        have hv28 : vv 28 = (.pointer (some ⟨p, o, none⟩)) := (hvv 28 (by decide)).1
        have hv29 : vv 29 = (.pointer (some ⟨p, o + 1, none⟩)) := (hvv 29 (by decide)).1
        have hv30 : vv 30 = (.slice (some ⟨gt, ot, none⟩) (nT + 1) cT) := (hvv 30 (by decide)).1
        have hv31 : vv 31 = (.pointer (some ⟨gt, ot, none⟩)) := (hvv 31 (by decide)).1
        have hv32 : vv 32 = (.int .i64 t) := (hvv 32 (by decide)).1
        have hv33 : vv 33 = (.slice (some ⟨gv, 0, none⟩) k dv) := (hvv 33 (by decide)).1
        simp only [lay, List.foldl_cons, List.foldl_nil, List.setIfInBounds_toArray, List.set_cons_succ, List.set_cons_zero, hv22, hv23, hv24, hv25, hv26, hv27, hv28, hv29, hv30, hv31, hv32, hv33, List.drop_succ_cons, List.drop_zero]
        clear hvv
        have ow1 := own_next I.out.ow hbv
        have AP : ∃ v' w', (Builtin.append_ #[28, 28] 28 #[.slice Ax nx dx, .slice (some ⟨gv, 0, none⟩) k dv]).run Try.prog wv = .ok v' w' ∧ OwA w.heap.size w' v' (l ++ Q'.G t) ∧ wv.grownBy w' (Value.slice Ax nx dx).ownBlock := by
          have hsrc := own_next (I.out.sb.ow t) hbv
          rw [HV.out] at hsrc
          obtain ⟨v', w', e1, e2, e3, -, -⟩ := run_append_own_at (P := Try.prog) wv w.heap.size 28 28 34 i _ 5 48 Try.underlying28 hi hz hs5 hby rfl (by omega) (.slice Ax nx dx) nx (tc e5 l) (by rw [HNX.out] at ow1; exact ow1) ⟨gv, 0, none⟩ k dv (tc e5 (Q'.G t)) (by rw [tc_len e5_len, HK.out])
            (fun j u hj => hsrc.cells (g := gv) rfl j u hj) (tc_one' e5_one _) (by unfold maxLen; omega) (by omega) (Nat.le_trans I.out.fm.size hbv.size)
          refine ⟨v', w', e1, ?_, e3⟩
          unfold OwA
          rw [tc_app, List.length_append, HNX.out, HK.out]
          exact e2
        obtain ⟨v', w3, hAP, hO3, hG3⟩ := AP
        obtain ⟨Ay, dy, e, -⟩ := own_nil_or hO3
        obtain ⟨ny, hny⟩ : ∃ ny, (l ++ Q'.G t).length = ny := ⟨_, rfl⟩
        rw [hny] at e
        subst e
        have hlow : ∀ i, Fp p m V' (.slice (some ⟨gt, ot, none⟩) (nT + 1) cT) i → i < w.heap.size := fun i hi => HH.out.fp_lt i (I.out.fp i hi)
        have hxo : ∀ i, (Value.slice Ax nx dx).ownBlock = some i → w.heap.size ≤ i := fun i e => (I.out.ow.lt i e).1
        have SB3 : Sb p o w3 m V' (.slice (some ⟨gt, ot, none⟩) (nT + 1) cT) Q'.T Q'.T Q'.G (Q.n : Int) := by
          have h1 := I.out.sb.next hbv
          exact h1.gb hG3 fun i hi e => by have := hlow i hi; have := hxo i e; omega
        have HF3 : Hid (Fm (Fp p m V tv) w w3) := Lib.hid ⟨(hG3.os.trans hbv.os).trans I.out.fm.os, (hG3.tape.trans hbv.tape).trans I.out.fm.tape, (hG3.output.trans hbv.output).trans I.out.fm.output, Nat.le_trans (Nat.le_trans I.out.fm.size hbv.size) hG3.size, fun i hi hni => ((hG3.block i (Nat.lt_of_lt_of_le hi (Nat.le_trans I.out.fm.size hbv.size)) fun e => by have := hxo i e.symm; omega).trans (hbv.block i (Nat.lt_of_lt_of_le hi I.out.fm.size))).trans (I.out.fm.blk i hi hni)⟩
        have hpb : w3.heap[p]? = wr.heap[p]? := (hG3.block p (Nat.lt_of_lt_of_le pl hbv.size) fun e => by have := hxo p e.symm; have := hlow p (.inl rfl); omega).trans (hbv.block p pl)
        have HO3 : Hid (Oc p o w w3) := Lib.hid (I.out.oc.trans (Oc.blk hpb))
        have HSB3 := Lib.hid SB3
        have HOW3 := Lib.hid hO3
        have q0 := SB3.c0
        have q1 := SB3.c1
        have qt : w3.cell? ⟨gt, ot, none⟩ = some (.int .i64 t) := by
          have := SB3.ro
          rw [HT.out] at this
          exact this.cell 0 (Nat.succ_pos _)
        have ql := SB3.lt
        have qgt := blk_lt qt
        clear hLk k0 k1 kt pl SB3 hO3 hG3 hpb hlow hxo ow1 hbv hgt hgv
        have hAP2 := hAP
        clear hAP
        go_wp2_with (at_builtin; refine Lib.wpList_append_run _ rfl _ _ _ _ rfl _ _ rfl rfl _ _ hAP2 ?_)
        go_upto_region 4 with (fail)
        have k0 := q0
        have k1 := q1
        have kt := qt
        refine wp_region_seqN (by kernel_rfl) (FF [(0, Fact.at_ w3 (.pointer (some ⟨p, o, none⟩))), (35, Fact.at_ w3 (.pointer (some ⟨p, o, none⟩))), (36, Fact.at_ w3 (.pointer (some ⟨p, o, none⟩))), (37, Fact.at_ w3 (.pointer (some ⟨p, o, none⟩))), (38, Fact.at_ w3 (.map (some m))), (39, Fact.at_ w3 (.pointer (some ⟨p, o, none⟩))), (40, Fact.at_ w3 (.pointer (some ⟨p, o, none⟩))), (41, Fact.at_ w3 (.pointer (some ⟨p, o + 1, none⟩))), (42, Fact.at_ w3 (.slice (some ⟨gt, ot, none⟩) (nT + 1) cT)), (43, Fact.at_ w3 (.pointer (some ⟨gt, ot, none⟩))), (44, Fact.at_ w3 (.int .i64 t))]) [0] [] 63 10 [35, 36, 37, 38, 39, 40, 41, 42, 43, 44] rfl (by kernel_rfl) (by kernel_rfl) (by decide) (by kernel_rfl) (by kernel_rfl) ?_ ?_ ?_
        · intro t9 ht9
          simp only [List.mem_cons, List.not_mem_nil, or_false] at ht9
          rcases ht9 with rfl
          · exact ⟨rfl, Below.refl _ _⟩
        · refine fcs ⟨Ob.new_ (atcopy 0 35 (.pointer (some ⟨p, o, none⟩)) (.inl rfl) rfl (by first | exact .inl rfl | exact .inr ⟨_, _, _, rfl, rfl, by kernel_rfl, by decide, rfl⟩) (by kernel_rfl) rfl rfl) (by kernel_rfl), ?_⟩
          refine fcs ⟨Ob.new_ (at1 35 36 (.pointer (some ⟨p, o, none⟩)) (.pointer (some ⟨p, o, none⟩)) rfl (by first | exact .inl rfl | exact .inr ⟨_, _, _, rfl, rfl, by kernel_rfl, by decide, rfl⟩) (by kernel_rfl) rfl rfl (fun a9 W9 hb9 h9 => by simp [execOp, h9] <;> go_simp)) (by kernel_rfl), ?_⟩
          refine fcs ⟨Ob.new_ (at1 36 37 (.pointer (some ⟨p, o, none⟩)) (.pointer (some ⟨p, o, none⟩)) rfl (by first | exact .inl rfl | exact .inr ⟨_, _, _, rfl, rfl, by kernel_rfl, by decide, rfl⟩) (by kernel_rfl) rfl rfl (fun a9 W9 hb9 h9 => by simp [execOp, h9] <;> go_simp)) (by kernel_rfl), ?_⟩
          refine fcs ⟨Ob.new_ (at1 37 38 (.pointer (some ⟨p, o, none⟩)) (.map (some m)) rfl (by first | exact .inl rfl | exact .inr ⟨_, _, _, rfl, rfl, by kernel_rfl, by decide, rfl⟩) (by kernel_rfl) rfl rfl (fun a9 W9 hb9 h9 => by have g0 := cell_next hb9 k0; simp [execOp, h9] <;> go_simp)) (by kernel_rfl), ?_⟩
          refine fcs ⟨Ob.new_ (atcopy 0 39 (.pointer (some ⟨p, o, none⟩)) (.inl rfl) rfl (by first | exact .inl rfl | exact .inr ⟨_, _, _, rfl, rfl, by kernel_rfl, by decide, rfl⟩) (by kernel_rfl) rfl rfl) (by kernel_rfl), ?_⟩
          refine fcs ⟨Ob.new_ (at1 39 40 (.pointer (some ⟨p, o, none⟩)) (.pointer (some ⟨p, o, none⟩)) rfl (by first | exact .inl rfl | exact .inr ⟨_, _, _, rfl, rfl, by kernel_rfl, by decide, rfl⟩) (by kernel_rfl) rfl rfl (fun a9 W9 hb9 h9 => by simp [execOp, h9] <;> go_simp)) (by kernel_rfl), ?_⟩
          refine fcs ⟨Ob.new_ (at1 40 41 (.pointer (some ⟨p, o, none⟩)) (.pointer (some ⟨p, o + 1, none⟩)) rfl (by first | exact .inl rfl | exact .inr ⟨_, _, _, rfl, rfl, by kernel_rfl, by decide, rfl⟩) (by kernel_rfl) rfl rfl (fun a9 W9 hb9 h9 => by simp [execOp, h9] <;> go_simp)) (by kernel_rfl), ?_⟩
          refine fcs ⟨Ob.new_ (at1 41 42 (.pointer (some ⟨p, o + 1, none⟩)) (.slice (some ⟨gt, ot, none⟩) (nT + 1) cT) rfl (by first | exact .inl rfl | exact .inr ⟨_, _, _, rfl, rfl, by kernel_rfl, by decide, rfl⟩) (by kernel_rfl) rfl rfl (fun a9 W9 hb9 h9 => by have g0 := cell_next hb9 k1; simp [execOp, h9] <;> go_simp)) (by kernel_rfl), ?_⟩
          refine fcs ⟨Ob.new_ (at1 42 43 (.slice (some ⟨gt, ot, none⟩) (nT + 1) cT) (.pointer (some ⟨gt, ot, none⟩)) rfl (by first | exact .inl rfl | exact .inr ⟨_, _, _, rfl, rfl, by kernel_rfl, by decide, rfl⟩) (by kernel_rfl) rfl rfl (fun a9 W9 hb9 h9 => by simp [execOp, h9] <;> go_simp)) (by kernel_rfl), ?_⟩
          refine fcs ⟨Ob.new_ (at1 43 44 (.pointer (some ⟨gt, ot, none⟩)) (.int .i64 t) rfl (by first | exact .inl rfl | exact .inr ⟨_, _, _, rfl, rfl, by kernel_rfl, by decide, rfl⟩) (by kernel_rfl) rfl rfl (fun a9 W9 hb9 h9 => by have g0 := cell_next hb9 kt; simp [execOp, h9] <;> go_simp)) (by kernel_rfl), ?_⟩
          exact fnl
        intro vv wv hvv hbv _ _
        have hv35 : vv 35 = (.pointer (some ⟨p, o, none⟩)) := (hvv 35 (by decide)).1
        have hv36 : vv 36 = (.pointer (some ⟨p, o, none⟩)) := (hvv 36 (by decide)).1
        have hv37 : vv 37 = (.pointer (some ⟨p, o, none⟩)) := (hvv 37 (by decide)).1
        have hv38 : vv 38 = (.map (some m)) := (hvv 38 (by decide)).1
        have hv39 : vv 39 = (.pointer (some ⟨p, o, none⟩)) := (hvv 39 (by decide)).1
        have hv40 : vv 40 = (.pointer (some ⟨p, o, none⟩)) := (hvv 40 (by decide)).1
        have hv41 : vv 41 = (.pointer (some ⟨p, o + 1, none⟩)) := (hvv 41 (by decide)).1
        have hv42 : vv 42 = (.slice (some ⟨gt, ot, none⟩) (nT + 1) cT) := (hvv 42 (by decide)).1
        have hv43 : vv 43 = (.pointer (some ⟨gt, ot, none⟩)) := (hvv 43 (by decide)).1
        have hv44 : vv 44 = (.int .i64 t) := (hvv 44 (by decide)).1
        simp only [lay, List.foldl_cons, List.foldl_nil, List.setIfInBounds_toArray, List.set_cons_succ, List.set_cons_zero, hv35, hv36, hv37, hv38, hv39, hv40, hv41, hv42, hv43, hv44, List.drop_succ_cons, List.drop_zero]
        clear hvv q0 q1 qt
        have SB4 := HSB3.out.next hbv
        have hM4 := SB4.mi
        rw [HT.out] at hM4
        obtain ⟨w5, hD, hM5, hG5⟩ := hM4.drop (by
          have := I.out.ok.asc
          rw [HT.out] at this
          intro e
          have := (List.pairwise_cons.1 this).1 t e
          omega) 0
        have SB5 := SB4.drop hM5 hG5
        by_cases hc1 : cT = 1
        · subst hc1
          obtain rfl : nT = 0 := by omega
          have SB6 := SB5.row (w' := w5) (tv' := .slice (some ⟨gt, ot, none⟩) 0 0) (T' := T) (World.grownBy.refl _ _) (by
            have := SB5.ro
            rw [HT.out] at this
            have := this.tail
            rw [HNT.out] at this
            simpa using this) (.inl rfl) (fun g e => by injection e with e; rw [← e]; exact SB5.tl gt rfl)
          have HL : Hid (TkL p o m V tv Q u w (.slice Ay ny dy) (l ++ Q'.G t) (Q'.pop t T) (fun x => if x = t then .slice none 0 0 else V' x) (.slice (some ⟨gt, ot, none⟩) 0 0) (w5.setCell ⟨p, o + 1, none⟩ (.slice (some ⟨gt, ot, none⟩) 0 0))) := Lib.hid (by
            have hpop := I.out.ok.pop HT.out
            have gb := gb_set1 w5 ⟨p, o + 1, none⟩ (.slice (some ⟨gt, ot, none⟩) 0 0)
            have hxm : (Value.slice Ay ny dy).ownBlock ≠ some m := fun e => by have := (HOW3.out.lt m e).1; have := HH.out.mi.lt; omega
            have hxp : (Value.slice Ay ny dy).ownBlock ≠ some p := fun e => by have := (HOW3.out.lt p e).1; have := HH.out.lt; omega
            refine ⟨((own_next HOW3.out hbv).kept hG5 (.inr hxm)).kept gb (.inr hxp), SB6, hpop.1, ?_, ?_, ?_, ?_, ?_, hxp⟩
            · rw [I.out.fl, hpop.2, List.append_assoc]
            · intro b hb
              rcases List.mem_append.1 hb with hb | hb
              · exact I.out.le b hb
              · rw [I.out.ok.at_ t b hb]; exact HTU.out
            · intro j hj
              have hj' : Fp p m (fun x => if x = t then .slice none 0 0 else V' x) (.slice (some ⟨gt, ot, none⟩) (0 + 1) 1) j := by
                rcases hj with h | h | h | h
                · exact .inl h
                · exact .inr (.inl h)
                · exact .inr (.inr (.inl h))
                · exact .inr (.inr (.inr h))
              rcases FpN.drop (w := w) j hj' with h | h
              · exact I.out.fp j h
              · have hlt : j < w.heap.size := by
                  rcases hj' with h | h | h | ⟨x, h⟩
                  · exact HH.out.fp_lt j (I.out.fp j (.inl h))
                  · exact HH.out.fp_lt j (I.out.fp j (.inr (.inl h)))
                  · exact HH.out.fp_lt j (I.out.fp j (.inr (.inr (.inl h))))
                  · by_cases hx : x = t
                    · simp only [if_pos hx] at h; cases h
                    · simp only [if_neg hx] at h; exact HH.out.fp_lt j (I.out.fp j (.inr (.inr (.inr ⟨x, h⟩))))
                omega
            · exact (((HF3.out.trans (Fm.of (Fp p m V tv) hbv) (fun i _ e => e)).trans (Fm.gb (s := Fp p m V tv) hG5 fun i e => by injection e with e; exact .inr (.inl e.symm)) (fun i _ e => e)).trans (Fm.gb (s := Fp p m V tv) gb fun i e => by injection e with e; exact .inl e.symm) (fun i _ e => e))
            · exact ((HO3.out.trans (Oc.blk (hbv.block p ql))).trans (Oc.blk (hG5.block p (Nat.lt_of_lt_of_le ql hbv.size) fun e => SB4.mp (by injection e with e; exact e.symm)))).trans (Oc.set _ _ _ _ _ (.inr (.inl rfl))))
          have q1 := SB5.c1
          have qf := SB5.f1
          have pl := SB5.lt
          clear SB6 SB5 SB4 hM4 hM5 hG5 hbv k0 k1 kt ql qgt hAP2
          go_wp2_with fail
          go_roundg 0
          case measure => omega
          case rel => exact ⟨Ay, ny, dy, l ++ Q'.G t, Q'.pop t T, _, _, rfl, by show T.length ≤ 0; rw [HNT.out]; exact Nat.le_refl _, HL⟩
        · have hc2 : 1 ≤ cT := by omega
          have SB6 := SB5.row (w' := w5) (tv' := .slice (some ⟨gt, ot + 1, none⟩) nT (cT - 1)) (T' := T) (World.grownBy.refl _ _) (by
            have := SB5.ro
            rw [HT.out] at this
            have := this.tail
            rw [HNT.out] at this
            rw [if_neg hc1] at this; exact this) (.inl rfl) (fun g e => by injection e with e; rw [← e]; exact SB5.tl gt rfl)
          have HL : Hid (TkL p o m V tv Q u w (.slice Ay ny dy) (l ++ Q'.G t) (Q'.pop t T) (fun x => if x = t then .slice none 0 0 else V' x) (.slice (some ⟨gt, ot + 1, none⟩) nT (cT - 1)) (w5.setCell ⟨p, o + 1, none⟩ (.slice (some ⟨gt, ot + 1, none⟩) nT (cT - 1)))) := Lib.hid (by
            have hpop := I.out.ok.pop HT.out
            have gb := gb_set1 w5 ⟨p, o + 1, none⟩ (.slice (some ⟨gt, ot + 1, none⟩) nT (cT - 1))
            have hxm : (Value.slice Ay ny dy).ownBlock ≠ some m := fun e => by have := (HOW3.out.lt m e).1; have := HH.out.mi.lt; omega
            have hxp : (Value.slice Ay ny dy).ownBlock ≠ some p := fun e => by have := (HOW3.out.lt p e).1; have := HH.out.lt; omega
            refine ⟨((own_next HOW3.out hbv).kept hG5 (.inr hxm)).kept gb (.inr hxp), SB6, hpop.1, ?_, ?_, ?_, ?_, ?_, hxp⟩
            · rw [I.out.fl, hpop.2, List.append_assoc]
            · intro b hb
              rcases List.mem_append.1 hb with hb | hb
              · exact I.out.le b hb
              · rw [I.out.ok.at_ t b hb]; exact HTU.out
            · intro j hj
              have hj' : Fp p m (fun x => if x = t then .slice none 0 0 else V' x) (.slice (some ⟨gt, ot, none⟩) (nT + 1) cT) j := by
                rcases hj with h | h | h | h
                · exact .inl h
                · exact .inr (.inl h)
                · exact .inr (.inr (.inl h))
                · exact .inr (.inr (.inr h))
              rcases FpN.drop (w := w) j hj' with h | h
              · exact I.out.fp j h
              · have hlt : j < w.heap.size := by
                  rcases hj' with h | h | h | ⟨x, h⟩
                  · exact HH.out.fp_lt j (I.out.fp j (.inl h))
                  · exact HH.out.fp_lt j (I.out.fp j (.inr (.inl h)))
                  · exact HH.out.fp_lt j (I.out.fp j (.inr (.inr (.inl h))))
                  · by_cases hx : x = t
                    · simp only [if_pos hx] at h; cases h
                    · simp only [if_neg hx] at h; exact HH.out.fp_lt j (I.out.fp j (.inr (.inr (.inr ⟨x, h⟩))))
                omega
            · exact (((HF3.out.trans (Fm.of (Fp p m V tv) hbv) (fun i _ e => e)).trans (Fm.gb (s := Fp p m V tv) hG5 fun i e => by injection e with e; exact .inr (.inl e.symm)) (fun i _ e => e)).trans (Fm.gb (s := Fp p m V tv) gb fun i e => by injection e with e; exact .inl e.symm) (fun i _ e => e))
            · exact ((HO3.out.trans (Oc.blk (hbv.block p ql))).trans (Oc.blk (hG5.block p (Nat.lt_of_lt_of_le ql hbv.size) fun e => SB4.mp (by injection e with e; exact e.symm)))).trans (Oc.set _ _ _ _ _ (.inr (.inl rfl))))
          have q1 := SB5.c1
          have qf := SB5.f1
          have pl := SB5.lt
          clear SB6 SB5 SB4 hM4 hM5 hG5 hbv k0 k1 kt ql qgt hAP2
          go_wp2_with fail
          go_roundg nT
          case measure => omega
          case rel => exact ⟨Ay, ny, dy, l ++ Q'.G t, Q'.pop t T, _, _, rfl, by show T.length ≤ nT; rw [HNT.out]; exact Nat.le_refl _, HL⟩
      · have d1 : decide (t ≤ u) = false := decide_eq_false htu
        have k2 := I.out.sb.c2
        have f2 := I.out.sb.f2
        have hq9 : Q.n ≤ 1000000 := HN.out
        have hqn : nx ≤ Q.n := by omega
        have HE : Hid (TkP p o m V tv Q u w (.returned (.slice Ax nx dx)) (wr.setCell ⟨p, o + 2, none⟩ (.int .i64 ((Q.n : Int) - (nx : Int))))) := Lib.hid (tk_end I.out (fun a ha => by
          have h1 := fm_mem I.out.ok ha
          have h2 := I.out.ok.asc
          rw [HT.out] at h1 h2
          rcases List.mem_cons.1 h1 with e | e
          · omega
          · have := (List.pairwise_cons.1 h2).1 _ e; omega) (by rw [← hlf, hnx]; omega))
        have hwr : IntKind.i64.wrap ((Q.n : Int) - (nx : Int)) = (Q.n : Int) - (nx : Int) := by rw [IntKind.wrap_i64]; omega
        clear hT hnx hlf hkx htu hro hN
        go_wp2_with fail
        go_ret
        exact HE.out
end Go.Proofs.Ytndidbanbklonaa

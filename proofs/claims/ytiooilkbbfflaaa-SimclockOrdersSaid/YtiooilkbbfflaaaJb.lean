import Derived.Test.YtiooilkbbfflaaaJa
/-
  The law that advancing in two steps is advancing in one. No conditions beyond those that each names.
-/
namespace Go.Proofs.Ytiooilkbbfflaaa
open Go.RowKit Go.Sort Go.Lib Go.Shelf
theorem adS_ok {S : Cs} {u : Nat} {r : List (Nat × Nat) × List Tm} (h1 : S.now ≤ u) (h2 : u ≤ 1099511627776) (h : fr u 4096 [] S.l = some r) : adS S (u : Int) = (⟨u, S.last, r.2⟩, r.1, 0) := by
  unfold adS ahd
  rw [decide_eq_true (by omega), if_pos rfl, Int.toNat_natCast, h]
theorem fr_cnt {u : Nat} : ∀ {f : Nat} {acc : List (Nat × Nat)} {l : List Tm} {r : List (Nat × Nat) × List Tm}, fr u f acc l = some r → r.1.length ≤ acc.length + f
  | f, acc, [], r, e => by rw [fr_nil] at e; injection e with e; subst e; exact Nat.le_add_right _ _
  | f, acc, x :: l, r, e => by
    by_cases hx : u < x.at_
    · rw [fr_stop hx] at e; injection e with e; subst e; exact Nat.le_add_right _ _
    · cases f with
      | zero => rw [fr_long (by omega)] at e; cases e
      | succ f =>
        rw [fr_step (by omega)] at e
        have := fr_cnt e
        rw [List.length_append] at this
        simp only [List.length_cons, List.length_nil] at this
        omega
theorem own_low {B : Nat} {w w' : World} {x : Value} {l : List (Nat × Nat)} (h : OwF B w x l) (hb : Below w.heap.size w w') : OwF B w' x l := own_next h hb
theorem adS_no {S : Cs} {u : Nat} (h1 : S.now ≤ u) (h2 : u ≤ 1099511627776) (h : fr u 4096 [] S.l = none) : adS S (u : Int) = (S, [], 3) := by
  unfold adS ahd
  rw [decide_eq_true (by omega), if_pos rfl, Int.toNat_natCast, h]
set_option maxRecDepth 100000 in
set_option maxHeartbeats 8000000 in
theorem splits_law (A : Option Addr) (n c0 : Nat) (q : Nat → Int × Int × Int) (mm uu : Int) (w : World) (hn : n ≤ 9223372036854775807) (hC : Cls w A n q) (bm1 : -9223372036854775808 ≤ mm) (bm2 : mm ≤ 9223372036854775807) (bu1 : -9223372036854775808 ≤ uu) (bu2 : uu ≤ 9223372036854775807) :
    Calls Try.prog 6 #[.slice A n c0, .int .i64 mm, .int .i64 uu] w (Ib (.bool true) w) := by
  by_cases h20 : 20 < n
  · have d1 : decide ((20 : Int) < (n : Int)) = true := decide_eq_true (by omega)
    have d2 : decide (20 < n) = true := decide_eq_true h20
    clear hC
    go_enter Try.func6, Try.ntmps6
    go_wp2_with (refine (awake_any _).mono ?_; rintro e w1 ⟨rfl, hb1⟩)
    go_ret
    exact ⟨rfl, hb1⟩
  have d1 : decide ((20 : Int) < (n : Int)) = false := decide_eq_false (by omega)
  have d2 : decide (20 < n) = false := decide_eq_false h20
  by_cases hm : mm < 0
  · have d3 : decide (mm < 0) = true := decide_eq_true hm
    clear hC
    go_enter Try.func6, Try.ntmps6
    go_wp2_with (refine (awake_any _).mono ?_; rintro e w1 ⟨rfl, hb1⟩)
    go_ret
    exact ⟨rfl, hb1⟩
  have d3 : decide (mm < 0) = false := decide_eq_false hm
  by_cases hu : uu < mm
  · have d4 : decide (uu < mm) = true := decide_eq_true hu
    clear hC
    go_enter Try.func6, Try.ntmps6
    go_wp2_with (refine (awake_any _).mono ?_; rintro e w1 ⟨rfl, hb1⟩)
    go_ret
    exact ⟨rfl, hb1⟩
  have d4 : decide (uu < mm) = false := decide_eq_false hu
  by_cases ht : 1048576 < uu
  · have d5 : decide (1048576 < uu) = true := decide_eq_true ht
    clear hC
    go_enter Try.func6, Try.ntmps6
    go_wp2_with (refine (awake_any _).mono ?_; rintro e w1 ⟨rfl, hb1⟩)
    go_ret
    exact ⟨rfl, hb1⟩
  have d5 : decide (1048576 < uu) = false := decide_eq_false ht
  obtain ⟨m, rfl⟩ : ∃ m : Nat, mm = (m : Int) := ⟨mm.toNat, (Int.toNat_of_nonneg (by omega)).symm⟩
  obtain ⟨u, rfl⟩ : ∃ u : Nat, uu = (u : Int) := ⟨uu.toNat, (Int.toNat_of_nonneg (by omega)).symm⟩
  have hmu : m ≤ u := by omega
  have hu2 : u ≤ 1048576 := by omega
  have d4' : decide (u < m) = false := decide_eq_false (by omega)
  have d5' : decide (1048576 < u) = false := decide_eq_false (by omega)
  have hn9 : n ≤ 20 := by omega
  obtain ⟨c, hc⟩ : ∃ c, w.heap.size = c := ⟨_, rfl⟩
  have HC := Lib.hid hc
  have HA := Lib.hid hC
  clear hC hc hn h20 hm hu ht bm1 bm2 bu1 bu2
  have hN := new_any w
  rw [HC.out] at hN
  have HMU := Lib.hid hmu
  have HU2 := Lib.hid hu2
  go_enter Try.func6, Try.ntmps6
  go_wp2_with (first
    | (go_at_call 10; refine (new_any w1).mono ?_; rintro e w2 ⟨rfl, K2, hb2⟩)
    | (go_at_call 10; refine hN.mono ?_; rintro e w1 ⟨rfl, K1, hb1⟩))
  have H2 : Hid (SpI c w1.heap.size w 0 (.slice none 0 0) (.slice none 0 0) ⟨0, 0, []⟩ w2) := Lib.hid ⟨⟨K1.next hb2, K2, fun e => by have := K1.lt; omega, (fun e => by cases e), (fun e => by cases e), fun g e => by cases e⟩, rfl, Nat.le_refl _, (Fm.of (fun i => c ≤ i) (by rw [← HC.out] at hb1; exact hb1)).tr (Fm.of _ hb2), Nat.le_of_lt K1.lt⟩
  generalize w1.heap.size = c' at *
  clear K1 K2 hb1 hb2 hN
  go_loopg [9] n (fun kx s9 wr => ∃ i va vb S, i ≤ n ∧ s9 = .int .i64 ((i : Nat) : Int) ∧ n - i ≤ kx ∧ Hid (SpI c c' w i va vb S wr))
  case atStart => exact ⟨0, .slice none 0 0, .slice none 0 0, ⟨0, 0, []⟩, Nat.zero_le _, rfl, by omega, H2⟩
  case round =>
    clear H2
    obtain ⟨i, va, vb, S, hi, rfl, hg, HF⟩ := hrel
    by_cases hlt : i < n
    · obtain ⟨ab, ao, rfl, hQ⟩ := HA.out.at_ HC.out hlt
      obtain ⟨q0, q1, q2, qb⟩ := hQ wr HF.out.fm
      have HLS : Hid (S.last < 999999) := Lib.hid (by have := HF.out.last; omega)
      have hin : (i : Int) < (n : Int) := by omega
      clear hQ
      generalize (q i).1 = x at *
      generalize (q i).2.1 = y at *
      generalize (q i).2.2 = z at *
      have hbx := ab1 wr (Obj.cells #[.int .i64 x, .int .i64 y, .int .i64 z] 32)
      have B0 := Bx.new3 wr 32 (.int .i64 x) (.int .i64 y) (.int .i64 z)
      have TW := HF.out.tw.next hbx
      have FX := Fm.of (fun i => c ≤ i) hbx
      have HNB : Hid (¬ (wr.heap.size = c ∨ va.ownBlock = some wr.heap.size)) := Lib.hid fun e => by
        rcases e with e | e
        · have := HF.out.tw.ka.lt; omega
        · have := (HF.out.tw.ka.sd.own.lt _ e).2; omega
      by_cases x0 : x = 0
      · have y0 : (x == 0) = true := by simpa using x0
        clear x0
        go_upto_region 8 with (fail)
        generalize wr.alloc (Obj.cells #[.int .i64 x, .int .i64 y, .int .i64 z] 32) = wx at *
        generalize wr.heap.size = bx at *
        have p0 := B0.c 0 rfl
        have p1 := B0.c 1 rfl
        have pl := B0.lt
        obtain ⟨R, hR⟩ : ∃ R, addS S y 0 = R := ⟨_, rfl⟩
        have HNOW : Hid (R.1.now = 0) := Lib.hid (by rw [← hR, addS_now]; exact HF.out.now)
        have HLST : Hid (R.1.last ≤ i + 1) := Lib.hid (by rw [← hR]; exact Nat.le_trans (addS_last S _) (Nat.succ_le_succ HF.out.last))
        have HR := Lib.hid hR
        clear hR
        go_wp2_with (first
          | (go_at_call 15; have cX := add_any c' _ S y _ Twa.kb HLS.out; rw [HR.out] at cX; refine cX.mono ?_; rintro e wb ⟨rfl, vwb, Kwb, Nwb, Fwb⟩; have Twb := Two.b Twa Kwb Nwb Fwb)
          | (go_at_call 15; have cX := add_any c _ S y _ TW.ka HLS.out; rw [HR.out] at cX; refine cX.mono ?_; rintro e wa ⟨rfl, vwa, Kwa, Nwa, Fwa⟩; have Twa := Two.a TW Kwa Nwa Fwa; have B1 := B0.blk Fwa.size (Fwa.blk bx B0.lt HNB.out); have r1 := B1.c 1 rfl; have r2 := B1.c 2 rfl; have rl := B1.lt))
        go_roundg (n - (i + 1))
        case measure => omega
        case rel => exact ⟨i + 1, vwa, vwb, R.1, by omega, rfl, Nat.le_refl _, Lib.hid ⟨Twb, HNOW.out, HLST.out, ((HF.out.fm.tr FX).tr (TW.ka.low Fwa (Nat.le_refl _))).tr (Twa.kb.low Fwb HF.out.le), HF.out.le⟩⟩
      · have z0 : (x == 0) = false := by simpa using x0
        clear x0
        by_cases x1 : x = 1
        · have y1 : (x == 1) = true := by simpa using x1
          clear x1
          go_upto_region 8 with (fail)
          generalize wr.alloc (Obj.cells #[.int .i64 x, .int .i64 y, .int .i64 z] 32) = wx at *
          generalize wr.heap.size = bx at *
          have p0 := B0.c 0 rfl
          have p1 := B0.c 1 rfl
          have p2 := B0.c 2 rfl
          have pl := B0.lt
          obtain ⟨R, hR⟩ : ∃ R, evS S y z = R := ⟨_, rfl⟩
          have HNOW : Hid (R.1.now = 0) := Lib.hid (by rw [← hR, evS_now]; exact HF.out.now)
          have HLST : Hid (R.1.last ≤ i + 1) := Lib.hid (by rw [← hR]; exact Nat.le_trans (evS_last S _ _) (Nat.succ_le_succ HF.out.last))
          have HR := Lib.hid hR
          clear hR
          go_wp2_with (first
            | (go_at_call 18; have cX := every_any c' _ S y z _ Twa.kb HLS.out; rw [HR.out] at cX; refine cX.mono ?_; rintro e wb ⟨rfl, vwb, Kwb, Nwb, Fwb⟩; have Twb := Two.b Twa Kwb Nwb Fwb)
            | (go_at_call 18; have cX := every_any c _ S y z _ TW.ka HLS.out; rw [HR.out] at cX; refine cX.mono ?_; rintro e wa ⟨rfl, vwa, Kwa, Nwa, Fwa⟩; have Twa := Two.a TW Kwa Nwa Fwa; have B1 := B0.blk Fwa.size (Fwa.blk bx B0.lt HNB.out); have r1 := B1.c 1 rfl; have r2 := B1.c 2 rfl; have rl := B1.lt))
          go_roundg (n - (i + 1))
          case measure => omega
          case rel => exact ⟨i + 1, vwa, vwb, R.1, by omega, rfl, Nat.le_refl _, Lib.hid ⟨Twb, HNOW.out, HLST.out, ((HF.out.fm.tr FX).tr (TW.ka.low Fwa (Nat.le_refl _))).tr (Twa.kb.low Fwb HF.out.le), HF.out.le⟩⟩
        · have z1 : (x == 1) = false := by simpa using x1
          clear x1
          go_upto_region 8 with (fail)
          generalize wr.alloc (Obj.cells #[.int .i64 x, .int .i64 y, .int .i64 z] 32) = wx at *
          generalize wr.heap.size = bx at *
          have p0 := B0.c 0 rfl
          have pl := B0.lt
          go_wp2_with fail
          go_roundg (n - (i + 1))
          case measure => omega
          case rel => exact ⟨i + 1, va, vb, S, by omega, rfl, Nat.le_refl _, Lib.hid ⟨TW, HF.out.now, Nat.le_succ_of_le HF.out.last, HF.out.fm.tr FX, HF.out.le⟩⟩
    · obtain rfl : i = n := by omega
      have T3 := HF.out.tw
      have HNW : Hid (S.now ≤ m) := Lib.hid (by rw [HF.out.now]; exact Nat.zero_le _)
      cases hfr : fr u 4096 [] S.l with
      | none =>
        have HRA := Lib.hid (adS_no (Nat.le_trans HNW.out HMU.out) (by have := HU2.out; omega) hfr)
        clear hfr
        obtain ⟨RB, hRB⟩ : ∃ RB, adS S (m : Int) = RB := ⟨_, rfl⟩
        have HRB := Lib.hid hRB
        clear hRB
        obtain ⟨RC, hRC⟩ : ∃ RC, adS RB.1 (u : Int) = RC := ⟨_, rfl⟩
        have HRC := Lib.hid hRC
        clear hRC
        go_wp2_with (first
          | (go_at_call 17; have cX := advance_any c' v5 RB.1 (u : Int) _ T5.kb; rw [HRC.out] at cX; refine cX.mono ?_; rintro e w6 ⟨x3, v6, rfl, hx3, K6, N6, F6, -⟩; obtain ⟨X3, d3, rfl, -⟩ := own_nil_or hx3; have T6 := T5.b K6 N6 F6)
          | (go_at_call 17; have cX := advance_any c' vb S (m : Int) _ T4.kb; rw [HRB.out] at cX; refine cX.mono ?_; rintro e w5 ⟨x2, v5, rfl, hx2, K5, N5, F5, -⟩; obtain ⟨X2, d2, rfl, -⟩ := own_nil_or hx2; have T5 := T4.b K5 N5 F5)
          | (go_at_call 17; have cX := advance_any c va S (u : Int) _ T3.ka; rw [HRA.out] at cX; refine cX.mono ?_; rintro e w4 ⟨x1, v4, rfl, hx1, K4, N4, F4, -⟩; obtain ⟨X1, d1', rfl, -⟩ := own_nil_or hx1; have T4 := T3.a K4 N4 F4)
          | (go_at_call 9; refine (awake_any _).mono ?_; rintro e w99 ⟨rfl, hb99⟩))
        go_ret
        exact ⟨rfl, ((((HF.out.fm.tr (T3.ka.low F4 (Nat.le_refl _))).tr (T4.kb.low F5 HF.out.le)).tr (T5.kb.low F6 HF.out.le)).tr (Fm.of _ hb99)).below (by rw [HC.out]; exact Nat.le_refl _) fun i e => by rw [HC.out]; exact e⟩
      | some r =>
        obtain ⟨a1, l1, a2, s1, s2, s3⟩ := fr_split HMU.out hfr
        have HRA := Lib.hid (adS_ok (Nat.le_trans HNW.out HMU.out) (by have := HU2.out; omega) hfr)
        have HRB := Lib.hid (adS_ok HNW.out (by have := HU2.out; have := HMU.out; omega) s1)
        have HRC := Lib.hid (adS_ok (S := ⟨m, S.last, l1⟩) HMU.out (by have := HU2.out; omega) s2)
        have HL0 : Hid (r.1.length ≤ 100000) := Lib.hid (by have := fr_cnt hfr; simp only [List.length_nil] at this; omega)
        have HL1 : Hid (a1.length ≤ 100000) := Lib.hid (by have := fr_cnt s1; simp only [List.length_nil] at this; omega)
        have HL2 : Hid (a2.length ≤ 100000) := Lib.hid (by have := fr_cnt s2; simp only [List.length_nil] at this; omega)
        have HL3 : Hid ((fir r.2).length ≤ 100000) := Lib.hid (by
          rw [fir_len]
          have h1 := (fr_le hfr).1
          have h2 := T3.ka.ok.len
          omega)
        have HS3 := Lib.hid s3
        clear hfr s1 s2 s3
        go_wp2_with (first
          | (go_at_call 17; have cX := advance_any c' v5 ⟨m, S.last, l1⟩ (u : Int) _ T5.kb; rw [HRC.out] at cX; refine cX.mono ?_; rintro e w6 ⟨x3, v6, rfl, hx3, K6, N6, F6, -⟩; obtain ⟨X3, d3, rfl, -⟩ := own_nil_or hx3; have T6 := T5.b K6 N6 F6)
          | (go_at_call 17; have cX := advance_any c' vb S (m : Int) _ T4.kb; rw [HRB.out] at cX; refine cX.mono ?_; rintro e w5 ⟨x2, v5, rfl, hx2, K5, N5, F5, hp2⟩; obtain ⟨X2, d2, rfl, -⟩ := own_nil_or hx2; have T5 := T4.b K5 N5 F5)
          | (go_at_call 17; have cX := advance_any c va S (u : Int) _ T3.ka; rw [HRA.out] at cX; refine cX.mono ?_; rintro e w4 ⟨x1, v4, rfl, hx1, K4, N4, F4, -⟩; obtain ⟨X1, d1', rfl, -⟩ := own_nil_or hx1; have T4 := T3.a K4 N4 F4)
          | (go_at_call 19; have hz14 := hp14; refine (plain_any _ _ (fir r.2) w14 HL3.out hp14).mono ?_; rintro e w15 ⟨y15, rfl, hy15, hb15⟩; obtain ⟨Y15, e15, rfl, -⟩ := own_nil_or hy15; have B15 := Below.next B14 hb15)
          | (go_at_call 19; refine (plain_any _ _ (fir r.2) w12 HL3.out hp12).mono ?_; rintro e w13 ⟨y13, rfl, hy13, hb13⟩; obtain ⟨Y13, e13, rfl, -⟩ := own_nil_or hy13; have B13 := Below.next B12 hb13)
          | (go_at_call 19; refine (plain_any _ _ r.1 w9 HL0.out (own_next hx16 B9)).mono ?_; rintro e w10 ⟨y10, rfl, hy10, hb10⟩; obtain ⟨Y10, e10, rfl, -⟩ := own_nil_or hy10; have B10 := Below.next B9 hb10)
          | (go_at_call 19; refine (plain_any _ _ a2 w7 HL2.out (own_next hx3 hb7)).mono ?_; rintro e w8 ⟨y8, rfl, hy8, hb8⟩; obtain ⟨Y8, e8, rfl, -⟩ := own_nil_or hy8; have B8 := Below.next hb7 hb8)
          | (go_at_call 19; have hx26 := OwF.other hx2 F6 T4.kb.lt hp2; have hx15 := OwF.other hx1 F5 T3.kb.lt (fun g e1 e2 => absurd (Nat.lt_of_lt_of_le (T3.kb.sd.own.lt g e2).2 (hx1.lt g e1).1) (Nat.lt_irrefl _)); have hx16 := OwF.other hx15 F6 T3.kb.lt (fun g e1 e2 => by
              rcases N5 g e2 with h | h
              · exact absurd (Nat.lt_of_lt_of_le (T3.kb.sd.own.lt g h).2 (hx1.lt g e1).1) (Nat.lt_irrefl _)
              · exact absurd (Nat.lt_of_lt_of_le (hx1.lt g e1).2 h) (Nat.lt_irrefl _)); refine (plain_any _ _ a1 w6 HL1.out hx26).mono ?_; rintro e w7 ⟨y7, rfl, hy7, hb7⟩; obtain ⟨Y7, e7, rfl, -⟩ := own_nil_or hy7)
          | (at_builtin; refine wpList_appR rfl _ _ rfl w6.heap.size w7.heap.size _ _ a1 a2 rfl rfl (own_next hy7 hb8) hy8 HL1.out HL2.out B8.size ?_; intro v9 w9 hy9 hg9; obtain ⟨Y9, e9, rfl, -⟩ := own_nil_or hy9; have B9 := B8.grown hg9 B8.size (fun g e => (hy7.lt g e).1))
          | (go_at_call 20; have cS := same_any _ _ _ _ (fir r.2) (fir r.2) w15 HL3.out HL3.out (own_next (own_next hy13 hb14) hb15) hy15; rw [decide_eq_true (rfl : fir r.2 = fir r.2)] at cS; refine cS.mono ?_; rintro e w16 ⟨rfl, hb16⟩; have B16 := Below.next B15 hb16)
          | (go_at_call 20; have cS := same_any _ _ _ _ r.1 (a1 ++ a2) w10 HL0.out (by rw [← HS3.out]; exact HL0.out) hy10 (own_next hy9 hb10); rw [decide_eq_true HS3.out] at cS; simp only [List.length_append] at cS; refine cS.mono ?_; rintro e w11 ⟨rfl, hb11⟩; have B11 := Below.next B10 hb11)
          | (go_at_call 21; refine (pending_any c' _ _ w13 (T6.next B13).kb).mono ?_; rintro e w14 ⟨z14, rfl, hp14, hb14⟩; obtain ⟨Z14, g14, rfl, -⟩ := own_nil_or hp14; have B14 := Below.next B13 hb14)
          | (go_at_call 21; refine (pending_any c _ _ w11 (T6.next B11).ka).mono ?_; rintro e w12 ⟨z12, rfl, hp12, hb12⟩; obtain ⟨Z12, g12, rfl, -⟩ := own_nil_or hp12; have B12 := Below.next B11 hb12)
          | (go_at_call 14; refine (now_any c' _ _ w17 (T6.next B17).kb).mono ?_; rintro e w18 ⟨rfl, hb18⟩; have B18 := Below.next B17 hb18)
          | (go_at_call 14; refine (now_any c _ _ w16 (T6.next B16).ka).mono ?_; rintro e w17 ⟨rfl, hb17⟩; have B17 := Below.next B16 hb17)
          | (go_at_call 9; refine (awake_any _).mono ?_; rintro e w99 ⟨rfl, hb99⟩))
        go_ret
        exact ⟨rfl, (((((HF.out.fm.tr (T3.ka.low F4 (Nat.le_refl _))).tr (T4.kb.low F5 HF.out.le)).tr (T5.kb.low F6 HF.out.le)).tr (Fm.of _ B18)).tr (Fm.of _ hb99)).below (by rw [HC.out]; exact Nat.le_refl _) fun i e => by rw [HC.out]; exact e⟩
end Go.Proofs.Ytiooilkbbfflaaa

import Derived.Test.YtiooilkbbfflaaaJc
import Derived.Test.YtiooilkbbfflaaaHz
/-
  The law that timers fire in order, at their times, each once. No conditions beyond those that each names.
-/
namespace Go.Proofs.Ytiooilkbbfflaaa
open Go.RowKit Go.Sort Go.Lib Go.Shelf
theorem ix_found (id : Int) : ∀ (l : List Tm) (k : Nat) (x : Tm), x ∈ l → (x.id : Int) = id → ∃ (i : Nat) (hi : i < l.length), ix id l k = ((k + i : Nat) : Int) ∧ ((l[i]'hi).id : Int) = id
  | y :: l, k, x, hx, he => by
    unfold ix
    by_cases h : (y.id : Int) = id
    · rw [if_pos h]; exact ⟨0, Nat.succ_pos _, rfl, h⟩
    · rw [if_neg h]
      rcases List.mem_cons.1 hx with rfl | hx
      · exact absurd he h
      · obtain ⟨i, hi, h1, h2⟩ := ix_found id l (k + 1) x hx he
        exact ⟨i + 1, by simpa using hi, by rw [h1, show k + 1 + i = k + (i + 1) by omega], by simpa using h2⟩
theorem Bls.at_ {w : World} {A : Option Addr} {n : Nat} {q : Nat → Bool} (h : Bls w A n q) {c : Nat} (hc : w.heap.size = c) {k : Nat} (hk : k < n) : ∃ ab ao : Nat, A = some ⟨ab, ao, none⟩ ∧ ∀ W, Fm (fun i => c ≤ i) w W → W.cell? ⟨ab, ao + k, none⟩ = some (.bool (q k)) ∧ ab < W.heap.size := by
  rcases h with h | ⟨ab, ao, hA, hab, h⟩
  · omega
  · refine ⟨ab, ao, hA, fun W hW => ?_⟩
    have hb : W.heap[ab]? = w.heap[ab]? := hW.blk ab hab (by omega)
    exact ⟨(World.cell?_of_block (a := ⟨ab, ao + k, none⟩) hb).trans (h k hk), Nat.lt_of_lt_of_le hab hW.size⟩
/-- How the first loop stands. -/
structure O1 (c : Nat) (w : World) (T : Nat → Nat) (i : Nat) (v : Value) (S : Cs) (wr : World) : Prop where
  ck : Ck c wr v S
  now : S.now = 0
  last : S.last = i
  pm : S.l.Perm ((List.range i).map (tmj T))
  fm : Fm (fun i => c ≤ i) w wr
/-- How the second loop stands. -/
structure O2 (c : Nat) (w : World) (T : Nat → Nat) (G : Nat → Bool) (u n i d : Nat) (v : Value) (S : Cs) (wr : World) : Prop where
  ck : Ck c wr v S
  now : S.now = 0
  last : S.last = n
  pm : S.l.Perm (kpl T G n i)
  dd : d = due T G u i
  fm : Fm (fun i => c ≤ i) w wr
theorem fir_get (l : List Tm) (t : Nat) (ht : t < (fir l).length) (ht2 : t < l.length) : (fir l)[t]'ht = ((l[t]'ht2).id, (l[t]'ht2).at_) := by
  have h1 : (fir l)[t]? = some ((l[t]'ht2).id, (l[t]'ht2).at_) := by
    unfold fir
    rw [List.getElem?_map, List.getElem?_eq_getElem ht2]
    rfl
  rw [List.getElem?_eq_getElem ht] at h1
  exact Option.some.inj h1
theorem ord1 {T : Nat → Nat} {G : Nat → Bool} {u n : Nat} {l : List Tm} (hp : l.Perm (kpl T G n n)) : ∀ t (ht : t < (fir (l.takeWhile fun x => decide (x.at_ ≤ u))).length), ∃ j, (fir (l.takeWhile fun x => decide (x.at_ ≤ u)))[t]'ht = (j + 1, T j) ∧ j < n ∧ T j ≤ u ∧ G j = false := fun t ht => by
  have ht2 : t < (l.takeWhile fun x => decide (x.at_ ≤ u)).length := by rw [fir_len] at ht; exact ht
  have hx := List.getElem_mem ht2
  have hxl : (l.takeWhile fun x => decide (x.at_ ≤ u))[t]'ht2 ∈ l := (List.takeWhile_sublist _).subset hx
  obtain ⟨j, hj, e, hg⟩ := kpl_mem (hp.mem_iff.1 hxl)
  refine ⟨j, ?_, hj, ?_, hg hj⟩
  · rw [fir_get _ t ht ht2, e]
    rfl
  · have := (List.all_eq_true.1 (List.all_takeWhile (p := fun x : Tm => decide (x.at_ ≤ u)) (l := l))) _ hx
    rw [e] at this
    exact of_decide_eq_true this
theorem ord2 {T : Nat → Nat} {G : Nat → Bool} {u n : Nat} {l : List Tm} (hp : l.Perm (kpl T G n n)) (hs : l.Pairwise ltT) : ∀ t (h1 : t + 1 < (fir (l.takeWhile fun x => decide (x.at_ ≤ u))).length) (h0 : t < (fir (l.takeWhile fun x => decide (x.at_ ≤ u))).length) (j : Nat), (fir (l.takeWhile fun x => decide (x.at_ ≤ u)))[t + 1]'h1 = (j + 1, T j) →
    ∃ j', (fir (l.takeWhile fun x => decide (x.at_ ≤ u)))[t]'h0 = (j' + 1, T j') ∧ j' < n ∧ ltT (tmj T j') (tmj T j) := fun t h1 h0 j hj => by
  have h1' : t + 1 < (l.takeWhile fun x => decide (x.at_ ≤ u)).length := by rw [fir_len] at h1; exact h1
  have h0' : t < (l.takeWhile fun x => decide (x.at_ ≤ u)).length := by omega
  obtain ⟨j', hj', hn', -, -⟩ := ord1 (u := u) hp t h0
  have hsq := hs.sublist (List.takeWhile_sublist (p := fun x : Tm => decide (x.at_ ≤ u)) (l := l))
  have hlt := sq_get hsq h0' h1' (Nat.lt_succ_self t)
  refine ⟨j', hj', hn', ?_⟩
  rw [fir_get _ _ h1 h1'] at hj
  rw [fir_get _ _ h0 h0'] at hj'
  injection hj with e1 e2
  injection hj' with e3 e4
  unfold ltT at hlt ⊢
  simp only [tmj]
  omega
theorem add_step {T : Nat → Nat} {i : Nat} {S : Cs} (h0 : S.now = 0) (h1 : S.last = i) (hp : S.l.Perm ((List.range i).map (tmj T))) (hi : i < 60) (hT : T i < 65536) : addS S (T i : Int) 0 = (⟨0, i + 1, ins (tmj T i) S.l⟩, i + 1, 0) := by
  obtain ⟨now, last, l⟩ := S
  obtain rfl : now = 0 := h0
  obtain rfl : last = i := h1
  have hl : l.length = last := by have := hp.length_eq; simpa using this
  unfold addS ahd
  rw [decide_eq_true (by show (0 : Int) ≤ (T last : Int) ∧ (T last : Int) ≤ 1099511627776; omega), if_pos rfl, if_neg (by show ¬ 64 ≤ l.length; omega), Int.toNat_natCast]
  rfl
theorem can_step {T : Nat → Nat} {G : Nat → Bool} {n i : Nat} {S : Cs} (hp : S.l.Perm (kpl T G n i)) (hi : i < n) (hG : G i = true) : ∃ l', caS S ((i : Int) + 1) = (⟨S.now, S.last, l'⟩, 0) ∧ l'.Perm (kpl T G n (i + 1)) := by
  have hk := kpl_gone T G n i hi hG
  have hm : tmj T i ∈ S.l := (hp.trans hk).mem_iff.2 (List.mem_cons_self ..)
  obtain ⟨k, hkl, h1, h2⟩ := ix_found ((i : Int) + 1) S.l 0 (tmj T i) hm (by show (((i + 1 : Nat)) : Int) = _; omega)
  rw [Nat.zero_add] at h1
  have hx : S.l[k]'hkl = tmj T i := by
    obtain ⟨j, hj, e, -⟩ := kpl_mem (hp.mem_iff.1 (List.getElem_mem hkl))
    rw [e] at h2 ⊢
    have : ((j + 1 : Nat) : Int) = (i : Int) + 1 := h2
    have : j = i := by omega
    rw [this]
  refine ⟨S.l.eraseIdx k, ?_, erase_perm hkl hx (hp.trans hk)⟩
  unfold caS
  rw [h1, if_neg (by omega)]
  rfl
set_option maxRecDepth 100000 in
set_option maxHeartbeats 8000000 in
theorem orders_law (A : Option Addr) (n c0 : Nat) (T : Nat → Nat) (A2 : Option Addr) (m c2 : Nat) (Cn : Nat → Bool) (uu : Int) (w : World) (hn : n ≤ 9223372036854775807) (hC : U16s w A n T) (hm9 : m ≤ 9223372036854775807) (hD : Bls w A2 m Cn) (bu1 : 0 ≤ uu) (bu2 : uu ≤ 65535) :
    Calls Try.prog 4 #[.slice A n c0, .slice A2 m c2, .int .u16 uu] w (Ib (.bool true) w) := by
  obtain ⟨u, rfl⟩ : ∃ u : Nat, uu = (u : Int) := ⟨uu.toNat, (Int.toNat_of_nonneg bu1).symm⟩
  have hu : u ≤ 65535 := by omega
  clear bu1 bu2
  by_cases h60 : 60 < n
  · have d1 : decide ((60 : Int) < (n : Int)) = true := decide_eq_true (by omega)
    have d2 : decide (60 < n) = true := decide_eq_true h60
    clear hC hD
    go_enter Try.func4, Try.ntmps4
    go_wp2_with (refine (awake_any _).mono ?_; rintro e w1 ⟨rfl, hb1⟩)
    go_ret
    exact ⟨rfl, hb1⟩
  have d1 : decide ((60 : Int) < (n : Int)) = false := decide_eq_false (by omega)
  have d2 : decide (60 < n) = false := decide_eq_false h60
  have hn9 : n ≤ 60 := by omega
  obtain ⟨G, hG⟩ : ∃ G : Nat → Bool, (fun j => decide (j < m) && Cn j) = G := ⟨_, rfl⟩
  have HGd : Hid (∀ j, G j = (decide (j < m) && Cn j)) := Lib.hid fun j => by rw [← hG]
  obtain ⟨c, hc⟩ : ∃ c, w.heap.size = c := ⟨_, rfl⟩
  have HC := Lib.hid hc
  have HA := Lib.hid hC
  have HD := Lib.hid hD
  clear hC hD hc hn h60 hG
  have hN := new_any w
  rw [HC.out] at hN
  go_enter Try.func4, Try.ntmps4
  go_wp2_with (go_at_call 10; refine hN.mono ?_; rintro e w1 ⟨rfl, K1, hb1⟩)
  have H1 : Hid (O1 c w T 0 (.slice none 0 0) ⟨0, 0, []⟩ w1) := Lib.hid ⟨K1, rfl, rfl, List.Perm.refl _, Fm.of _ (by rw [← HC.out] at hb1; exact hb1)⟩
  clear K1 hb1 hN
  go_loopg [8] n (fun kx s8 wr => ∃ i v S, i ≤ n ∧ s8 = .int .i64 ((i : Nat) : Int) ∧ n - i ≤ kx ∧ Hid (O1 c w T i v S wr))
  case atStart => exact ⟨0, .slice none 0 0, ⟨0, 0, []⟩, Nat.zero_le _, rfl, by omega, H1⟩
  case round =>
    clear H1
    obtain ⟨i, v, S, hi, rfl, hg, HF⟩ := hrel
    by_cases hlt : i < n
    · obtain ⟨ab, ao, rfl, hT, hQ⟩ := HA.out.at_ HC.out hlt
      obtain ⟨q0, qb⟩ := hQ wr HF.out.fm
      have hin : (i : Int) < (n : Int) := by omega
      have HR := Lib.hid (add_step HF.out.now HF.out.last HF.out.pm (by omega) hT)
      have HLS : Hid (S.last < 999999) := Lib.hid (by rw [HF.out.last]; omega)
      have hne : ((i : Int) + 1 != (i : Int) + 1) = false := by simp
      clear hQ
      obtain ⟨x, hx⟩ : ∃ x, T i = x := ⟨_, rfl⟩
      rw [hx] at q0 hT HR
      have HXT := Lib.hid hx
      clear hx
      go_wp2_with (go_at_call 15; have cX := add_any c v S (x : Int) _ HF.out.ck HLS.out; rw [HR.out] at cX; simp only [Int.natCast_add, Int.natCast_one] at cX; refine cX.mono ?_; rintro e w4 ⟨rfl, v4, K4, -, F4⟩)
      go_roundg (n - (i + 1))
      case measure => omega
      case rel => exact ⟨i + 1, v4, _, by omega, rfl, Nat.le_refl _, Lib.hid ⟨K4, rfl, rfl, by
        show (ins (tmj T i) S.l).Perm _
        rw [range_snoc]
        exact (ins_perm (tmj T i) S.l).trans ((HF.out.pm.cons (tmj T i)).trans (List.perm_append_singleton (tmj T i) ((List.range i).map (tmj T))).symm), HF.out.fm.tr (HF.out.ck.low F4 (Nat.le_refl _))⟩⟩
    · obtain rfl : i = n := by omega
      have H2 : Hid (O2 c w T G u i 0 0 v S wr) := Lib.hid ⟨HF.out.ck, HF.out.now, HF.out.last, by rw [kpl_zero]; exact HF.out.pm, rfl, HF.out.fm⟩
      clear HF
      go_wp2_with fail
      go_loopg [11, 12] i (fun kx s11 s12 wr => ∃ i' d v S, i' ≤ i ∧ s12 = .int .i64 ((i' : Nat) : Int) ∧ s11 = .int .i64 ((d : Nat) : Int) ∧ i - i' ≤ kx ∧ d ≤ 60 ∧ Hid (O2 c w T G u i i' d v S wr))
      case atStart => exact ⟨0, 0, v, S, Nat.zero_le _, rfl, rfl, by omega, by omega, H2⟩
      case round =>
        clear H2
        generalize hnn : i = n at *
        clear hnn
        obtain ⟨i, d, v, S, hi, rfl, rfl, hg, hd6, HF⟩ := hrel
        by_cases hlt : i < n
        · obtain ⟨ab, ao, rfl, hT, hQ⟩ := HA.out.at_ HC.out hlt
          obtain ⟨q0, qb⟩ := hQ wr HF.out.fm
          have hin : (i : Int) < (n : Int) := by omega
          obtain ⟨x, hx⟩ : ∃ x, T i = x := ⟨_, rfl⟩
          rw [hx] at q0 hT
          have HX := Lib.hid hx
          clear hx hQ
          have hd7 : d ≤ i := by rw [HF.out.dd]; exact due_le _ _ _ _
          by_cases him : i < m
          · obtain ⟨ab2, ao2, rfl, hQ2⟩ := HD.out.at_ HC.out him
            obtain ⟨p0, pb⟩ := hQ2 wr HF.out.fm
            have e1 : decide ((i : Int) < (m : Int)) = true := decide_eq_true (by omega)
            have e2 : decide (i < m) = true := decide_eq_true him
            have hG := HGd.out i
            rw [e2, Bool.true_and] at hG
            clear hQ2
            cases hcn : Cn i with
            | true =>
              rw [hcn] at p0 hG
              obtain ⟨l', hl1, hl2⟩ := can_step HF.out.pm hlt hG
              have HR := Lib.hid hl1
              have HP := Lib.hid hl2
              have HDU : Hid (due T G u (i + 1) = d) := Lib.hid (by rw [due_succ, hG, ← HF.out.dd]; rfl)
              clear hl1 hl2 hG hcn
              go_wp2_with (go_at_call 16; have cX := cancel_any c v S ((i : Int) + 1) _ HF.out.ck; rw [HR.out] at cX; refine cX.mono ?_; rintro e w4 ⟨rfl, v4, K4, -, F4⟩)
              go_roundg (n - (i + 1))
              case measure => omega
              case rel => exact ⟨i + 1, d, v4, _, by omega, rfl, rfl, Nat.le_refl _, by omega, Lib.hid ⟨K4, HF.out.now, HF.out.last, HP.out, HDU.out.symm, HF.out.fm.tr (HF.out.ck.low F4 (Nat.le_refl _))⟩⟩
            | false =>
              rw [hcn] at p0 hG
              have HG0 := Lib.hid hG
              clear hG hcn
              by_cases h5 : x ≤ u
              · have e5 : decide ((x : Int) ≤ (u : Int)) = true := decide_eq_true (by omega)
                have e6 : decide (x ≤ u) = true := decide_eq_true h5
                have HDU : Hid (due T G u (i + 1) = d + 1) := Lib.hid (by rw [due_succ, HG0.out, ← HF.out.dd, HX.out, decide_eq_true h5]; rfl)
                clear h5
                go_wp2_with fail
                go_roundg (n - (i + 1))
                case measure => omega
                case rel => exact ⟨i + 1, d + 1, v, S, by omega, rfl, rfl, Nat.le_refl _, by omega, Lib.hid ⟨HF.out.ck, HF.out.now, HF.out.last, by rw [kpl_stay T G n i HG0.out]; exact HF.out.pm, HDU.out.symm, HF.out.fm⟩⟩
              · have e5 : decide ((x : Int) ≤ (u : Int)) = false := decide_eq_false (by omega)
                have e6 : decide (x ≤ u) = false := decide_eq_false h5
                have HDU : Hid (due T G u (i + 1) = d) := Lib.hid (by rw [due_succ, HG0.out, ← HF.out.dd, HX.out, decide_eq_false h5]; rfl)
                clear h5
                go_wp2_with fail
                go_roundg (n - (i + 1))
                case measure => omega
                case rel => exact ⟨i + 1, d, v, S, by omega, rfl, rfl, Nat.le_refl _, by omega, Lib.hid ⟨HF.out.ck, HF.out.now, HF.out.last, by rw [kpl_stay T G n i HG0.out]; exact HF.out.pm, HDU.out.symm, HF.out.fm⟩⟩
          · have e1 : decide ((i : Int) < (m : Int)) = false := decide_eq_false (by omega)
            have e2 : decide (i < m) = false := decide_eq_false him
            have hG := HGd.out i
            rw [e2, Bool.false_and] at hG
            have HG0 := Lib.hid hG
            clear hG him
            by_cases h5 : x ≤ u
            · have e5 : decide ((x : Int) ≤ (u : Int)) = true := decide_eq_true (by omega)
              have e6 : decide (x ≤ u) = true := decide_eq_true h5
              have HDU : Hid (due T G u (i + 1) = d + 1) := Lib.hid (by rw [due_succ, HG0.out, ← HF.out.dd, HX.out, decide_eq_true h5]; rfl)
              clear h5
              go_wp2_with fail
              go_roundg (n - (i + 1))
              case measure => omega
              case rel => exact ⟨i + 1, d + 1, v, S, by omega, rfl, rfl, Nat.le_refl _, by omega, Lib.hid ⟨HF.out.ck, HF.out.now, HF.out.last, by rw [kpl_stay T G n i HG0.out]; exact HF.out.pm, HDU.out.symm, HF.out.fm⟩⟩
            · have e5 : decide ((x : Int) ≤ (u : Int)) = false := decide_eq_false (by omega)
              have e6 : decide (x ≤ u) = false := decide_eq_false h5
              have HDU : Hid (due T G u (i + 1) = d) := Lib.hid (by rw [due_succ, HG0.out, ← HF.out.dd, HX.out, decide_eq_false h5]; rfl)
              clear h5
              go_wp2_with fail
              go_roundg (n - (i + 1))
              case measure => omega
              case rel => exact ⟨i + 1, d, v, S, by omega, rfl, rfl, Nat.le_refl _, by omega, Lib.hid ⟨HF.out.ck, HF.out.now, HF.out.last, by rw [kpl_stay T G n i HG0.out]; exact HF.out.pm, HDU.out.symm, HF.out.fm⟩⟩
        · obtain rfl : i = n := by omega
          generalize hnn : i = n at *
          clear hnn
          have hall : ∀ x ∈ S.l, x.per = 0 := fun x hx => by
            obtain ⟨j, -, rfl, -⟩ := kpl_mem (HF.out.pm.mem_iff.1 hx)
            rfl
          have hlen : S.l.length ≤ 4096 := by rw [HF.out.pm.length_eq]; have := kpl_len T G n n; omega
          have hR := adS_ok (S := S) (u := u) (by rw [HF.out.now]; exact Nat.zero_le _) (by omega) (fr_zero u S.l 4096 [] hall hlen)
          rw [List.nil_append] at hR
          have hN := (fir_len (S.l.takeWhile fun x => decide (x.at_ ≤ u))).trans ((due_all HF.out.pm HF.out.ck.ok.iv.sq).trans HF.out.dd.symm)
          have hT1 := ord1 (u := u) HF.out.pm
          have hT2 := ord2 (u := u) HF.out.pm HF.out.ck.ok.iv.sq
          generalize (S.l.takeWhile fun x => decide (x.at_ ≤ u)) = tw at hR hN hT1 hT2
          have HR := Lib.hid hR
          have HN := Lib.hid hN
          have HT1 := Lib.hid hT1
          have HT2 := Lib.hid hT2
          clear hall hlen hR hN hT1 hT2
          go_wp2_with (first
            | (go_at_call 17; have cX := advance_any c v S (u : Int) _ HF.out.ck; rw [HR.out] at cX; refine cX.mono ?_; rintro e w4 ⟨x4, v4, rfl, hx4, K4, -, F4, -⟩; obtain ⟨X4, d4, hx5, hX4⟩ := own_nil_or hx4; rw [HN.out] at hx5; subst hx5)
            | (go_at_call 14; refine (now_any c v4 _ _ K4).mono ?_; rintro e w5 ⟨rfl, hb5⟩))
          have HX4 := Lib.hid (And.intro hx4 hX4)
          have HF4 := Lib.hid (HF.out.fm.tr (HF.out.ck.low F4 (Nat.le_refl _)))
          have HB5 : Hid (Below w4.heap.size w4 w5) := Lib.hid hb5
          clear hx4 hX4 K4 F4 hb5
          go_loopg [16] d (fun kx s16 wr => ∃ t, t ≤ d ∧ s16 = .int .i64 ((t : Nat) : Int) ∧ d - t ≤ kx ∧ Hid (Below w4.heap.size w4 wr))
          case atStart => exact ⟨0, Nat.zero_le _, rfl, by omega, HB5⟩
          case round =>
            clear HB5
            obtain ⟨t, ht0, rfl, hg3, HB⟩ := hrel
            by_cases htd : t < d
            · have ht : t < (fir tw).length := by rw [HN.out]; exact htd
              obtain ⟨j, hj, hjn, hju, hjG⟩ := HT1.out t ht
              obtain ⟨g4, rfl, g4l⟩ : ∃ g, X4 = some ⟨g, 0, none⟩ ∧ g < w4.heap.size := by
                rcases HX4.out.2 with ⟨-, -, h⟩ | ⟨g, h, -, h2, -⟩
                · rw [HN.out] at h; omega
                · exact ⟨g, h, h2⟩
              have hx5 := HX4.out.1
              have k0 : wr.cell? ⟨g4, t * 2, none⟩ = some (.int .i64 ((j : Int) + 1)) := cell_next HB.out (own_cells e2_len (by unfold OwF at hx5; rw [HN.out] at hx5 ⊢; exact hx5) t ht 0 _ (by rw [hj]; rfl))
              have k1 : wr.cell? ⟨g4, t * 2 + 1, none⟩ = some (.int .i64 (T j : Int)) := cell_next HB.out (own_cells e2_len (by unfold OwF at hx5; rw [HN.out] at hx5 ⊢; exact hx5) t ht 1 _ (by rw [hj]; rfl))
              have gl := Nat.lt_of_lt_of_le g4l HB.out.size
              have htd2 : (t : Int) < (d : Int) := by omega
              obtain ⟨ab, ao, rfl, hTj, hQ⟩ := HA.out.at_ HC.out hjn
              obtain ⟨q0, qb⟩ := hQ wr (HF4.out.tr (Fm.of _ HB.out))
              have f0 : decide ((j : Int) < 0) = false := decide_eq_false (by omega)
              have f1 : decide ((n : Int) ≤ (j : Int)) = false := decide_eq_false (by omega)
              have f1' : decide (n ≤ j) = false := decide_eq_false (by omega)
              have f2 : decide ((u : Int) < (T j : Int)) = false := decide_eq_false (by omega)
              have f2' : decide (u < T j) = false := decide_eq_false (by omega)
              have hjn2 : (j : Int) < (n : Int) := by omega
              clear hQ
              by_cases hjm : j < m
              · obtain ⟨ab2, ao2, rfl, hQ2⟩ := HD.out.at_ HC.out hjm
                obtain ⟨r0, rb⟩ := hQ2 wr (HF4.out.tr (Fm.of _ HB.out))
                have e1 : decide ((j : Int) < (m : Int)) = true := decide_eq_true (by omega)
                have e2 : decide (j < m) = true := decide_eq_true hjm
                have hcn := HGd.out j
                rw [hjG, e2, Bool.true_and] at hcn
                rw [← hcn] at r0
                clear hcn hQ2
                cases t with
                | zero =>
                  go_upto_region 26 with (fail)
                  go_quiet (fail)
                  go_upto_region 28 with (fail)
                  go_quiet (fail)
                  go_wp2_with fail
                  go_roundg (d - (0 + 1))
                  case measure => omega
                  case rel => exact ⟨0 + 1, by omega, rfl, Nat.le_refl _, Lib.hid (below_drewN HB.out _)⟩
                | succ t =>
                  have ht2 : t < (fir tw).length := by rw [HN.out]; omega
                  have f8 : decide ((0 : Int) < (t : Int) + 1) = true := decide_eq_true (by omega)
                  have ht3 : t < d := by omega
                  have ht4 : (t : Int) < (d : Int) := by omega
                  obtain ⟨j', hj', hjn', hlt'⟩ := HT2.out t ht ht2 j hj
                  have p0 : wr.cell? ⟨g4, t * 2, none⟩ = some (.int .i64 ((j' : Int) + 1)) := cell_next HB.out (own_cells e2_len (by unfold OwF at hx5; rw [HN.out] at hx5 ⊢; exact hx5) t ht2 0 _ (by rw [hj']; rfl))
                  have p1 : wr.cell? ⟨g4, t * 2 + 1, none⟩ = some (.int .i64 (T j' : Int)) := cell_next HB.out (own_cells e2_len (by unfold OwF at hx5; rw [HN.out] at hx5 ⊢; exact hx5) t ht2 1 _ (by rw [hj']; rfl))
                  have f4 : decide ((T j : Int) < (T j' : Int)) = false := decide_eq_false (by unfold ltT at hlt'; simp only [tmj] at hlt'; omega)
                  have f4' : decide (T j < T j') = false := decide_eq_false (by unfold ltT at hlt'; simp only [tmj] at hlt'; omega)
                  by_cases hq : T j' = T j
                  · have f5 : ((T j' : Int) == (T j : Int)) = true := by rw [beq_iff_eq]; omega
                    have f6 : decide ((j : Int) + 1 ≤ (j' : Int) + 1) = false := decide_eq_false (by unfold ltT at hlt'; simp only [tmj] at hlt'; omega)
                    have f7 : decide ((j : Int) ≤ (j' : Int)) = false := decide_eq_false (by unfold ltT at hlt'; simp only [tmj] at hlt'; omega)
                    have f8' : decide (j ≤ j') = false := decide_eq_false (by unfold ltT at hlt'; simp only [tmj] at hlt'; omega)
                    have f5' : (T j' == T j) = true := by rw [beq_iff_eq]; exact hq
                    clear hx5 ht2 hj' hlt' hq
                    go_upto_region 26 with (fail)
                    go_quiet (fail)
                    go_upto_region 28 with (fail)
                    go_quiet (fail)
                    go_wp2_with fail
                    go_roundg (d - (t + 1 + 1))
                    case measure => omega
                    case rel => exact ⟨t + 1 + 1, by omega, rfl, Nat.le_refl _, Lib.hid (below_drewN HB.out _)⟩
                  · have f5 : ((T j' : Int) == (T j : Int)) = false := by rw [beq_eq_false_iff_ne]; omega
                    have f5' : (T j' == T j) = false := by rw [beq_eq_false_iff_ne]; exact hq
                    clear hx5 ht2 hj' hlt' hq
                    go_upto_region 26 with (fail)
                    go_quiet (fail)
                    go_upto_region 28 with (fail)
                    go_quiet (fail)
                    go_wp2_with fail
                    go_roundg (d - (t + 1 + 1))
                    case measure => omega
                    case rel => exact ⟨t + 1 + 1, by omega, rfl, Nat.le_refl _, Lib.hid (below_drewN HB.out _)⟩
              · have e1 : decide ((j : Int) < (m : Int)) = false := decide_eq_false (by omega)
                have e2 : decide (j < m) = false := decide_eq_false hjm
                cases t with
                | zero =>
                  go_upto_region 26 with (fail)
                  go_quiet (fail)
                  go_upto_region 28 with (fail)
                  go_quiet (fail)
                  go_wp2_with fail
                  go_roundg (d - (0 + 1))
                  case measure => omega
                  case rel => exact ⟨0 + 1, by omega, rfl, Nat.le_refl _, Lib.hid (below_drewN HB.out _)⟩
                | succ t =>
                  have ht2 : t < (fir tw).length := by rw [HN.out]; omega
                  have f8 : decide ((0 : Int) < (t : Int) + 1) = true := decide_eq_true (by omega)
                  have ht3 : t < d := by omega
                  have ht4 : (t : Int) < (d : Int) := by omega
                  obtain ⟨j', hj', hjn', hlt'⟩ := HT2.out t ht ht2 j hj
                  have p0 : wr.cell? ⟨g4, t * 2, none⟩ = some (.int .i64 ((j' : Int) + 1)) := cell_next HB.out (own_cells e2_len (by unfold OwF at hx5; rw [HN.out] at hx5 ⊢; exact hx5) t ht2 0 _ (by rw [hj']; rfl))
                  have p1 : wr.cell? ⟨g4, t * 2 + 1, none⟩ = some (.int .i64 (T j' : Int)) := cell_next HB.out (own_cells e2_len (by unfold OwF at hx5; rw [HN.out] at hx5 ⊢; exact hx5) t ht2 1 _ (by rw [hj']; rfl))
                  have f4 : decide ((T j : Int) < (T j' : Int)) = false := decide_eq_false (by unfold ltT at hlt'; simp only [tmj] at hlt'; omega)
                  have f4' : decide (T j < T j') = false := decide_eq_false (by unfold ltT at hlt'; simp only [tmj] at hlt'; omega)
                  by_cases hq : T j' = T j
                  · have f5 : ((T j' : Int) == (T j : Int)) = true := by rw [beq_iff_eq]; omega
                    have f6 : decide ((j : Int) + 1 ≤ (j' : Int) + 1) = false := decide_eq_false (by unfold ltT at hlt'; simp only [tmj] at hlt'; omega)
                    have f7 : decide ((j : Int) ≤ (j' : Int)) = false := decide_eq_false (by unfold ltT at hlt'; simp only [tmj] at hlt'; omega)
                    have f8' : decide (j ≤ j') = false := decide_eq_false (by unfold ltT at hlt'; simp only [tmj] at hlt'; omega)
                    have f5' : (T j' == T j) = true := by rw [beq_iff_eq]; exact hq
                    clear hx5 ht2 hj' hlt' hq
                    go_upto_region 26 with (fail)
                    go_quiet (fail)
                    go_upto_region 28 with (fail)
                    go_quiet (fail)
                    go_wp2_with fail
                    go_roundg (d - (t + 1 + 1))
                    case measure => omega
                    case rel => exact ⟨t + 1 + 1, by omega, rfl, Nat.le_refl _, Lib.hid (below_drewN HB.out _)⟩
                  · have f5 : ((T j' : Int) == (T j : Int)) = false := by rw [beq_eq_false_iff_ne]; omega
                    have f5' : (T j' == T j) = false := by rw [beq_eq_false_iff_ne]; exact hq
                    clear hx5 ht2 hj' hlt' hq
                    go_upto_region 26 with (fail)
                    go_quiet (fail)
                    go_upto_region 28 with (fail)
                    go_quiet (fail)
                    go_wp2_with fail
                    go_roundg (d - (t + 1 + 1))
                    case measure => omega
                    case rel => exact ⟨t + 1 + 1, by omega, rfl, Nat.le_refl _, Lib.hid (below_drewN HB.out _)⟩
            · obtain rfl : t = d := by omega
              go_wp2_with (refine (awake_any _).mono ?_; rintro e w9 ⟨rfl, hb9⟩)
              go_ret
              exact ⟨rfl, ((HF4.out.tr (Fm.of _ HB.out)).tr (Fm.of _ hb9)).below (by rw [HC.out]; exact Nat.le_refl _) fun i e => by rw [HC.out]; exact e⟩
end Go.Proofs.Ytiooilkbbfflaaa

/-
  The law of printing and reading back. Tokens of at most 1048576 bytes; no conditions beyond those that each names.
-/
import Derived.Test.YtgifienjfaclmaaDoorNm
import Derived.Test.YtgifienjfaclmaaDoorNp
import Derived.BigQuiet
namespace Go.Proofs.YtgifienjfaclmaaDoor
open Go.RowKit
theorem tks_length (q : Nat → Tv) (n : Nat) : (tks q n).length = n := by simp [tks]
theorem tks_split (q : Nat → Tv) (n i : Nat) (h : i < n) : ∃ r, tks q n = tks q i ++ (q i).tk :: r := by
  refine ⟨(tks q n).drop (i + 1), ?_⟩
  have hi : i < (tks q n).length := by rw [tks_length]; exact h
  have e1 : (tks q n).take i = tks q i := by
    unfold tks
    rw [← List.map_take, List.take_range, Nat.min_eq_left (by omega)]
  have e2 : (tks q n)[i] = (q i).tk := by simp [tks]
  conv => lhs; rw [← List.take_append_drop i (tks q n), List.drop_eq_getElem_cons hi, e1, e2]
/-- The valid token number i, among the valid ones. -/
theorem filt_at (q : Nat → Tv) (n i : Nat) (h : i < n) (hk : okT (q i).tk = true) : ((tks q n).filter okT)[((tks q i).filter okT).length]? = some (q i).tk := by
  obtain ⟨r, hr⟩ := tks_split q n i h
  rw [hr, List.filter_append, List.filter_cons_of_pos hk, List.getElem?_append_right (Nat.le_refl _), Nat.sub_self]
  rfl
theorem filt_succ (q : Nat → Tv) (i : Nat) : ((tks q (i + 1)).filter okT).length = ((tks q i).filter okT).length + (okT (q i).tk).toNat := by
  rw [tks_succ, List.filter_append, List.length_append]
  cases h : okT (q i).tk
  · rw [List.filter_cons_of_neg (by simp [h])]; rfl
  · rw [List.filter_cons_of_pos h]; rfl
set_option maxRecDepth 100000 in
set_option maxHeartbeats 4000000 in
theorem roundTrip_any (A : Option Addr) (n c : Nat) (q : Nat → Tv) (w : World) (hn63 : n ≤ 9223372036854775807) (hA : Tvs w A n q) (hT : ∀ i, i < n → (q i).text.length ≤ 1048576) (hE : Env w) (hM : Mx w) :
    Calls Tryd.prog 4 #[.slice A n c] w (Ib (.bool true) w) := by
  have cA := fun W hW => awake_any W hW
  by_cases hn : n ≤ 60
  · have d60 : decide ((60 : Int) < (n : Int)) = false := by simp; omega
    have hok : ∀ i, i < n → (q i).ok := by
      rcases hA with h0 | ⟨a, -, -, h⟩
      · intro i hi; omega
      · exact fun i hi => (h i hi).1
    have cP := printD_any A n c q w hn hA hT hE hM
    have HA := Lib.hid hA
    have cR := fun W hW => print_any A n c q W hn hW
    have hsp := scan_prs (tks q n) (numIn_tks q n hok)
    have Hpl := Lib.hid (prs_len q n hok n (Nat.le_refl _))
    have hpa := pjs_at ((tks q n).filter okT) 0
    have hfl : ((tks q n).filter okT).length ≤ n := by
      have := List.length_filter_le okT (tks q n)
      rw [tks_length] at this
      exact this
    obtain ⟨S, hS⟩ : ∃ S, prs [] (tks q n) = S := ⟨_, rfl⟩
    rw [hS] at cP cR hsp Hpl
    have hpS := Hpl.out
    have hs0 : (bs S).size = S.length := rfl
    obtain ⟨M, hMq⟩ : ∃ M, pjs ((tks q n).filter okT) 0 = M := ⟨_, rfl⟩
    rw [hMq] at hsp hpa
    have hATvs : ∀ W, Below w.heap.size w W → Tvs W A n q := by
      intro W hb
      rcases hA with h0 | ⟨a, h1, h2, h3⟩
      · exact .inl h0
      · refine .inr ⟨a, h1, Nat.lt_of_lt_of_le h2 hb.size, fun i hi => ?_⟩
        obtain ⟨k0, k1, k2, k3, k4⟩ := h3 i hi
        have ad : ∀ j, ((a.add (i * 4)).add j).block = a.block := fun j => by rw [add_block, add_block]
        exact ⟨k0, (hb.cell (by rw [ad]; exact h2)).trans k1, (hb.cell (by rw [ad]; exact h2)).trans k2, (hb.cell (by rw [ad]; exact h2)).trans k3, (hb.cell (by rw [ad]; exact h2)).trans k4⟩
    clear hA hT hS hMq
    by_cases h4 : 4000 < S.length
    · have d4 : decide ((4000 : Int) < (S.length : Int)) = true := by simp; omega
      clear hsp hpa hok Hpl hfl
      go_enter Tryd.func4, Tryd.ntmps4
      go_wp2_with fail
      refine cP.mono ?_
      rintro e w2 ⟨rfl, hb⟩
      go_wp2_with fail
      refine (cR _ (hATvs _ hb)).mono ?_
      rintro e w3 ⟨rfl, hb3⟩
      have hb := Below.next hb hb3
      go_wp2_with fail
      refine (cA _ (hE.next hb)).mono ?_
      rintro e w5 ⟨rfl, hb5⟩
      go_wp2_with fail
      go_ret
      exact ⟨rfl, Below.next hb hb5⟩
    · have d4 : decide ((4000 : Int) < (S.length : Int)) = false := by simp; omega
      have cS := fun W hW => scanD_any S W (by omega) hW
      rw [hsp (by omega)] at cS
      obtain ⟨f0, hf0⟩ : ∃ f0, ((tks q n).filter okT).length = f0 := ⟨_, rfl⟩
      obtain ⟨p1, p2, p3⟩ := hpa
      rw [hf0] at p1 hfl
      have Hok := Lib.hid hok
      have HP2 := Lib.hid p2
      have HP3 := Lib.hid p3
      have Hf0 := Lib.hid hf0
      clear hok p2 p3 hf0 hsp Hpl
      go_enter Tryd.func4, Tryd.ntmps4
      go_wp2_with fail
      refine cP.mono ?_
      rintro e w2 ⟨rfl, hb⟩
      go_wp2_with fail
      refine (cR _ (hATvs _ hb)).mono ?_
      rintro e w3 ⟨rfl, hb3⟩
      have hb := Below.next hb hb3
      go_wp2_with fail
      refine (cS _ (hE.next hb)).mono ?_
      rintro e w4 ⟨hb4, v, rfl, ho⟩
      obtain ⟨g, cap, rfl, hg, hc⟩ := ho.get (by omega)
      have hb := Below.next hb hb4
      have HC := Lib.hid hc
      rw [p1]
      clear hc ho hb4 hb3 cP cR cS
      go_wp2_with fail
      go_loopw [7, 8] (fun u v wr => ∃ (i k : Nat), i ≤ n ∧ k ≤ i ∧ k ≤ f0 ∧ v = .int .i64 (i : Int) ∧ u = .int .i64 (k : Int) ∧ Below w4.heap.size w4 wr ∧ Hid (k = ((tks q i).filter okT).length)) (fun _ v _ => n - (intOf v).toNat)
      case atStart => exact ⟨0, 0, by omega, by omega, by omega, rfl, rfl, Below.refl _ _, Lib.hid rfl⟩
      case round =>
        obtain ⟨i, k, hi, hki, hkf, rfl, rfl, hbr, hI⟩ := hrel
        by_cases hin : i < n
        · rcases HA.out with h0 | ⟨a, rfl, hab, hc⟩
          · omega
          obtain ⟨-, c0, c1, c2, c3⟩ := hc i hin
          have ok := Hok.out i hin
          have ad : ∀ j, ((a.add (i * 4)).add j).block = a.block := fun j => by rw [add_block, add_block]
          have hbw : Below w.heap.size w wr := Below.next hb hbr
          replace c0 := (hbw.cell (p := (a.add (i * 4)).add 0) (by rw [ad]; exact hab)).trans c0
          replace c1 := (hbw.cell (p := (a.add (i * 4)).add 1) (by rw [ad]; exact hab)).trans c1
          replace c2 := (hbw.cell (p := (a.add (i * 4)).add 2) (by rw [ad]; exact hab)).trans c2
          replace c3 := (hbw.cell (p := (a.add (i * 4)).add 3) (by rw [ad]; exact hab)).trans c3
          have hfs := filt_succ q i
          rw [← hI.out] at hfs
          have hfa := filt_at q n i hin
          rw [← hI.out] at hfa
          obtain ⟨b, hbk⟩ : ∃ b, okT (q i).tk = b := ⟨_, rfl⟩
          have hm : b = true → k < f0 ∧ wr.cell? ⟨g, k * 4, none⟩ = some (.int .i64 (q i).kind) ∧ wr.cell? ⟨g, k * 4 + 1, none⟩ = some (.string (bs (q i).text)) ∧ wr.cell? ⟨g, k * 4 + 2, none⟩ = some (.int .i64 (q i).num) := by
            intro e
            have h1 := hfa (by rw [hbk]; exact e)
            obtain ⟨hlt, h2⟩ := List.getElem?_eq_some_iff.1 h1
            have hlt2 : k < M.length := by rw [p1, ← Hf0.out]; omega
            obtain ⟨m1, m2, m3⟩ := HP2.out k hlt hlt2
            rw [h2] at m1 m2 m3
            have hK := okT_nonneg (K := (q i).kind) (T := (q i).text) (N := (q i).num) (A := (q i).at_) (by rw [← e, ← hbk])
            have m1 : ((M[k]'hlt2).kind : Int) = (q i).kind := by rw [m1]; show (((q i).kind.toNat : Nat) : Int) = _; omega
            have m2 : (M[k]'hlt2).text = (q i).text := m2
            have m3 : (M[k]'hlt2).num = (q i).num := m3
            have t0 := tcells_at M k 0 hlt2 (by decide)
            have t1 := tcells_at M k 1 hlt2 (by decide)
            have t2 := tcells_at M k 2 hlt2 (by decide)
            have c0 := HC.out _ _ t0
            have c1 := HC.out _ _ t1
            have c2 := HC.out _ _ t2
            rw [m1] at c0
            rw [m2] at c1
            rw [m3] at c2
            refine ⟨by rw [← Hf0.out]; exact hlt, (hbr.cell hg).trans c0, (hbr.cell hg).trans c1, (hbr.cell hg).trans c2⟩
          rw [hbk] at hfs
          have cV : ∀ W, Calls Tryd.prog 13 #[.agg #[.int .i64 (q i).kind, .string (bs (q i).text), .int .i64 (q i).num, .int .i64 (q i).at_]] W (Ib (.bool b) W) := fun W => by
            have := valid_any (q i).kind (q i).text (q i).num (q i).at_ W ok.1
            rw [show okT (Tv.tk ⟨(q i).kind, (q i).text, (q i).num, (q i).at_⟩) = b from hbk] at this
            exact this
          generalize q i = x at c0 c1 c2 c3 hm cV
          obtain ⟨K, T, N, P⟩ := x
          have c0 : wr.cell? (a.add (i * 4)) = some (.int .i64 K) := c0
          have c1 : wr.cell? ⟨(a.add (i * 4)).block, (a.add (i * 4)).off + 1, none⟩ = some (.string (bs T)) := c1
          have c2 : wr.cell? ⟨(a.add (i * 4)).block, (a.add (i * 4)).off + 2, none⟩ = some (.int .i64 N) := c2
          have c3 : wr.cell? ⟨(a.add (i * 4)).block, (a.add (i * 4)).off + 3, none⟩ = some (.int .i64 P) := c3
          have hab2 : (a.add (i * 4)).block < wr.heap.size := by rw [add_block]; exact Nat.lt_of_lt_of_le hab hbw.size
          obtain ⟨f, hf⟩ : ∃ f, i + 1 = f := ⟨_, rfl⟩
          have l11 : (i : Int) + 1 = (f : Int) := by omega
          rw [hf] at hfs
          clear hc hI HA HC ad hbk hfa hbw ok Hok HP2 HP3
          cases b
          · have H := Lib.hid (show k = ((tks q f).filter okT).length by rw [hfs]; rfl)
            clear hm hfs
            go_wp2_with fail
            refine (cV _).mono ?_
            rintro e w5 ⟨rfl, h5⟩
            go_wp2_with fail
            go_roundw
            case rel => exact ⟨f, k, by omega, by omega, hkf, rfl, rfl, Below.next hbr h5, H⟩
            case measure => simp [intOf]; omega
          · obtain ⟨hkf2, m0, m1, m2⟩ := hm rfl
            obtain ⟨k2, hk2⟩ : ∃ k2, k + 1 = k2 := ⟨_, rfl⟩
            have l12 : (k : Int) + 1 = (k2 : Int) := by omega
            have H := Lib.hid (show k2 = ((tks q f).filter okT).length by rw [hfs, ← hk2]; rfl)
            clear hm hfs
            go_wp2_with fail
            refine (cV _).mono ?_
            rintro e w5 ⟨rfl, h5⟩
            have hb5 := Below.next hbr h5
            have gw : g < wr.heap.size := Nat.lt_of_lt_of_le hg hbr.size
            replace c0 := (h5.cell (p := a.add (i * 4)) hab2).trans c0
            replace c1 := (h5.cell (p := ⟨(a.add (i * 4)).block, (a.add (i * 4)).off + 1, none⟩) hab2).trans c1
            replace c2 := (h5.cell (p := ⟨(a.add (i * 4)).block, (a.add (i * 4)).off + 2, none⟩) hab2).trans c2
            replace m0 := (h5.cell (p := ⟨g, k * 4, none⟩) gw).trans m0
            replace m1 := (h5.cell (p := ⟨g, k * 4 + 1, none⟩) gw).trans m1
            replace m2 := (h5.cell (p := ⟨g, k * 4 + 2, none⟩) gw).trans m2
            have d1 : decide ((f0 : Int) + 1 ≤ (k : Int)) = false := by simp; omega
            clear cV c3
            go_wp2_with fail
            go_quiet (fail)
            go_wp2_with fail
            go_roundw
            case rel => exact ⟨f, k2, by omega, by omega, by omega, rfl, rfl, below_drewN hb5 _, H⟩
            case measure => simp [intOf]; omega
        · obtain rfl : i = n := by omega
          obtain rfl : k = f0 := by rw [← Hf0.out]; exact hI.out
          have hlt2 : k < M.length := by omega
          have m0 := HC.out _ _ (tcells_at M k 0 hlt2 (by decide))
          have hk0 : (M[k]'hlt2).kind = 0 := by
            have := HP3.out
            rw [Hf0.out] at this
            exact this hlt2
          have m0 : w4.cell? ⟨g, k * 4, none⟩ = some (.int .i64 0) := by
            refine m0.trans ?_
            show some (Value.int .i64 ((M[k]'hlt2).kind : Int)) = _
            rw [hk0]
            rfl
          replace m0 := (hbr.cell (p := ⟨g, k * 4, none⟩) hg).trans m0
          have hbw := Below.next hb hbr
          obtain ⟨k2, hk2⟩ : ∃ k2, k + 1 = k2 := ⟨_, rfl⟩
          have l12 : (k : Int) + 1 = (k2 : Int) := by omega
          clear hI HA HC HP2 HP3 Hok
          go_wp2_with fail
          refine (cA _ (hE.next hbw)).mono ?_
          rintro e w6 ⟨rfl, hb6⟩
          go_wp2_with fail
          go_ret
          exact ⟨rfl, Below.next hbw hb6⟩
  · have d60 : decide ((60 : Int) < (n : Int)) = true := by simp; omega
    clear hA hT hM
    go_enter Tryd.func4, Tryd.ntmps4
    go_wp2_with fail
    refine (cA _ hE).mono ?_
    rintro e w5 ⟨rfl, hb5⟩
    go_wp2_with fail
    go_ret
    exact ⟨rfl, hb5⟩
end Go.Proofs.YtgifienjfaclmaaDoor

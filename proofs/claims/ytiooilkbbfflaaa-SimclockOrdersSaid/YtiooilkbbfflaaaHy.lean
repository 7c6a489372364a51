import Derived.Test.YtiooilkbbfflaaaHv
import Derived.Test.YtiooilkbbfflaaaHx
import Derived.Test.YtiooilkbbfflaaaG6
/-
  The law that a call which returns an error changes nothing. No conditions beyond those that each names.
-/
namespace Go.Proofs.Ytiooilkbbfflaaa
open Go.RowKit Go.Sort Go.Lib Go.Shelf
theorem addS_err (S : Cs) (t : Int) {p : Nat} : (addS S t p).2.2 ≠ 0 → (addS S t p).1 = S := by
  unfold addS; split
  · split
    · exact fun _ => rfl
    · exact fun h => absurd rfl h
  · exact fun _ => rfl
theorem addS_last (S : Cs) (t : Int) {p : Nat} : (addS S t p).1.last ≤ S.last + 1 := by
  unfold addS; split
  · split
    · exact Nat.le_succ _
    · exact Nat.le_refl _
  · exact Nat.le_succ _
theorem evS_err (S : Cs) (t p : Int) : (evS S t p).2.2 ≠ 0 → (evS S t p).1 = S := by
  unfold evS; split
  · exact fun _ => rfl
  · exact addS_err S t
theorem evS_last (S : Cs) (t p : Int) : (evS S t p).1.last ≤ S.last + 1 := by
  unfold evS; split
  · exact Nat.le_succ _
  · exact addS_last S t
theorem caS_err (S : Cs) (t : Int) : (caS S t).2 ≠ 0 → (caS S t).1 = S := by
  unfold caS; split
  · exact fun _ => rfl
  · exact fun h => absurd rfl h
theorem caS_last (S : Cs) (t : Int) : (caS S t).1.last ≤ S.last + 1 := by
  unfold caS; split <;> exact Nat.le_succ _
theorem adS_err (S : Cs) (t : Int) : (adS S t).2.2 ≠ 0 → (adS S t).1 = S := by
  unfold adS; split
  · split
    · exact fun _ => rfl
    · exact fun h => absurd rfl h
  · exact fun _ => rfl
theorem adS_last (S : Cs) (t : Int) : (adS S t).1.last ≤ S.last + 1 := by
  unfold adS; split
  · split <;> exact Nat.le_succ _
  · exact Nat.le_succ _
/-- A call of a clock is through: what it returned, the clock, and a row of firings that stayed. -/
def FEv (c : Nat) (S' : Cs) (u : Value) (W0 : World) (B : Nat) (x : Value) (l : List (Nat × Nat)) : Fact := ⟨fun v W => v = u ∧ ∃ v4, Ck c W v4 S' ∧ Fm (fun i => c ≤ i) W0 W ∧ OwR B W x l, fun _ _ _ ⟨h, v4, h1, h2, h3⟩ hb => ⟨h, v4, h1.next hb, h2.tr (Fm.of _ hb), own_next h3 hb⟩⟩
theorem fir_len (l : List Tm) : (fir l).length = l.length := by unfold fir; rw [List.length_map]
theorem Cls.at_ {w : World} {A : Option Addr} {n : Nat} {q : Nat → Int × Int × Int} (h : Cls w A n q) {c : Nat} (hc : w.heap.size = c) {k : Nat} (hk : k < n) : ∃ ab ao : Nat, A = some ⟨ab, ao, none⟩ ∧ ∀ W, Fm (fun i => c ≤ i) w W → W.cell? ⟨ab, ao + k * 3, none⟩ = some (.int .i64 (q k).1) ∧ W.cell? ⟨ab, ao + k * 3 + 1, none⟩ = some (.int .i64 (q k).2.1) ∧ W.cell? ⟨ab, ao + k * 3 + 2, none⟩ = some (.int .i64 (q k).2.2) ∧ ab < W.heap.size := by
  rcases h with h | ⟨ab, ao, hA, hab, h⟩
  · omega
  · refine ⟨ab, ao, hA, fun W hW => ?_⟩
    have hb : W.heap[ab]? = w.heap[ab]? := hW.blk ab hab (by omega)
    obtain ⟨h0, h1, h2⟩ := h k hk
    exact ⟨(World.cell?_of_block (a := ⟨ab, ao + k * 3, none⟩) hb).trans h0, (World.cell?_of_block (a := ⟨ab, ao + k * 3 + 1, none⟩) hb).trans h1, (World.cell?_of_block (a := ⟨ab, ao + k * 3 + 2, none⟩) hb).trans h2, Nat.lt_of_lt_of_le hab hW.size⟩
set_option maxRecDepth 100000 in
set_option maxHeartbeats 8000000 in
theorem fails_law (A : Option Addr) (n c0 : Nat) (q : Nat → Int × Int × Int) (w : World) (hn : n ≤ 9223372036854775807) (hC : Cls w A n q) : Calls Try.prog 7 #[.slice A n c0] w (Ib (.bool true) w) := by
  by_cases h40 : 40 < n
  · have d1 : decide ((40 : Int) < (n : Int)) = true := decide_eq_true (by omega)
    have d2 : decide (40 < n) = true := decide_eq_true h40
    clear hC
    go_enter Try.func7, Try.ntmps7
    go_wp2_with (refine (awake_any _).mono ?_; rintro e w1 ⟨rfl, hb1⟩)
    go_ret
    exact ⟨rfl, hb1⟩
  · have d1 : decide ((40 : Int) < (n : Int)) = false := decide_eq_false (by omega)
    have d2 : decide (40 < n) = false := decide_eq_false h40
    obtain ⟨c, hc⟩ : ∃ c, w.heap.size = c := ⟨_, rfl⟩
    have HC := Lib.hid hc
    have HA := Lib.hid hC
    clear hC hc
    have hN := new_any w
    rw [HC.out] at hN
    have hn9 : n ≤ 40 := by omega
    clear hn h40
    go_enter Try.func7, Try.ntmps7
    go_wp2_with (refine hN.mono ?_; rintro e w1 ⟨rfl, K1, hb1⟩)
    have H1 : Hid (Ck c w1 (.slice none 0 0) ⟨0, 0, []⟩ ∧ 0 ≤ 0 ∧ Fm (fun i => c ≤ i) w w1) := Lib.hid ⟨K1, Nat.le_refl _, Fm.of _ (by rw [← HC.out] at hb1; exact hb1)⟩
    clear K1 hb1 hN
    go_loopg [4] n (fun kx s4 wr => ∃ k v S, k ≤ n ∧ s4 = .int .i64 ((k : Nat) : Int) ∧ n - k ≤ kx ∧ Hid (Ck c wr v S ∧ S.last ≤ k ∧ Fm (fun i => c ≤ i) w wr))
    case atStart => exact ⟨0, .slice none 0 0, ⟨0, 0, []⟩, Nat.zero_le _, rfl, by omega, H1⟩
    case round =>
      clear H1
      obtain ⟨k, v, S, hk, rfl, hg, HF⟩ := hrel
      by_cases hlt : k < n
      · obtain ⟨ab, ao, rfl, hQ⟩ := HA.out.at_ HC.out hlt
        have HQ := Lib.hid hQ
        have K0 := HF.out.1
        have F0 := HF.out.2.2
        have HK := Lib.hid HF.out.2.1
        have HLN : Hid ((fir S.l).length ≤ 100000) := Lib.hid (by rw [fir_len]; have := K0.ok.len; omega)
        have HLS : Hid (S.last < 999999) := Lib.hid (by have := HK.out; omega)
        have hkn : (k : Int) < (n : Int) := by omega
        clear hQ
        by_cases x0 : (q k).1 = 0
        · have y0 : ((q k).1 == 0) = true := by simpa using x0
          clear x0
          obtain ⟨R, hR⟩ : ∃ R, addS S (q k).2.1 0 = R := ⟨_, rfl⟩
          have HE : Hid (R.2.2 ≠ 0 → R.1 = S) := Lib.hid (by rw [← hR]; exact addS_err _ _)
          have HL2 : Hid (R.1.last ≤ S.last + 1) := Lib.hid (by rw [← hR]; exact addS_last _ _)
          have HR := Lib.hid hR
          clear hR
          by_cases hE : R.2.2 = 0
          · have e1 : (R.2.2 != 0) = false := by rw [hE]; rfl
            clear hE
            go_wp2_with (first
              | (go_at_call 14; refine (now_any _ _ _ _ K4).mono ?_; rintro e w5 ⟨rfl, hb5⟩; have K5 := K4.next hb5)
              | (go_at_call 14; refine (now_any _ _ _ _ K0).mono ?_; rintro e w1 ⟨rfl, hb1⟩; have K1 := K0.next hb1)
              | (go_at_call 21; refine (pending_any _ _ _ _ K5).mono ?_; rintro e w6 ⟨x6, rfl, ho6, hb6⟩; have K6 := K5.next hb6; obtain ⟨X6, d6, rfl, -⟩ := own_nil_or ho6)
              | (go_at_call 21; refine (pending_any _ _ _ _ K1).mono ?_; rintro e w2 ⟨x2, rfl, ho2, hb2⟩; have K2 := K1.next hb2; obtain ⟨X2, d2, rfl, -⟩ := own_nil_or ho2)
              | (go_at_call 19; refine (plain_any _ _ (fir S.l) _ HLN.out ho6).mono ?_; rintro e w7 ⟨x7, rfl, ho7, hb7⟩; have K7 := K6.next hb7; obtain ⟨X7, d7, rfl, -⟩ := own_nil_or ho7)
              | (go_at_call 19; refine (plain_any _ _ (fir S.l) _ HLN.out ho2).mono ?_; rintro e w3 ⟨x3, rfl, ho3, hb3⟩; have K3 := K2.next hb3; obtain ⟨X3, d3, rfl, -⟩ := own_nil_or ho3; have F3 := ((F0.tr (Fm.of _ hb1)).tr (Fm.of _ hb2)).tr (Fm.of _ hb3); obtain ⟨q0, q1, q2, qb⟩ := HQ.out w3 F3)
              | (go_at_call 15; have cX := add_any _ _ S (q k).2.1 _ K3 HLS.out; rw [HR.out] at cX; refine cX.mono ?_; rintro e w4 ⟨rfl, v4, K4, -, F4⟩)
              | (go_at_call 20; have cS := same_any _ _ _ _ (fir S.l) (fir S.l) w7 HLN.out HLN.out ho7 (own_next (own_next (own_next (OwR.other ho3 F4 K2.lt (fun g e1 e2 => absurd (Nat.lt_of_lt_of_le (K2.sd.own.lt g e2).2 (ho3.lt g e1).1) (Nat.lt_irrefl _))) hb5) hb6) hb7); rw [decide_eq_true (rfl : fir S.l = fir S.l)] at cS; refine cS.mono ?_; rintro e w8 ⟨rfl, hb8⟩; have K8 := K7.next hb8))
            go_roundg (n - (k + 1))
            case measure => omega
            case rel => exact ⟨k + 1, v4, R.1, by omega, rfl, Nat.le_refl _, Lib.hid ⟨K4, Nat.le_trans HL2.out (Nat.succ_le_succ HK.out), F3.tr (K3.low F4 (Nat.le_refl _))⟩⟩
          · have e1 : (R.2.2 != 0) = true := by simpa using hE
            have HS : Hid (R.1 = S) := Lib.hid (HE.out hE)
            clear hE
            have e2 : ((S.now : Int) != (S.now : Int)) = false := by simp
            go_wp2_with (first
              | (go_at_call 14; refine (now_any _ _ _ _ K4).mono ?_; rintro e w5 ⟨rfl, hb5⟩; have K5 := K4.next hb5)
              | (go_at_call 14; refine (now_any _ _ _ _ K0).mono ?_; rintro e w1 ⟨rfl, hb1⟩; have K1 := K0.next hb1)
              | (go_at_call 21; refine (pending_any _ _ _ _ K5).mono ?_; rintro e w6 ⟨x6, rfl, ho6, hb6⟩; have K6 := K5.next hb6; obtain ⟨X6, d6, rfl, -⟩ := own_nil_or ho6)
              | (go_at_call 21; refine (pending_any _ _ _ _ K1).mono ?_; rintro e w2 ⟨x2, rfl, ho2, hb2⟩; have K2 := K1.next hb2; obtain ⟨X2, d2, rfl, -⟩ := own_nil_or ho2)
              | (go_at_call 19; refine (plain_any _ _ (fir S.l) _ HLN.out ho6).mono ?_; rintro e w7 ⟨x7, rfl, ho7, hb7⟩; have K7 := K6.next hb7; obtain ⟨X7, d7, rfl, -⟩ := own_nil_or ho7)
              | (go_at_call 19; refine (plain_any _ _ (fir S.l) _ HLN.out ho2).mono ?_; rintro e w3 ⟨x3, rfl, ho3, hb3⟩; have K3 := K2.next hb3; obtain ⟨X3, d3, rfl, -⟩ := own_nil_or ho3; have F3 := ((F0.tr (Fm.of _ hb1)).tr (Fm.of _ hb2)).tr (Fm.of _ hb3); obtain ⟨q0, q1, q2, qb⟩ := HQ.out w3 F3)
              | (go_at_call 15; have cX := add_any _ _ S (q k).2.1 _ K3 HLS.out; rw [HR.out] at cX; refine cX.mono ?_; rintro e w4 ⟨rfl, v4, K4, -, F4⟩; rw [HS.out] at K4)
              | (go_at_call 20; have cS := same_any _ _ _ _ (fir S.l) (fir S.l) w7 HLN.out HLN.out ho7 (own_next (own_next (own_next (OwR.other ho3 F4 K2.lt (fun g e1 e2 => absurd (Nat.lt_of_lt_of_le (K2.sd.own.lt g e2).2 (ho3.lt g e1).1) (Nat.lt_irrefl _))) hb5) hb6) hb7); rw [decide_eq_true (rfl : fir S.l = fir S.l)] at cS; refine cS.mono ?_; rintro e w8 ⟨rfl, hb8⟩; have K8 := K7.next hb8))
            go_roundg (n - (k + 1))
            case measure => omega
            case rel => exact ⟨k + 1, v4, S, by omega, rfl, Nat.le_refl _, Lib.hid ⟨K8, Nat.le_succ_of_le HK.out, ((((F3.tr (K3.low F4 (Nat.le_refl _))).tr (Fm.of _ hb5)).tr (Fm.of _ hb6)).tr (Fm.of _ hb7)).tr (Fm.of _ hb8)⟩⟩
        · have z0 : ((q k).1 == 0) = false := by simpa using x0
          clear x0
          by_cases x1 : (q k).1 = 1
          · have y1 : ((q k).1 == 1) = true := by simpa using x1
            clear x1
            obtain ⟨R, hR⟩ : ∃ R, evS S (q k).2.1 (q k).2.2 = R := ⟨_, rfl⟩
            have HE : Hid (R.2.2 ≠ 0 → R.1 = S) := Lib.hid (by rw [← hR]; exact evS_err _ _ _)
            have HL2 : Hid (R.1.last ≤ S.last + 1) := Lib.hid (by rw [← hR]; exact evS_last _ _ _)
            have HR := Lib.hid hR
            clear hR
            by_cases hE : R.2.2 = 0
            · have e1 : (R.2.2 != 0) = false := by rw [hE]; rfl
              clear hE
              go_upto_region 14 with (first | (go_at_call 14; refine (now_any _ _ _ _ K0).mono ?_; rintro e w1 ⟨rfl, hb1⟩; have K1 := K0.next hb1) | (go_at_call 21; refine (pending_any _ _ _ _ K1).mono ?_; rintro e w2 ⟨x2, rfl, ho2, hb2⟩; have K2 := K1.next hb2; obtain ⟨X2, d2, rfl, -⟩ := own_nil_or ho2) | (go_at_call 19; refine (plain_any _ _ (fir S.l) _ HLN.out ho2).mono ?_; rintro e w3 ⟨x3, rfl, ho3, hb3⟩; have K3 := K2.next hb3; obtain ⟨X3, d3, rfl, -⟩ := own_nil_or ho3; have F3 := ((F0.tr (Fm.of _ hb1)).tr (Fm.of _ hb2)).tr (Fm.of _ hb3); obtain ⟨q0, q1, q2, qb⟩ := HQ.out w3 F3))
              obtain ⟨SS, hSd⟩ : ∃ SS : World → Prop, (fun W : World => Fm (fun i => c ≤ i) w3 W) = SS := ⟨_, rfl⟩
              have hSi : ∀ W, SS W ↔ Fm (fun i => c ≤ i) w3 W := fun W => by rw [← hSd]
              have hSS : Keeps SS := fun W W' h hb => by rw [hSi] at h ⊢; exact h.tr (Fm.of _ hb)
              have hSS0 : SS w3 := by rw [hSi]; exact Fm.refl _ _
              obtain ⟨RR, hRd⟩ : ∃ RR : World → World → Prop, (fun W W' : World => Fm (fun i => c ≤ i) W W') = RR := ⟨_, rfl⟩
              have hRB : ∀ W W' : World, Below W.heap.size W W' → RR W W' := fun W W' hb => by rw [← hRd]; exact Fm.of _ hb
              have hRt : ∀ W W1 W2 : World, RR W W1 → RR W1 W2 → RR W W2 := fun W W1 W2 h k => by rw [← hRd] at h k ⊢; exact h.tr k
              have hSR : ∀ W W' : World, SS W → RR W W' → SS W' := fun W W' h k => by rw [hSi] at h ⊢; rw [← hRd] at k; exact h.tr k
              have HQS := Lib.hid (fun W (h : SS W) => HQ.out W (F3.tr ((hSi W).1 h)))
              have hEV : ∀ W, Below w3.heap.size w3 W → Calls Try.prog 18 #[(.pointer (some ⟨c, 0, none⟩)), (.int .i64 (q k).2.1), (.int .i64 (q k).2.2)] W (fun e w' => e = .returned (.tuple #[.int .i64 (R.2.1 : Int), .int .i64 R.2.2]) ∧ (FEv c R.1 (.tuple #[.int .i64 (R.2.1 : Int), .int .i64 R.2.2]) w3 w2.heap.size (.slice X3 (fir S.l).length d3) (fir S.l)).holds (.tuple #[.int .i64 (R.2.1 : Int), .int .i64 R.2.2]) w' ∧ RR W w') := fun W hb => by
                have K9 := K3.next hb
                have cX := every_any _ _ S (q k).2.1 (q k).2.2 _ K9 HLS.out
                rw [HR.out] at cX
                refine cX.mono ?_
                rintro e w' ⟨rfl, v4, K4, -, F4⟩
                have G4 := K9.low F4 (Nat.le_refl _)
                exact ⟨rfl, ⟨rfl, v4, K4, (Fm.of _ hb).tr G4, OwR.other (own_next ho3 hb) F4 K2.lt (fun g e1 e2 => absurd (Nat.lt_of_lt_of_le (K2.sd.own.lt g e2).2 (ho3.lt g e1).1) (Nat.lt_irrefl _))⟩, by rw [← hRd]; exact G4⟩
              have HEV := Lib.hid hEV
              clear hEV
              refine wp_region_one (by kernel_rfl) (FF [(3, Fact.atS SS hSS (.pointer (some ⟨c, 0, none⟩))), (0, Fact.atS SS hSS (.slice (some ⟨ab, ao, none⟩) n c0)), (4, Fact.atS SS hSS (.int .i64 (k : Int))), (54, Fact.atS SS hSS (.pointer (some ⟨c, 0, none⟩))), (55, Fact.atS SS hSS (.slice (some ⟨ab, ao, none⟩) n c0)), (56, Fact.atS SS hSS (.int .i64 (k : Int))), (57, Fact.atS SS hSS (.pointer (some ⟨ab, ao + k * 3, none⟩))), (58, Fact.atS SS hSS (.pointer (some ⟨ab, ao + k * 3 + 1, none⟩))), (59, Fact.atS SS hSS (.int .i64 (q k).2.1)), (60, Fact.atS SS hSS (.slice (some ⟨ab, ao, none⟩) n c0)), (61, Fact.atS SS hSS (.int .i64 (k : Int))), (62, Fact.atS SS hSS (.pointer (some ⟨ab, ao + k * 3, none⟩))), (63, Fact.atS SS hSS (.pointer (some ⟨ab, ao + k * 3 + 2, none⟩))), (64, Fact.atS SS hSS (.int .i64 (q k).2.2)), (65, FEv c R.1 (.tuple #[.int .i64 (R.2.1 : Int), .int .i64 R.2.2]) w3 w2.heap.size (.slice X3 (fir S.l).length d3) (fir S.l)), (53, Fact.atS SS hSS (.tuple #[.int .i64 (R.2.1 : Int), .int .i64 R.2.2])), (66, Fact.atS SS hSS (.int .i64 (R.2.1 : Int))), (67, Fact.atS SS hSS (.int .i64 R.2.2)), (7, Fact.atS SS hSS (.int .i64 R.2.2))]) RR hRB hRt 11 65 rfl (FF_keep (fcs ⟨fun _ => atS_keep (hS := hSS) hSR, fcs ⟨fun _ => atS_keep (hS := hSS) hSR, fcs ⟨fun _ => atS_keep (hS := hSS) hSR, fcs ⟨fun _ => atS_keep (hS := hSS) hSR, fcs ⟨fun _ => atS_keep (hS := hSS) hSR, fcs ⟨fun _ => atS_keep (hS := hSS) hSR, fcs ⟨fun _ => atS_keep (hS := hSS) hSR, fcs ⟨fun _ => atS_keep (hS := hSS) hSR, fcs ⟨fun _ => atS_keep (hS := hSS) hSR, fcs ⟨fun _ => atS_keep (hS := hSS) hSR, fcs ⟨fun _ => atS_keep (hS := hSS) hSR, fcs ⟨fun _ => atS_keep (hS := hSS) hSR, fcs ⟨fun _ => atS_keep (hS := hSS) hSR, fcs ⟨fun _ => atS_keep (hS := hSS) hSR, fcs ⟨fun h => absurd rfl h, fcs ⟨fun _ => atS_keep (hS := hSS) hSR, fcs ⟨fun _ => atS_keep (hS := hSS) hSR, fcs ⟨fun _ => atS_keep (hS := hSS) hSR, fcs ⟨fun _ => atS_keep (hS := hSS) hSR, fnl⟩⟩⟩⟩⟩⟩⟩⟩⟩⟩⟩⟩⟩⟩⟩⟩⟩⟩⟩)) [3, 0, 4] 94 16 [54, 55, 56, 57, 58, 59, 60, 61, 62, 63, 64, 65, 53, 66, 67, 7] rfl (by kernel_rfl) (by kernel_rfl) (by decide) (by kernel_rfl) ?_ ?_ ?_ ?_
              · intro t9 ht9
                simp only [List.mem_cons, List.not_mem_nil, or_false] at ht9
                rcases ht9 with rfl | rfl | rfl
                · exact ⟨rfl, hSS0⟩
                · exact ⟨rfl, hSS0⟩
                · exact ⟨rfl, hSS0⟩
              · intro i9 o9 hi9 hk9 ho9
                match i9, hi9 with
                | 0, _ => have e9 := Option.some.inj ho9; subst e9; exact atscopy (hS := hSS) 3 54 (.pointer (some ⟨c, 0, none⟩)) (.inl rfl) rfl rfl (by kernel_rfl) rfl rfl
                | 1, _ => have e9 := Option.some.inj ho9; subst e9; exact atscopy (hS := hSS) 0 55 (.slice (some ⟨ab, ao, none⟩) n c0) (.inl rfl) rfl rfl (by kernel_rfl) rfl rfl
                | 2, _ => have e9 := Option.some.inj ho9; subst e9; exact atscopy (hS := hSS) 4 56 (.int .i64 (k : Int)) (.inl rfl) rfl rfl (by kernel_rfl) rfl rfl
                | 3, _ => have e9 := Option.some.inj ho9; subst e9; exact ats2 (hS := hSS) 55 56 57 (.slice (some ⟨ab, ao, none⟩) n c0) (.int .i64 (k : Int)) (.pointer (some ⟨ab, ao + k * 3, none⟩)) rfl rfl (by kernel_rfl) (by kernel_rfl) rfl rfl rfl (fun a9 W9 hb9 h9 h8 => by simp [execOp, h9, h8] <;> go_simp)
                | 4, _ => have e9 := Option.some.inj ho9; subst e9; exact ats1 (hS := hSS) 57 58 (.pointer (some ⟨ab, ao + k * 3, none⟩)) (.pointer (some ⟨ab, ao + k * 3 + 1, none⟩)) rfl rfl (by kernel_rfl) rfl rfl (fun a9 W9 hb9 h9 => by simp [execOp, h9] <;> go_simp)
                | 5, _ => have e9 := Option.some.inj ho9; subst e9; exact ats1 (hS := hSS) 58 59 (.pointer (some ⟨ab, ao + k * 3 + 1, none⟩)) (.int .i64 (q k).2.1) rfl rfl (by kernel_rfl) rfl rfl (fun a9 W9 hb9 h9 => by have g0 := (HQS.out W9 hb9).2.1; simp [execOp, h9] <;> go_simp)
                | 6, _ => have e9 := Option.some.inj ho9; subst e9; exact atscopy (hS := hSS) 0 60 (.slice (some ⟨ab, ao, none⟩) n c0) (.inl rfl) rfl rfl (by kernel_rfl) rfl rfl
                | 7, _ => have e9 := Option.some.inj ho9; subst e9; exact atscopy (hS := hSS) 4 61 (.int .i64 (k : Int)) (.inl rfl) rfl rfl (by kernel_rfl) rfl rfl
                | 8, _ => have e9 := Option.some.inj ho9; subst e9; exact ats2 (hS := hSS) 60 61 62 (.slice (some ⟨ab, ao, none⟩) n c0) (.int .i64 (k : Int)) (.pointer (some ⟨ab, ao + k * 3, none⟩)) rfl rfl (by kernel_rfl) (by kernel_rfl) rfl rfl rfl (fun a9 W9 hb9 h9 h8 => by simp [execOp, h9, h8] <;> go_simp)
                | 9, _ => have e9 := Option.some.inj ho9; subst e9; exact ats1 (hS := hSS) 62 63 (.pointer (some ⟨ab, ao + k * 3, none⟩)) (.pointer (some ⟨ab, ao + k * 3 + 2, none⟩)) rfl rfl (by kernel_rfl) rfl rfl (fun a9 W9 hb9 h9 => by simp [execOp, h9] <;> go_simp)
                | 10, _ => have e9 := Option.some.inj ho9; subst e9; exact ats1 (hS := hSS) 63 64 (.pointer (some ⟨ab, ao + k * 3 + 2, none⟩)) (.int .i64 (q k).2.2) rfl rfl (by kernel_rfl) rfl rfl (fun a9 W9 hb9 h9 => by have g0 := (HQS.out W9 hb9).2.2.1; simp [execOp, h9] <;> go_simp)
                | 11, _ => exact absurd rfl hk9
                | 12, _ => have e9 := Option.some.inj ho9; subst e9; exact ats_val rfl (fun a9 W9 hf9 => by have p65 := hf9 65 (by kernel_rfl); have h9 : a9.eval (.tmp 65) = (.tuple #[.int .i64 (R.2.1 : Int), .int .i64 R.2.2]) := p65.1; exact ⟨(.tuple #[.int .i64 (R.2.1 : Int), .int .i64 R.2.2]), W9, by simp [execOp, h9] <;> go_simp, Below.refl _ _, fun s hs => by injection hs with hs; subst hs; exact ⟨rfl, (hSi W9).2 p65.2.choose_spec.2.1⟩⟩)
                | 13, _ => have e9 := Option.some.inj ho9; subst e9; exact ats1 (hS := hSS) 53 66 (.tuple #[.int .i64 (R.2.1 : Int), .int .i64 R.2.2]) (.int .i64 (R.2.1 : Int)) rfl rfl (by kernel_rfl) rfl rfl (fun a9 W9 hb9 h9 => by simp [execOp, h9] <;> go_simp)
                | 14, _ => have e9 := Option.some.inj ho9; subst e9; exact ats1 (hS := hSS) 53 67 (.tuple #[.int .i64 (R.2.1 : Int), .int .i64 R.2.2]) (.int .i64 R.2.2) rfl rfl (by kernel_rfl) rfl rfl (fun a9 W9 hb9 h9 => by simp [execOp, h9] <;> go_simp)
                | 15, _ => have e9 := Option.some.inj ho9; subst e9; exact atscopy (hS := hSS) 67 7 (.int .i64 R.2.2) (.inr rfl) rfl rfl (by kernel_rfl) rfl rfl
              · intro o9 ho9
                have e9 := Option.some.inj ho9
                subst e9
                exact ats_enterR rfl (fun a9 W9 hf9 hlow9 => by have q54 : a9.tmps.getD 54 undef = (.pointer (some ⟨c, 0, none⟩)) := (hf9 54 (by kernel_rfl)).1; have q59 : a9.tmps.getD 59 undef = (.int .i64 (q k).2.1) := (hf9 59 (by kernel_rfl)).1; have q64 : a9.tmps.getD 64 undef = (.int .i64 (q k).2.2) := (hf9 64 (by kernel_rfl)).1; exact ⟨18, #[(.pointer (some ⟨c, 0, none⟩)), (.int .i64 (q k).2.1), (.int .i64 (q k).2.2)], by rw [← q54, ← q59, ← q64]; simpa [execOp, resolve, Act.eval] using run_invoke (by kernel_rfl) _ W9, (HEV.out W9 hlow9).mono fun e w' ⟨e1, e2, e3⟩ => ⟨(.tuple #[.int .i64 (R.2.1 : Int), .int .i64 R.2.2]), e1, e3, fun s hs => by injection hs with hs; subst hs; exact e2⟩⟩)
              intro vv wv hvv hRv
              have hv54 : vv 54 = (.pointer (some ⟨c, 0, none⟩)) := (hvv 54 (by decide)).1
              have hv55 : vv 55 = (.slice (some ⟨ab, ao, none⟩) n c0) := (hvv 55 (by decide)).1
              have hv56 : vv 56 = (.int .i64 (k : Int)) := (hvv 56 (by decide)).1
              have hv57 : vv 57 = (.pointer (some ⟨ab, ao + k * 3, none⟩)) := (hvv 57 (by decide)).1
              have hv58 : vv 58 = (.pointer (some ⟨ab, ao + k * 3 + 1, none⟩)) := (hvv 58 (by decide)).1
              have hv59 : vv 59 = (.int .i64 (q k).2.1) := (hvv 59 (by decide)).1
              have hv60 : vv 60 = (.slice (some ⟨ab, ao, none⟩) n c0) := (hvv 60 (by decide)).1
              have hv61 : vv 61 = (.int .i64 (k : Int)) := (hvv 61 (by decide)).1
              have hv62 : vv 62 = (.pointer (some ⟨ab, ao + k * 3, none⟩)) := (hvv 62 (by decide)).1
              have hv63 : vv 63 = (.pointer (some ⟨ab, ao + k * 3 + 2, none⟩)) := (hvv 63 (by decide)).1
              have hv64 : vv 64 = (.int .i64 (q k).2.2) := (hvv 64 (by decide)).1
              obtain ⟨hv65, v4, K4, F4, ho4⟩ := hvv 65 (by decide)
              have hv53 : vv 53 = (.tuple #[.int .i64 (R.2.1 : Int), .int .i64 R.2.2]) := (hvv 53 (by decide)).1
              have hv66 : vv 66 = (.int .i64 (R.2.1 : Int)) := (hvv 66 (by decide)).1
              have hv67 : vv 67 = (.int .i64 R.2.2) := (hvv 67 (by decide)).1
              have hv7 : vv 7 = (.int .i64 R.2.2) := (hvv 7 (by decide)).1
              simp only [lay, List.foldl_cons, List.foldl_nil, List.setIfInBounds_toArray, List.set_cons_succ, List.set_cons_zero, hv54, hv55, hv56, hv57, hv58, hv59, hv60, hv61, hv62, hv63, hv64, hv65, hv53, hv66, hv67, hv7, List.drop_succ_cons, List.drop_zero]
              clear hvv HEV HQS hSS hSi hSS0 hSd hRd hRB hRt hSR hRv q0 q1 q2 qb
              go_wp2_with (first
                | (go_at_call 14; refine (now_any _ _ _ _ K4).mono ?_; rintro e w5 ⟨rfl, hb5⟩; have K5 := K4.next hb5)
                | (go_at_call 21; refine (pending_any _ _ _ _ K5).mono ?_; rintro e w6 ⟨x6, rfl, ho6, hb6⟩; have K6 := K5.next hb6; obtain ⟨X6, d6, rfl, -⟩ := own_nil_or ho6)
                | (go_at_call 19; refine (plain_any _ _ (fir S.l) _ HLN.out ho6).mono ?_; rintro e w7 ⟨x7, rfl, ho7, hb7⟩; have K7 := K6.next hb7; obtain ⟨X7, d7, rfl, -⟩ := own_nil_or ho7)
                | (go_at_call 20; have cS := same_any _ _ _ _ (fir S.l) (fir S.l) w7 HLN.out HLN.out ho7 (own_next (own_next (own_next ho4 hb5) hb6) hb7); rw [decide_eq_true (rfl : fir S.l = fir S.l)] at cS; refine cS.mono ?_; rintro e w8 ⟨rfl, hb8⟩; have K8 := K7.next hb8))
              go_roundg (n - (k + 1))
              case measure => omega
              case rel => exact ⟨k + 1, v4, R.1, by omega, rfl, Nat.le_refl _, Lib.hid ⟨K4, Nat.le_trans HL2.out (Nat.succ_le_succ HK.out), F3.tr F4⟩⟩
            · have e1 : (R.2.2 != 0) = true := by simpa using hE
              have HS : Hid (R.1 = S) := Lib.hid (HE.out hE)
              clear hE
              have e2 : ((S.now : Int) != (S.now : Int)) = false := by simp
              go_upto_region 14 with (first | (go_at_call 14; refine (now_any _ _ _ _ K0).mono ?_; rintro e w1 ⟨rfl, hb1⟩; have K1 := K0.next hb1) | (go_at_call 21; refine (pending_any _ _ _ _ K1).mono ?_; rintro e w2 ⟨x2, rfl, ho2, hb2⟩; have K2 := K1.next hb2; obtain ⟨X2, d2, rfl, -⟩ := own_nil_or ho2) | (go_at_call 19; refine (plain_any _ _ (fir S.l) _ HLN.out ho2).mono ?_; rintro e w3 ⟨x3, rfl, ho3, hb3⟩; have K3 := K2.next hb3; obtain ⟨X3, d3, rfl, -⟩ := own_nil_or ho3; have F3 := ((F0.tr (Fm.of _ hb1)).tr (Fm.of _ hb2)).tr (Fm.of _ hb3); obtain ⟨q0, q1, q2, qb⟩ := HQ.out w3 F3))
              obtain ⟨SS, hSd⟩ : ∃ SS : World → Prop, (fun W : World => Fm (fun i => c ≤ i) w3 W) = SS := ⟨_, rfl⟩
              have hSi : ∀ W, SS W ↔ Fm (fun i => c ≤ i) w3 W := fun W => by rw [← hSd]
              have hSS : Keeps SS := fun W W' h hb => by rw [hSi] at h ⊢; exact h.tr (Fm.of _ hb)
              have hSS0 : SS w3 := by rw [hSi]; exact Fm.refl _ _
              obtain ⟨RR, hRd⟩ : ∃ RR : World → World → Prop, (fun W W' : World => Fm (fun i => c ≤ i) W W') = RR := ⟨_, rfl⟩
              have hRB : ∀ W W' : World, Below W.heap.size W W' → RR W W' := fun W W' hb => by rw [← hRd]; exact Fm.of _ hb
              have hRt : ∀ W W1 W2 : World, RR W W1 → RR W1 W2 → RR W W2 := fun W W1 W2 h k => by rw [← hRd] at h k ⊢; exact h.tr k
              have hSR : ∀ W W' : World, SS W → RR W W' → SS W' := fun W W' h k => by rw [hSi] at h ⊢; rw [← hRd] at k; exact h.tr k
              have HQS := Lib.hid (fun W (h : SS W) => HQ.out W (F3.tr ((hSi W).1 h)))
              have hEV : ∀ W, Below w3.heap.size w3 W → Calls Try.prog 18 #[(.pointer (some ⟨c, 0, none⟩)), (.int .i64 (q k).2.1), (.int .i64 (q k).2.2)] W (fun e w' => e = .returned (.tuple #[.int .i64 (R.2.1 : Int), .int .i64 R.2.2]) ∧ (FEv c R.1 (.tuple #[.int .i64 (R.2.1 : Int), .int .i64 R.2.2]) w3 w2.heap.size (.slice X3 (fir S.l).length d3) (fir S.l)).holds (.tuple #[.int .i64 (R.2.1 : Int), .int .i64 R.2.2]) w' ∧ RR W w') := fun W hb => by
                have K9 := K3.next hb
                have cX := every_any _ _ S (q k).2.1 (q k).2.2 _ K9 HLS.out
                rw [HR.out] at cX
                refine cX.mono ?_
                rintro e w' ⟨rfl, v4, K4, -, F4⟩
                have G4 := K9.low F4 (Nat.le_refl _)
                exact ⟨rfl, ⟨rfl, v4, K4, (Fm.of _ hb).tr G4, OwR.other (own_next ho3 hb) F4 K2.lt (fun g e1 e2 => absurd (Nat.lt_of_lt_of_le (K2.sd.own.lt g e2).2 (ho3.lt g e1).1) (Nat.lt_irrefl _))⟩, by rw [← hRd]; exact G4⟩
              have HEV := Lib.hid hEV
              clear hEV
              refine wp_region_one (by kernel_rfl) (FF [(3, Fact.atS SS hSS (.pointer (some ⟨c, 0, none⟩))), (0, Fact.atS SS hSS (.slice (some ⟨ab, ao, none⟩) n c0)), (4, Fact.atS SS hSS (.int .i64 (k : Int))), (54, Fact.atS SS hSS (.pointer (some ⟨c, 0, none⟩))), (55, Fact.atS SS hSS (.slice (some ⟨ab, ao, none⟩) n c0)), (56, Fact.atS SS hSS (.int .i64 (k : Int))), (57, Fact.atS SS hSS (.pointer (some ⟨ab, ao + k * 3, none⟩))), (58, Fact.atS SS hSS (.pointer (some ⟨ab, ao + k * 3 + 1, none⟩))), (59, Fact.atS SS hSS (.int .i64 (q k).2.1)), (60, Fact.atS SS hSS (.slice (some ⟨ab, ao, none⟩) n c0)), (61, Fact.atS SS hSS (.int .i64 (k : Int))), (62, Fact.atS SS hSS (.pointer (some ⟨ab, ao + k * 3, none⟩))), (63, Fact.atS SS hSS (.pointer (some ⟨ab, ao + k * 3 + 2, none⟩))), (64, Fact.atS SS hSS (.int .i64 (q k).2.2)), (65, FEv c R.1 (.tuple #[.int .i64 (R.2.1 : Int), .int .i64 R.2.2]) w3 w2.heap.size (.slice X3 (fir S.l).length d3) (fir S.l)), (53, Fact.atS SS hSS (.tuple #[.int .i64 (R.2.1 : Int), .int .i64 R.2.2])), (66, Fact.atS SS hSS (.int .i64 (R.2.1 : Int))), (67, Fact.atS SS hSS (.int .i64 R.2.2)), (7, Fact.atS SS hSS (.int .i64 R.2.2))]) RR hRB hRt 11 65 rfl (FF_keep (fcs ⟨fun _ => atS_keep (hS := hSS) hSR, fcs ⟨fun _ => atS_keep (hS := hSS) hSR, fcs ⟨fun _ => atS_keep (hS := hSS) hSR, fcs ⟨fun _ => atS_keep (hS := hSS) hSR, fcs ⟨fun _ => atS_keep (hS := hSS) hSR, fcs ⟨fun _ => atS_keep (hS := hSS) hSR, fcs ⟨fun _ => atS_keep (hS := hSS) hSR, fcs ⟨fun _ => atS_keep (hS := hSS) hSR, fcs ⟨fun _ => atS_keep (hS := hSS) hSR, fcs ⟨fun _ => atS_keep (hS := hSS) hSR, fcs ⟨fun _ => atS_keep (hS := hSS) hSR, fcs ⟨fun _ => atS_keep (hS := hSS) hSR, fcs ⟨fun _ => atS_keep (hS := hSS) hSR, fcs ⟨fun _ => atS_keep (hS := hSS) hSR, fcs ⟨fun h => absurd rfl h, fcs ⟨fun _ => atS_keep (hS := hSS) hSR, fcs ⟨fun _ => atS_keep (hS := hSS) hSR, fcs ⟨fun _ => atS_keep (hS := hSS) hSR, fcs ⟨fun _ => atS_keep (hS := hSS) hSR, fnl⟩⟩⟩⟩⟩⟩⟩⟩⟩⟩⟩⟩⟩⟩⟩⟩⟩⟩⟩)) [3, 0, 4] 94 16 [54, 55, 56, 57, 58, 59, 60, 61, 62, 63, 64, 65, 53, 66, 67, 7] rfl (by kernel_rfl) (by kernel_rfl) (by decide) (by kernel_rfl) ?_ ?_ ?_ ?_
              · intro t9 ht9
                simp only [List.mem_cons, List.not_mem_nil, or_false] at ht9
                rcases ht9 with rfl | rfl | rfl
                · exact ⟨rfl, hSS0⟩
                · exact ⟨rfl, hSS0⟩
                · exact ⟨rfl, hSS0⟩
              · intro i9 o9 hi9 hk9 ho9
                match i9, hi9 with
                | 0, _ => have e9 := Option.some.inj ho9; subst e9; exact atscopy (hS := hSS) 3 54 (.pointer (some ⟨c, 0, none⟩)) (.inl rfl) rfl rfl (by kernel_rfl) rfl rfl
                | 1, _ => have e9 := Option.some.inj ho9; subst e9; exact atscopy (hS := hSS) 0 55 (.slice (some ⟨ab, ao, none⟩) n c0) (.inl rfl) rfl rfl (by kernel_rfl) rfl rfl
                | 2, _ => have e9 := Option.some.inj ho9; subst e9; exact atscopy (hS := hSS) 4 56 (.int .i64 (k : Int)) (.inl rfl) rfl rfl (by kernel_rfl) rfl rfl
                | 3, _ => have e9 := Option.some.inj ho9; subst e9; exact ats2 (hS := hSS) 55 56 57 (.slice (some ⟨ab, ao, none⟩) n c0) (.int .i64 (k : Int)) (.pointer (some ⟨ab, ao + k * 3, none⟩)) rfl rfl (by kernel_rfl) (by kernel_rfl) rfl rfl rfl (fun a9 W9 hb9 h9 h8 => by simp [execOp, h9, h8] <;> go_simp)
                | 4, _ => have e9 := Option.some.inj ho9; subst e9; exact ats1 (hS := hSS) 57 58 (.pointer (some ⟨ab, ao + k * 3, none⟩)) (.pointer (some ⟨ab, ao + k * 3 + 1, none⟩)) rfl rfl (by kernel_rfl) rfl rfl (fun a9 W9 hb9 h9 => by simp [execOp, h9] <;> go_simp)
                | 5, _ => have e9 := Option.some.inj ho9; subst e9; exact ats1 (hS := hSS) 58 59 (.pointer (some ⟨ab, ao + k * 3 + 1, none⟩)) (.int .i64 (q k).2.1) rfl rfl (by kernel_rfl) rfl rfl (fun a9 W9 hb9 h9 => by have g0 := (HQS.out W9 hb9).2.1; simp [execOp, h9] <;> go_simp)
                | 6, _ => have e9 := Option.some.inj ho9; subst e9; exact atscopy (hS := hSS) 0 60 (.slice (some ⟨ab, ao, none⟩) n c0) (.inl rfl) rfl rfl (by kernel_rfl) rfl rfl
                | 7, _ => have e9 := Option.some.inj ho9; subst e9; exact atscopy (hS := hSS) 4 61 (.int .i64 (k : Int)) (.inl rfl) rfl rfl (by kernel_rfl) rfl rfl
                | 8, _ => have e9 := Option.some.inj ho9; subst e9; exact ats2 (hS := hSS) 60 61 62 (.slice (some ⟨ab, ao, none⟩) n c0) (.int .i64 (k : Int)) (.pointer (some ⟨ab, ao + k * 3, none⟩)) rfl rfl (by kernel_rfl) (by kernel_rfl) rfl rfl rfl (fun a9 W9 hb9 h9 h8 => by simp [execOp, h9, h8] <;> go_simp)
                | 9, _ => have e9 := Option.some.inj ho9; subst e9; exact ats1 (hS := hSS) 62 63 (.pointer (some ⟨ab, ao + k * 3, none⟩)) (.pointer (some ⟨ab, ao + k * 3 + 2, none⟩)) rfl rfl (by kernel_rfl) rfl rfl (fun a9 W9 hb9 h9 => by simp [execOp, h9] <;> go_simp)
                | 10, _ => have e9 := Option.some.inj ho9; subst e9; exact ats1 (hS := hSS) 63 64 (.pointer (some ⟨ab, ao + k * 3 + 2, none⟩)) (.int .i64 (q k).2.2) rfl rfl (by kernel_rfl) rfl rfl (fun a9 W9 hb9 h9 => by have g0 := (HQS.out W9 hb9).2.2.1; simp [execOp, h9] <;> go_simp)
                | 11, _ => exact absurd rfl hk9
                | 12, _ => have e9 := Option.some.inj ho9; subst e9; exact ats_val rfl (fun a9 W9 hf9 => by have p65 := hf9 65 (by kernel_rfl); have h9 : a9.eval (.tmp 65) = (.tuple #[.int .i64 (R.2.1 : Int), .int .i64 R.2.2]) := p65.1; exact ⟨(.tuple #[.int .i64 (R.2.1 : Int), .int .i64 R.2.2]), W9, by simp [execOp, h9] <;> go_simp, Below.refl _ _, fun s hs => by injection hs with hs; subst hs; exact ⟨rfl, (hSi W9).2 p65.2.choose_spec.2.1⟩⟩)
                | 13, _ => have e9 := Option.some.inj ho9; subst e9; exact ats1 (hS := hSS) 53 66 (.tuple #[.int .i64 (R.2.1 : Int), .int .i64 R.2.2]) (.int .i64 (R.2.1 : Int)) rfl rfl (by kernel_rfl) rfl rfl (fun a9 W9 hb9 h9 => by simp [execOp, h9] <;> go_simp)
                | 14, _ => have e9 := Option.some.inj ho9; subst e9; exact ats1 (hS := hSS) 53 67 (.tuple #[.int .i64 (R.2.1 : Int), .int .i64 R.2.2]) (.int .i64 R.2.2) rfl rfl (by kernel_rfl) rfl rfl (fun a9 W9 hb9 h9 => by simp [execOp, h9] <;> go_simp)
                | 15, _ => have e9 := Option.some.inj ho9; subst e9; exact atscopy (hS := hSS) 67 7 (.int .i64 R.2.2) (.inr rfl) rfl rfl (by kernel_rfl) rfl rfl
              · intro o9 ho9
                have e9 := Option.some.inj ho9
                subst e9
                exact ats_enterR rfl (fun a9 W9 hf9 hlow9 => by have q54 : a9.tmps.getD 54 undef = (.pointer (some ⟨c, 0, none⟩)) := (hf9 54 (by kernel_rfl)).1; have q59 : a9.tmps.getD 59 undef = (.int .i64 (q k).2.1) := (hf9 59 (by kernel_rfl)).1; have q64 : a9.tmps.getD 64 undef = (.int .i64 (q k).2.2) := (hf9 64 (by kernel_rfl)).1; exact ⟨18, #[(.pointer (some ⟨c, 0, none⟩)), (.int .i64 (q k).2.1), (.int .i64 (q k).2.2)], by rw [← q54, ← q59, ← q64]; simpa [execOp, resolve, Act.eval] using run_invoke (by kernel_rfl) _ W9, (HEV.out W9 hlow9).mono fun e w' ⟨e1, e2, e3⟩ => ⟨(.tuple #[.int .i64 (R.2.1 : Int), .int .i64 R.2.2]), e1, e3, fun s hs => by injection hs with hs; subst hs; exact e2⟩⟩)
              intro vv wv hvv hRv
              have hv54 : vv 54 = (.pointer (some ⟨c, 0, none⟩)) := (hvv 54 (by decide)).1
              have hv55 : vv 55 = (.slice (some ⟨ab, ao, none⟩) n c0) := (hvv 55 (by decide)).1
              have hv56 : vv 56 = (.int .i64 (k : Int)) := (hvv 56 (by decide)).1
              have hv57 : vv 57 = (.pointer (some ⟨ab, ao + k * 3, none⟩)) := (hvv 57 (by decide)).1
              have hv58 : vv 58 = (.pointer (some ⟨ab, ao + k * 3 + 1, none⟩)) := (hvv 58 (by decide)).1
              have hv59 : vv 59 = (.int .i64 (q k).2.1) := (hvv 59 (by decide)).1
              have hv60 : vv 60 = (.slice (some ⟨ab, ao, none⟩) n c0) := (hvv 60 (by decide)).1
              have hv61 : vv 61 = (.int .i64 (k : Int)) := (hvv 61 (by decide)).1
              have hv62 : vv 62 = (.pointer (some ⟨ab, ao + k * 3, none⟩)) := (hvv 62 (by decide)).1
              have hv63 : vv 63 = (.pointer (some ⟨ab, ao + k * 3 + 2, none⟩)) := (hvv 63 (by decide)).1
              have hv64 : vv 64 = (.int .i64 (q k).2.2) := (hvv 64 (by decide)).1
              obtain ⟨hv65, v4, K4, F4, ho4⟩ := hvv 65 (by decide)
              have hv53 : vv 53 = (.tuple #[.int .i64 (R.2.1 : Int), .int .i64 R.2.2]) := (hvv 53 (by decide)).1
              have hv66 : vv 66 = (.int .i64 (R.2.1 : Int)) := (hvv 66 (by decide)).1
              have hv67 : vv 67 = (.int .i64 R.2.2) := (hvv 67 (by decide)).1
              have hv7 : vv 7 = (.int .i64 R.2.2) := (hvv 7 (by decide)).1
              simp only [lay, List.foldl_cons, List.foldl_nil, List.setIfInBounds_toArray, List.set_cons_succ, List.set_cons_zero, hv54, hv55, hv56, hv57, hv58, hv59, hv60, hv61, hv62, hv63, hv64, hv65, hv53, hv66, hv67, hv7, List.drop_succ_cons, List.drop_zero]
              rw [HS.out] at K4
              clear hvv HEV HQS hSS hSi hSS0 hSd hRd hRB hRt hSR hRv q0 q1 q2 qb
              go_wp2_with (first
                | (go_at_call 14; refine (now_any _ _ _ _ K4).mono ?_; rintro e w5 ⟨rfl, hb5⟩; have K5 := K4.next hb5)
                | (go_at_call 21; refine (pending_any _ _ _ _ K5).mono ?_; rintro e w6 ⟨x6, rfl, ho6, hb6⟩; have K6 := K5.next hb6; obtain ⟨X6, d6, rfl, -⟩ := own_nil_or ho6)
                | (go_at_call 19; refine (plain_any _ _ (fir S.l) _ HLN.out ho6).mono ?_; rintro e w7 ⟨x7, rfl, ho7, hb7⟩; have K7 := K6.next hb7; obtain ⟨X7, d7, rfl, -⟩ := own_nil_or ho7)
                | (go_at_call 20; have cS := same_any _ _ _ _ (fir S.l) (fir S.l) w7 HLN.out HLN.out ho7 (own_next (own_next (own_next ho4 hb5) hb6) hb7); rw [decide_eq_true (rfl : fir S.l = fir S.l)] at cS; refine cS.mono ?_; rintro e w8 ⟨rfl, hb8⟩; have K8 := K7.next hb8))
              go_roundg (n - (k + 1))
              case measure => omega
              case rel => exact ⟨k + 1, v4, S, by omega, rfl, Nat.le_refl _, Lib.hid ⟨K8, Nat.le_succ_of_le HK.out, ((((F3.tr F4).tr (Fm.of _ hb5)).tr (Fm.of _ hb6)).tr (Fm.of _ hb7)).tr (Fm.of _ hb8)⟩⟩
          · have z1 : ((q k).1 == 1) = false := by simpa using x1
            clear x1
            by_cases x2 : (q k).1 = 2
            · have y2 : ((q k).1 == 2) = true := by simpa using x2
              clear x2
              obtain ⟨R, hR⟩ : ∃ R, caS S (q k).2.1 = R := ⟨_, rfl⟩
              have HE : Hid (R.2 ≠ 0 → R.1 = S) := Lib.hid (by rw [← hR]; exact caS_err _ _)
              have HL2 : Hid (R.1.last ≤ S.last + 1) := Lib.hid (by rw [← hR]; exact caS_last _ _)
              have HR := Lib.hid hR
              clear hR
              by_cases hE : R.2 = 0
              · have e1 : (R.2 != 0) = false := by rw [hE]; rfl
                clear hE
                go_wp2_with (first
                  | (go_at_call 14; refine (now_any _ _ _ _ K4).mono ?_; rintro e w5 ⟨rfl, hb5⟩; have K5 := K4.next hb5)
                  | (go_at_call 14; refine (now_any _ _ _ _ K0).mono ?_; rintro e w1 ⟨rfl, hb1⟩; have K1 := K0.next hb1)
                  | (go_at_call 21; refine (pending_any _ _ _ _ K5).mono ?_; rintro e w6 ⟨x6, rfl, ho6, hb6⟩; have K6 := K5.next hb6; obtain ⟨X6, d6, rfl, -⟩ := own_nil_or ho6)
                  | (go_at_call 21; refine (pending_any _ _ _ _ K1).mono ?_; rintro e w2 ⟨x2, rfl, ho2, hb2⟩; have K2 := K1.next hb2; obtain ⟨X2, d2, rfl, -⟩ := own_nil_or ho2)
                  | (go_at_call 19; refine (plain_any _ _ (fir S.l) _ HLN.out ho6).mono ?_; rintro e w7 ⟨x7, rfl, ho7, hb7⟩; have K7 := K6.next hb7; obtain ⟨X7, d7, rfl, -⟩ := own_nil_or ho7)
                  | (go_at_call 19; refine (plain_any _ _ (fir S.l) _ HLN.out ho2).mono ?_; rintro e w3 ⟨x3, rfl, ho3, hb3⟩; have K3 := K2.next hb3; obtain ⟨X3, d3, rfl, -⟩ := own_nil_or ho3; have F3 := ((F0.tr (Fm.of _ hb1)).tr (Fm.of _ hb2)).tr (Fm.of _ hb3); obtain ⟨q0, q1, q2, qb⟩ := HQ.out w3 F3)
                  | (go_at_call 16; have cX := cancel_any _ _ S (q k).2.1 _ K3; rw [HR.out] at cX; refine cX.mono ?_; rintro e w4 ⟨rfl, v4, K4, -, F4⟩)
                  | (go_at_call 20; have cS := same_any _ _ _ _ (fir S.l) (fir S.l) w7 HLN.out HLN.out ho7 (own_next (own_next (own_next (OwR.other ho3 F4 K2.lt (fun g e1 e2 => absurd (Nat.lt_of_lt_of_le (K2.sd.own.lt g e2).2 (ho3.lt g e1).1) (Nat.lt_irrefl _))) hb5) hb6) hb7); rw [decide_eq_true (rfl : fir S.l = fir S.l)] at cS; refine cS.mono ?_; rintro e w8 ⟨rfl, hb8⟩; have K8 := K7.next hb8))
                go_roundg (n - (k + 1))
                case measure => omega
                case rel => exact ⟨k + 1, v4, R.1, by omega, rfl, Nat.le_refl _, Lib.hid ⟨K4, Nat.le_trans HL2.out (Nat.succ_le_succ HK.out), F3.tr (K3.low F4 (Nat.le_refl _))⟩⟩
              · have e1 : (R.2 != 0) = true := by simpa using hE
                have HS : Hid (R.1 = S) := Lib.hid (HE.out hE)
                clear hE
                have e2 : ((S.now : Int) != (S.now : Int)) = false := by simp
                go_wp2_with (first
                  | (go_at_call 14; refine (now_any _ _ _ _ K4).mono ?_; rintro e w5 ⟨rfl, hb5⟩; have K5 := K4.next hb5)
                  | (go_at_call 14; refine (now_any _ _ _ _ K0).mono ?_; rintro e w1 ⟨rfl, hb1⟩; have K1 := K0.next hb1)
                  | (go_at_call 21; refine (pending_any _ _ _ _ K5).mono ?_; rintro e w6 ⟨x6, rfl, ho6, hb6⟩; have K6 := K5.next hb6; obtain ⟨X6, d6, rfl, -⟩ := own_nil_or ho6)
                  | (go_at_call 21; refine (pending_any _ _ _ _ K1).mono ?_; rintro e w2 ⟨x2, rfl, ho2, hb2⟩; have K2 := K1.next hb2; obtain ⟨X2, d2, rfl, -⟩ := own_nil_or ho2)
                  | (go_at_call 19; refine (plain_any _ _ (fir S.l) _ HLN.out ho6).mono ?_; rintro e w7 ⟨x7, rfl, ho7, hb7⟩; have K7 := K6.next hb7; obtain ⟨X7, d7, rfl, -⟩ := own_nil_or ho7)
                  | (go_at_call 19; refine (plain_any _ _ (fir S.l) _ HLN.out ho2).mono ?_; rintro e w3 ⟨x3, rfl, ho3, hb3⟩; have K3 := K2.next hb3; obtain ⟨X3, d3, rfl, -⟩ := own_nil_or ho3; have F3 := ((F0.tr (Fm.of _ hb1)).tr (Fm.of _ hb2)).tr (Fm.of _ hb3); obtain ⟨q0, q1, q2, qb⟩ := HQ.out w3 F3)
                  | (go_at_call 16; have cX := cancel_any _ _ S (q k).2.1 _ K3; rw [HR.out] at cX; refine cX.mono ?_; rintro e w4 ⟨rfl, v4, K4, -, F4⟩; rw [HS.out] at K4)
                  | (go_at_call 20; have cS := same_any _ _ _ _ (fir S.l) (fir S.l) w7 HLN.out HLN.out ho7 (own_next (own_next (own_next (OwR.other ho3 F4 K2.lt (fun g e1 e2 => absurd (Nat.lt_of_lt_of_le (K2.sd.own.lt g e2).2 (ho3.lt g e1).1) (Nat.lt_irrefl _))) hb5) hb6) hb7); rw [decide_eq_true (rfl : fir S.l = fir S.l)] at cS; refine cS.mono ?_; rintro e w8 ⟨rfl, hb8⟩; have K8 := K7.next hb8))
                go_roundg (n - (k + 1))
                case measure => omega
                case rel => exact ⟨k + 1, v4, S, by omega, rfl, Nat.le_refl _, Lib.hid ⟨K8, Nat.le_succ_of_le HK.out, ((((F3.tr (K3.low F4 (Nat.le_refl _))).tr (Fm.of _ hb5)).tr (Fm.of _ hb6)).tr (Fm.of _ hb7)).tr (Fm.of _ hb8)⟩⟩
            · have z2 : ((q k).1 == 2) = false := by simpa using x2
              clear x2
              obtain ⟨R, hR⟩ : ∃ R, adS S (q k).2.1 = R := ⟨_, rfl⟩
              have HE : Hid (R.2.2 ≠ 0 → R.1 = S) := Lib.hid (by rw [← hR]; exact adS_err _ _)
              have HL2 : Hid (R.1.last ≤ S.last + 1) := Lib.hid (by rw [← hR]; exact adS_last _ _)
              have HR := Lib.hid hR
              clear hR
              by_cases hE : R.2.2 = 0
              · have e1 : (R.2.2 != 0) = false := by rw [hE]; rfl
                clear hE
                go_wp2_with (first
                  | (go_at_call 14; refine (now_any _ _ _ _ K4).mono ?_; rintro e w5 ⟨rfl, hb5⟩; have K5 := K4.next hb5)
                  | (go_at_call 14; refine (now_any _ _ _ _ K0).mono ?_; rintro e w1 ⟨rfl, hb1⟩; have K1 := K0.next hb1)
                  | (go_at_call 21; refine (pending_any _ _ _ _ K5).mono ?_; rintro e w6 ⟨x6, rfl, ho6, hb6⟩; have K6 := K5.next hb6; obtain ⟨X6, d6, rfl, -⟩ := own_nil_or ho6)
                  | (go_at_call 21; refine (pending_any _ _ _ _ K1).mono ?_; rintro e w2 ⟨x2, rfl, ho2, hb2⟩; have K2 := K1.next hb2; obtain ⟨X2, d2, rfl, -⟩ := own_nil_or ho2)
                  | (go_at_call 19; refine (plain_any _ _ (fir S.l) _ HLN.out ho6).mono ?_; rintro e w7 ⟨x7, rfl, ho7, hb7⟩; have K7 := K6.next hb7; obtain ⟨X7, d7, rfl, -⟩ := own_nil_or ho7)
                  | (go_at_call 19; refine (plain_any _ _ (fir S.l) _ HLN.out ho2).mono ?_; rintro e w3 ⟨x3, rfl, ho3, hb3⟩; have K3 := K2.next hb3; obtain ⟨X3, d3, rfl, -⟩ := own_nil_or ho3; have F3 := ((F0.tr (Fm.of _ hb1)).tr (Fm.of _ hb2)).tr (Fm.of _ hb3); obtain ⟨q0, q1, q2, qb⟩ := HQ.out w3 F3)
                  | (go_at_call 17; have cX := advance_any _ _ S (q k).2.1 _ K3; rw [HR.out] at cX; refine cX.mono ?_; rintro e w4 ⟨x4, v4, rfl, hx4, K4, -, F4, -⟩; obtain ⟨X4, d4, rfl, -⟩ := own_nil_or hx4)
                  | (go_at_call 20; have cS := same_any _ _ _ _ (fir S.l) (fir S.l) w7 HLN.out HLN.out ho7 (own_next (own_next (own_next (OwR.other ho3 F4 K2.lt (fun g e1 e2 => absurd (Nat.lt_of_lt_of_le (K2.sd.own.lt g e2).2 (ho3.lt g e1).1) (Nat.lt_irrefl _))) hb5) hb6) hb7); rw [decide_eq_true (rfl : fir S.l = fir S.l)] at cS; refine cS.mono ?_; rintro e w8 ⟨rfl, hb8⟩; have K8 := K7.next hb8))
                go_roundg (n - (k + 1))
                case measure => omega
                case rel => exact ⟨k + 1, v4, R.1, by omega, rfl, Nat.le_refl _, Lib.hid ⟨K4, Nat.le_trans HL2.out (Nat.succ_le_succ HK.out), F3.tr (K3.low F4 (Nat.le_refl _))⟩⟩
              · have e1 : (R.2.2 != 0) = true := by simpa using hE
                have HS : Hid (R.1 = S) := Lib.hid (HE.out hE)
                clear hE
                have e2 : ((S.now : Int) != (S.now : Int)) = false := by simp
                go_wp2_with (first
                  | (go_at_call 14; refine (now_any _ _ _ _ K4).mono ?_; rintro e w5 ⟨rfl, hb5⟩; have K5 := K4.next hb5)
                  | (go_at_call 14; refine (now_any _ _ _ _ K0).mono ?_; rintro e w1 ⟨rfl, hb1⟩; have K1 := K0.next hb1)
                  | (go_at_call 21; refine (pending_any _ _ _ _ K5).mono ?_; rintro e w6 ⟨x6, rfl, ho6, hb6⟩; have K6 := K5.next hb6; obtain ⟨X6, d6, rfl, -⟩ := own_nil_or ho6)
                  | (go_at_call 21; refine (pending_any _ _ _ _ K1).mono ?_; rintro e w2 ⟨x2, rfl, ho2, hb2⟩; have K2 := K1.next hb2; obtain ⟨X2, d2, rfl, -⟩ := own_nil_or ho2)
                  | (go_at_call 19; refine (plain_any _ _ (fir S.l) _ HLN.out ho6).mono ?_; rintro e w7 ⟨x7, rfl, ho7, hb7⟩; have K7 := K6.next hb7; obtain ⟨X7, d7, rfl, -⟩ := own_nil_or ho7)
                  | (go_at_call 19; refine (plain_any _ _ (fir S.l) _ HLN.out ho2).mono ?_; rintro e w3 ⟨x3, rfl, ho3, hb3⟩; have K3 := K2.next hb3; obtain ⟨X3, d3, rfl, -⟩ := own_nil_or ho3; have F3 := ((F0.tr (Fm.of _ hb1)).tr (Fm.of _ hb2)).tr (Fm.of _ hb3); obtain ⟨q0, q1, q2, qb⟩ := HQ.out w3 F3)
                  | (go_at_call 17; have cX := advance_any _ _ S (q k).2.1 _ K3; rw [HR.out] at cX; refine cX.mono ?_; rintro e w4 ⟨x4, v4, rfl, hx4, K4, -, F4, -⟩; obtain ⟨X4, d4, rfl, -⟩ := own_nil_or hx4; rw [HS.out] at K4)
                  | (go_at_call 20; have cS := same_any _ _ _ _ (fir S.l) (fir S.l) w7 HLN.out HLN.out ho7 (own_next (own_next (own_next (OwR.other ho3 F4 K2.lt (fun g e1 e2 => absurd (Nat.lt_of_lt_of_le (K2.sd.own.lt g e2).2 (ho3.lt g e1).1) (Nat.lt_irrefl _))) hb5) hb6) hb7); rw [decide_eq_true (rfl : fir S.l = fir S.l)] at cS; refine cS.mono ?_; rintro e w8 ⟨rfl, hb8⟩; have K8 := K7.next hb8))
                go_roundg (n - (k + 1))
                case measure => omega
                case rel => exact ⟨k + 1, v4, S, by omega, rfl, Nat.le_refl _, Lib.hid ⟨K8, Nat.le_succ_of_le HK.out, ((((F3.tr (K3.low F4 (Nat.le_refl _))).tr (Fm.of _ hb5)).tr (Fm.of _ hb6)).tr (Fm.of _ hb7)).tr (Fm.of _ hb8)⟩⟩
      · obtain rfl : k = n := by omega
        have hF := HF.out.2.2
        go_wp2_with (refine (awake_any _).mono ?_; rintro e w9 ⟨rfl, hb9⟩)
        go_ret
        exact ⟨rfl, (hF.tr (Fm.of _ hb9)).below (by rw [HC.out]; exact Nat.le_refl _) fun i e => by rw [HC.out]; exact e⟩
end Go.Proofs.Ytiooilkbbfflaaa

/-
  The reference's printing of numbers and strings. No conditions but Go's own bounds.
-/
import Derived.Test.YtgifienjfaclmaaDoorLi
namespace Go.Proofs.YtgifienjfaclmaaDoor
open Go.RowKit
theorem bs_digit (d : Nat) (h : d < 10) : (bs [48, 49, 50, 51, 52, 53, 54, 55, 56, 57]).extract d (d + 1) = bs [UInt8.ofNat (48 + d)] := by
  have key : ∀ d : Fin 10, (bs [48, 49, 50, 51, 52, 53, 54, 55, 56, 57]).extract d.val (d.val + 1) = bs [UInt8.ofNat (48 + d.val)] := by
    intro d
    rw [bs_slice]
    congr 1
    revert d
    decide
  exact key ⟨d, h⟩
theorem dg_len (n : Nat) : ∀ k, n < 10 ^ (k + 1) → (dg n).length ≤ k + 1 := by
  induction n using Nat.strongRecOn with
  | _ n ih =>
    intro k h
    by_cases h10 : n < 10
    · rw [dg_small h10]; simp
    · rw [dg_big h10, List.length_append]
      cases k with
      | zero => simp at h; omega
      | succ k =>
        have := ih (n / 10) (by omega) k (by rw [Nat.pow_succ] at h; omega)
        simp; omega
set_option maxRecDepth 100000 in
set_option maxHeartbeats 1000000 in
theorem decimal_any (n : Int) (w : World) (h1 : -9223372036854775808 ≤ n) (h2 : n ≤ 9223372036854775807) :
    Calls Tryd.prog 28 #[.int .i64 n] w (Is (.string (bs (dec n))) w) := by
  have hn0 : (⟨#[]⟩ : ByteArray) = bs [] := rfl
  have hd0 : (⟨#[48, 49, 50, 51, 52, 53, 54, 55, 56, 57]⟩ : ByteArray) = bs [48, 49, 50, 51, 52, 53, 54, 55, 56, 57] := rfl
  have hm0 : (⟨#[45]⟩ : ByteArray) = bs [45] := rfl
  have hds : (bs [48, 49, 50, 51, 52, 53, 54, 55, 56, 57]).size = 10 := rfl
  have hms : (bs [45]).size = 1 := rfl
  obtain ⟨R, hR⟩ : ∃ R, dg n.natAbs = R := ⟨_, rfl⟩
  have hlen : R.length ≤ 20 := by rw [← hR]; exact dg_len _ 19 (by omega)
  unfold dec
  rw [hR]
  by_cases hneg : n < 0
  · rw [if_pos hneg]
    obtain ⟨m0, hm⟩ : ∃ m : Nat, n = (-(m : Int)) := ⟨n.natAbs, by omega⟩
    have hm1 : 1 ≤ m0 := by omega
    have hm2 : m0 ≤ 9223372036854775808 := by omega
    subst hm
    have HR := Lib.hid (show dg m0 = R by rw [← hR]; congr 1; omega)
    have hap2 : ∀ x, bs [45] ++ bs x = bs (45 :: x) := fun x => by rw [bs_append]; rfl
    clear hR h1 h2 hneg
    go_enter Tryd.func28, Tryd.ntmps28
    go_wp2_with fail
    go_loop [0, 3] (fun z u => ∃ (m : Nat) (s : List UInt8), m ≤ 9223372036854775808 ∧ z = .int .i64 (-(m : Int)) ∧ u = .string (bs s) ∧ s.length ≤ 20 ∧ 1 ≤ m ∧ Hid (R = dg m ++ s)) (fun z _ => (intOf z).natAbs)
    case atStart => exact ⟨m0, [], hm2, rfl, rfl, by simp, hm1, Lib.hid (by rw [HR.out]; simp)⟩
    case round =>
      obtain ⟨m, s, hm, rfl, rfl, hs, hmp, hI⟩ := hrel
      clear HR hm2
      have hss : (bs s).size = s.length := rfl
      obtain ⟨d, hd⟩ : ∃ d, m % 10 = d := ⟨_, rfl⟩
      obtain ⟨q, hq⟩ : ∃ q, m / 10 = q := ⟨_, rfl⟩
      have hd10 : d < 10 := by omega
      have k1 : ((-(m : Int))).tmod 10 = (-(d : Int)) := by rw [Int.neg_tmod]; congr 1; rw [← hd]; rfl
      have k2 : ((-(m : Int))).tdiv 10 = (-(q : Int)) := by rw [Int.neg_tdiv]; congr 1; rw [← hq]; rfl
      have k4 : (m : Int) % 10 = (d : Int) := by omega
      have k5 : (m : Int) / 10 = (q : Int) := by omega
      have hb := bs_digit d hd10
      obtain ⟨e, he⟩ : ∃ e, d + 1 = e := ⟨_, rfl⟩
      have k3 : (d : Int) + 1 = (e : Int) := by omega
      have he10 : e ≤ 10 := by omega
      have hde : d ≤ e := by omega
      rw [he] at hb
      obtain ⟨c, hc⟩ : ∃ c, UInt8.ofNat (48 + d) = c := ⟨_, rfl⟩
      rw [hc] at hb
      have hap := bs_append [c] s
      have hcs : (bs [c]).size = 1 := rfl
      have hdm : q = 0 → R = [c] ++ s := fun h0 => by
        rw [hI.out, dg_small (by omega), show 48 + m = 48 + d by omega, hc]
      have hdn : q ≠ 0 → R = dg q ++ ([c] ++ s) := fun h0 => by
        rw [hI.out, dg_big (by omega), hd, hq, hc]; simp
      have hls : ([c] ++ s).length ≤ 20 := by
        by_cases h0 : q = 0
        · rw [← hdm h0]; exact hlen
        · have := congrArg List.length (hdn h0)
          rw [List.length_append] at this
          omega
      have hcz : (bs ([c] ++ s)).size ≤ 20 := hls
      have hcz2 : (bs (c :: s)).size ≤ 20 := hls
      have hd2 : (d = 0 ∧ e = 1) ∨ 1 ≤ d := by omega
      have hq2 : q = 0 ∨ 1 ≤ q := by omega
      have hqm : q ≠ 0 → q < m := by omega
      have hq9 : q ≤ 922337203685477580 := by omega
      clear hI hd hq hc he
      rcases hd2 with ⟨rfl, rfl⟩ | hd2 <;> rcases hq2 with rfl | hq2
      · omega
      · have H := Lib.hid (hdn (by omega))
        have hq1 := hqm (by omega)
        clear hdm hdn hqm
        go_wp2_with fail
        go_round
        case rel => exact ⟨q, [c] ++ s, by omega, rfl, rfl, hls, hq2, H⟩
        case measure => simp [intOf]; omega
      · have H := Lib.hid (hdm rfl)
        clear hdm hdn hqm
        go_wp2_with fail
        go_ret
        exact ⟨by rw [H.out]; rfl, rfl⟩
      · have H := Lib.hid (hdn (by omega))
        have hq1 := hqm (by omega)
        clear hdm hdn hqm
        go_wp2_with fail
        go_round
        case rel => exact ⟨q, [c] ++ s, by omega, rfl, rfl, hls, hq2, H⟩
        case measure => simp [intOf]; omega
  · rw [if_neg hneg]
    obtain ⟨m0, hm⟩ : ∃ m : Nat, n = (m : Int) := ⟨n.natAbs, by omega⟩
    
    have hm2 : m0 ≤ 9223372036854775807 := by omega
    subst hm
    have HR := Lib.hid (show dg m0 = R by rw [← hR]; rfl)
    have hap2 : ∀ x, bs [45] ++ bs x = bs (45 :: x) := fun x => by rw [bs_append]; rfl
    clear hR h1 h2 hneg
    go_enter Tryd.func28, Tryd.ntmps28
    go_wp2_with fail
    go_loop [0, 3] (fun z u => ∃ (m : Nat) (s : List UInt8), m ≤ 9223372036854775807 ∧ z = .int .i64 (m : Int) ∧ u = .string (bs s) ∧ s.length ≤ 20 ∧ Hid (R = dg m ++ s)) (fun z _ => (intOf z).natAbs)
    case atStart => exact ⟨m0, [], hm2, rfl, rfl, by simp, Lib.hid (by rw [HR.out]; simp)⟩
    case round =>
      obtain ⟨m, s, hm, rfl, rfl, hs, hI⟩ := hrel
      clear HR hm2
      have hss : (bs s).size = s.length := rfl
      obtain ⟨d, hd⟩ : ∃ d, m % 10 = d := ⟨_, rfl⟩
      obtain ⟨q, hq⟩ : ∃ q, m / 10 = q := ⟨_, rfl⟩
      have hd10 : d < 10 := by omega
      have k1 : ((m : Int)).tmod 10 = (d : Int) := by rw [← hd]; rfl
      have k2 : ((m : Int)).tdiv 10 = (q : Int) := by rw [← hq]; rfl
      have k4 : (m : Int) % 10 = (d : Int) := by omega
      have k5 : (m : Int) / 10 = (q : Int) := by omega
      have hb := bs_digit d hd10
      obtain ⟨e, he⟩ : ∃ e, d + 1 = e := ⟨_, rfl⟩
      have k3 : (d : Int) + 1 = (e : Int) := by omega
      have he10 : e ≤ 10 := by omega
      have hde : d ≤ e := by omega
      rw [he] at hb
      obtain ⟨c, hc⟩ : ∃ c, UInt8.ofNat (48 + d) = c := ⟨_, rfl⟩
      rw [hc] at hb
      have hap := bs_append [c] s
      have hcs : (bs [c]).size = 1 := rfl
      have hdm : q = 0 → R = [c] ++ s := fun h0 => by
        rw [hI.out, dg_small (by omega), show 48 + m = 48 + d by omega, hc]
      have hdn : q ≠ 0 → R = dg q ++ ([c] ++ s) := fun h0 => by
        rw [hI.out, dg_big (by omega), hd, hq, hc]; simp
      have hls : ([c] ++ s).length ≤ 20 := by
        by_cases h0 : q = 0
        · rw [← hdm h0]; exact hlen
        · have := congrArg List.length (hdn h0)
          rw [List.length_append] at this
          omega
      have hcz : (bs ([c] ++ s)).size ≤ 20 := hls
      have hd2 : (d = 0 ∧ e = 1) ∨ 1 ≤ d := by omega
      have hq2 : q = 0 ∨ 1 ≤ q := by omega
      have hqm : q ≠ 0 → q < m := by omega
      have hq9 : q ≤ 922337203685477580 := by omega
      clear hI hd hq hc he
      rcases hd2 with ⟨rfl, rfl⟩ | hd2 <;> rcases hq2 with rfl | hq2
      · have H := Lib.hid (hdm rfl)
        clear hdm hdn hqm
        go_wp2_with fail
        go_ret
        exact ⟨by rw [H.out]; rfl, rfl⟩
      · have H := Lib.hid (hdn (by omega))
        have hq1 := hqm (by omega)
        clear hdm hdn hqm
        go_wp2_with fail
        go_round
        case rel => exact ⟨q, [c] ++ s, by omega, rfl, rfl, hls, H⟩
        case measure => simp [intOf]; omega
      · have H := Lib.hid (hdm rfl)
        clear hdm hdn hqm
        go_wp2_with fail
        go_ret
        exact ⟨by rw [H.out]; rfl, rfl⟩
      · have H := Lib.hid (hdn (by omega))
        have hq1 := hqm (by omega)
        clear hdm hdn hqm
        go_wp2_with fail
        go_round
        case rel => exact ⟨q, [c] ++ s, by omega, rfl, rfl, hls, H⟩
        case measure => simp [intOf]; omega
end Go.Proofs.YtgifienjfaclmaaDoor

/-
  The contract of the reference's Parse, continued: a fraction follows the digits.
-/
import Derived.Test.YtgfahenhobnjpaaDoorFk
namespace Go.Proofs.YtgfahenhobnjpaaDoor
open Go.RowKit
theorem ext_end (s : ByteArray) (f m : Nat) (h : f + m = s.size) : s.extract f s.size = s.extract f (f + m) := by rw [h]
set_option maxRecDepth 100000 in
set_option maxHeartbeats 2000000 in
theorem refParse_frac (s : ByteArray) (w : World) (i n m X Y p R : Nat) (V : Value) (hs : s.size ≤ 9223372036854775807) (h0 : s.toList ≠ []) (hi : sg (neg45 s.data.toList) = i) (hn0 : runN s.data.toList i = n) (hm0 : runN s.data.toList (i + n + 1) = m)
    (n1 : 1 ≤ n) (n2 : n ≤ 10) (hq0 : n = 1 ∨ (1 < n ∧ ∀ h : i < s.size, (s[i].toNat : Int) ≠ 48)) (hlt : i + n < s.size) (hdot : (s[i + n].toNat : Int) = 46) (m1 : 1 ≤ m) (m2 : m ≤ 5) (hend : i + n + 1 + m = s.size)
    (hX : numB ((s.data.toList.drop i).takeWhile isDg) * 65536 = X) (hY : numB ((s.data.toList.drop (i + n + 1)).takeWhile isDg) * 65536 = Y) (hp : 10 ^ m = p) (hR : X + Y / p + (if p ≤ 2 * (Y % p) then 1 else 0) = R)
    (hV : (if 140737488355328 < R then .tuple #[.int .i64 0, .int .i64 4] else .tuple #[.int .i64 (sgn (neg45 s.data.toList) (min R 140737488355328)), .int .i64 0]) = V) :
    Calls Tryd.prog 5 #[.string s] w (Is V w) := by
  have h2 : s.toList.isEmpty = false := by cases hh : s.toList with | nil => exact absurd hh h0 | cons a b => rfl
  have hz : 0 < s.size := by omega
  have hb := head_neg s hz
  have cR := fun w => run_any s i w (by omega) hs
  have cM := fun w => run_any s (i + n + 1) w (by omega) hs
  have cX := fun w => refNum_run s i w (by omega)
  have cY := fun w => refNum_run s (i + n + 1) w (by omega)
  have bx : numB ((s.data.toList.drop i).takeWhile isDg) < 10000000000 := Nat.lt_of_lt_of_le (numB_lt _ (take_all _)) (Nat.pow_le_pow_right (n := 10) (by decide) (by show runN s.data.toList i ≤ 10; omega))
  have bY : numB ((s.data.toList.drop (i + n + 1)).takeWhile isDg) < 100000 := Nat.lt_of_lt_of_le (numB_lt _ (take_all _)) (Nat.pow_le_pow_right (n := 10) (by decide) (by show runN s.data.toList (i + n + 1) ≤ 5; omega))
  rw [hm0, hend] at cY
  rw [hn0] at cR cX
  rw [hm0] at cM
  generalize numB ((s.data.toList.drop i).takeWhile isDg) = x at *
  generalize numB ((s.data.toList.drop (i + n + 1)).takeWhile isDg) = y at *
  have hd2 : ∀ (j : Nat) (h : j < s.size), sg (neg45 s.data.toList) + n = j → ((s[j].toNat : Int) != 46) = false := by
    subst hi
    rintro j h rfl
    rw [hdot]; rfl
  have hpb : 10 ≤ p ∧ p ≤ 100000 := by
    rw [← hp]
    exact ⟨Nat.pow_le_pow_right (n := 10) (by decide) m1, Nat.pow_le_pow_right (n := 10) (by decide) m2⟩
  obtain ⟨d, hd⟩ : ∃ d, Y / p = d := ⟨_, rfl⟩
  obtain ⟨r, hr⟩ : ∃ r, Y % p = r := ⟨_, rfl⟩
  obtain ⟨t, ht⟩ : ∃ t, X + d = t := ⟨_, rfl⟩
  obtain ⟨v, hv⟩ : ∃ v, 2 * r = v := ⟨_, rfl⟩
  rw [hd, hr, ht, hv] at hR
  have bd : d ≤ Y := by rw [← hd]; exact Nat.div_le_self _ _
  have br : r < p := by rw [← hr]; exact Nat.mod_lt _ (by omega)
  have bY2 : Y < 6553600000 := by omega
  have bX2 : X < 655360000000000 := by omega
  have k0 : ((p : Int) == 0) = false := by simp; omega
  have k1 : (Y : Int) / (p : Int) = (d : Int) := by rw [← hd, Int.natCast_ediv]
  have k2 : (Y : Int) % (p : Int) = (r : Int) := by rw [← hr, Int.natCast_emod]
  have k3 : IntKind.u64.wrap (d : Int) = (d : Int) := by rw [IntKind.wrap_u64]; omega
  have k4 : IntKind.u64.wrap ((X : Int) + (d : Int)) = (t : Int) := by rw [← Int.natCast_add, ht, IntKind.wrap_u64]; omega
  have k5 : IntKind.u64.wrap (2 * (r : Int)) = (v : Int) := by rw [show 2 * (r : Int) = (v : Int) by omega, IntKind.wrap_u64]; omega
  have k6 : IntKind.u64.wrap ((t : Int) + 1) = ((t + 1 : Nat) : Int) := by rw [IntKind.wrap_u64]; omega
  have l5 : IntKind.u64.wrap ((y : Int) * 65536) = (Y : Int) := by rw [show (y : Int) * 65536 = (Y : Int) by omega, IntKind.wrap_u64]; omega
  have l4 : IntKind.u64.wrap ((x : Int) * 65536) = (X : Int) := by rw [show (x : Int) * 65536 = (X : Int) by omega, IntKind.wrap_u64]; omega
  have HP := Lib.hid hp
  have HB := Lib.hid hpb
  have cS := fun w => refSigned_any (neg45 s.data.toList) R w (by split at hR <;> omega)
  clear hn0 hm0 hd hr ht hv bd br bx bY hX hY hp hpb bY2 bX2 hdot
  subst hi
  generalize neg45 s.data.toList = b at *
  cases b
  · obtain ⟨f, hf⟩ : ∃ f, n + 1 = f := ⟨_, rfl⟩
    have hq : n < 2 ∨ (1 < n ∧ ((s[0].toNat : Int) == 48) = false) := hq0.imp (fun h => by omega) fun h => ⟨h.1, beq_eq_false_iff_ne.2 (h.2 hz)⟩
    have hn : sg false + n = n := by simp [sg]
    simp only [hn] at cX hlt cM cY hend
    have cX : ∀ w, Calls Tryd.prog 17 #[.string (s.extract 0 n)] w (Is (.int .u64 (x : Int)) w) := cX
    rw [hf] at cM cY hend
    have l2 : IntKind.i64.wrap ((n : Int) + 1) = (f : Int) := by rw [show (n : Int) + 1 = (f : Int) by omega]; exact IntWalk.i64_in _ (by omega)
    have l2b : (n : Int) + 1 = (f : Int) := by omega
    have l3 : IntKind.i64.wrap ((f : Int) + (m : Int)) = (s.size : Int) := by rw [show (f : Int) + (m : Int) = (s.size : Int) by omega]; exact IntWalk.i64_in _ (by omega)
    have hle : n ≤ s.size := by omega
    have hfl : f ≤ s.size := by omega
    have hsz2 : 1 ≤ s.size := by omega
    have hd3 := hd2 _ hlt hn
    clear hd2
    clear hn hq0
    have hcase : (p ≤ v ∧ t + 1 = R) ∨ (v < p ∧ t = R) := by split at hR; exact .inl ⟨by assumption, hR⟩; exact .inr ⟨by omega, hR⟩
    have HV := Lib.hid hV
    clear hR hV
    rcases hq with hq | ⟨hq, hq2⟩
    all_goals
      go_enter Tryd.func5, Tryd.ntmps5
      go_wp2_with fail
      refine (cR _).mono ?_
      rintro e w' ⟨rfl, rfl⟩
      go_wp2_with fail
      refine (cX _).mono ?_
      rintro e w' ⟨rfl, rfl⟩
      go_wp2_with fail
      refine (cM _).mono ?_
      rintro e w' ⟨rfl, rfl⟩
      go_wp2_with fail
      go_loop [9, 10] (fun u v => ∃ k q : Nat, k ≤ m ∧ v = .int .i64 (k : Int) ∧ u = .int .u64 (q : Int) ∧ Hid (10 ^ k = q)) (fun _ v => m - (intOf v).toNat)
      case atStart => exact ⟨0, 1, by omega, rfl, rfl, Lib.hid rfl⟩
      case round =>
        obtain ⟨k, q, hk, rfl, rfl, hI⟩ := hrel
        by_cases hlt2 : k < m
        · have hq3 : q < 100000 := by rw [← hI.out]; exact Nat.lt_of_lt_of_le (Nat.pow_lt_pow_right (a := 10) (by decide) hlt2) (Nat.pow_le_pow_right (n := 10) (by decide) m2)
          have N : 10 ^ (k + 1) = 10 * q := by rw [Nat.pow_succ, hI.out, Nat.mul_comm]
          have HN := Lib.hid N
          have j1 : IntKind.u64.wrap (10 * (q : Int)) = ((10 * q : Nat) : Int) := by rw [IntKind.wrap_u64]; omega
          clear hq3 N
          go_wp2_with fail
          go_round
          case rel => exact ⟨k + 1, 10 * q, by omega, by go_num, by go_num, HN⟩
          case measure => simp [intOf]; omega
        · obtain rfl : k = m := by omega
          obtain rfl : q = p := by rw [← hI.out, HP.out]
          have hp0 := HB.out.1
          clear hI
          rcases hcase with ⟨hv, hT⟩ | ⟨hv, hT⟩
          · have k7 : IntKind.u64.wrap ((t : Int) + 1) = (R : Int) := by rw [k6, hT]
            clear k6 hT
            by_cases h4 : 140737488355328 < R
            · go_wp2_with fail
              refine (cY _).mono ?_
              rintro e w' ⟨rfl, rfl⟩
              go_wp2_with fail
              go_ret2
              exact ⟨congrArg Ending.returned ((if_pos h4).symm.trans HV.out), rfl⟩
            · go_wp2_with fail
              refine (cY _).mono ?_
              rintro e w' ⟨rfl, rfl⟩
              go_wp2_with fail
              refine (cS _).mono ?_
              rintro e w' ⟨rfl, rfl⟩
              go_wp2_with fail
              go_ret2
              exact ⟨congrArg Ending.returned ((if_neg h4).symm.trans HV.out), rfl⟩
          · subst hT
            by_cases h4 : 140737488355328 < t
            · go_wp2_with fail
              refine (cY _).mono ?_
              rintro e w' ⟨rfl, rfl⟩
              go_wp2_with fail
              go_ret2
              exact ⟨congrArg Ending.returned ((if_pos h4).symm.trans HV.out), rfl⟩
            · go_wp2_with fail
              refine (cY _).mono ?_
              rintro e w' ⟨rfl, rfl⟩
              go_wp2_with fail
              refine (cS _).mono ?_
              rintro e w' ⟨rfl, rfl⟩
              go_wp2_with fail
              go_ret2
              exact ⟨congrArg Ending.returned ((if_neg h4).symm.trans HV.out), rfl⟩
  · obtain ⟨e, he⟩ : ∃ e, 1 + n = e := ⟨_, rfl⟩
    obtain ⟨f, hf⟩ : ∃ f, e + 1 = f := ⟨_, rfl⟩
    have hz1 : 1 < s.size := by simp [sg] at hlt; omega
    have hq : n < 2 ∨ (1 < n ∧ (((s[1]'hz1).toNat : Int) == 48) = false) := hq0.imp (fun h => by omega) fun h => ⟨h.1, beq_eq_false_iff_ne.2 (h.2 hz1)⟩
    have hn : sg true + n = e := by simp [sg, he]
    simp only [hn] at cX hlt cM cY hend
    have cX : ∀ w, Calls Tryd.prog 17 #[.string (s.extract 1 e)] w (Is (.int .u64 (x : Int)) w) := cX
    have l1 : IntKind.i64.wrap (1 + (n : Int)) = (e : Int) := by rw [show 1 + (n : Int) = (e : Int) by omega]; exact IntWalk.i64_in _ (by omega)
    have l1b : 1 + (n : Int) = (e : Int) := by omega
    rw [hf] at cM cY hend
    have l2 : IntKind.i64.wrap ((e : Int) + 1) = (f : Int) := by rw [show (e : Int) + 1 = (f : Int) by omega]; exact IntWalk.i64_in _ (by omega)
    have l2b : (e : Int) + 1 = (f : Int) := by omega
    have l3 : IntKind.i64.wrap ((f : Int) + (m : Int)) = (s.size : Int) := by rw [show (f : Int) + (m : Int) = (s.size : Int) by omega]; exact IntWalk.i64_in _ (by omega)
    have hle : e ≤ s.size := by omega
    have hfl : f ≤ s.size := by omega
    have hsz2 : 1 ≤ s.size := by omega
    have hd3 := hd2 _ hlt hn
    clear hd2
    clear hn hq0
    have hcase : (p ≤ v ∧ t + 1 = R) ∨ (v < p ∧ t = R) := by split at hR; exact .inl ⟨by assumption, hR⟩; exact .inr ⟨by omega, hR⟩
    have HV := Lib.hid hV
    clear hR hV
    rcases hq with hq | ⟨hq, hq2⟩
    all_goals
      go_enter Tryd.func5, Tryd.ntmps5
      go_wp2_with fail
      refine (cR _).mono ?_
      rintro e w' ⟨rfl, rfl⟩
      go_wp2_with fail
      refine (cX _).mono ?_
      rintro e w' ⟨rfl, rfl⟩
      go_wp2_with fail
      refine (cM _).mono ?_
      rintro e w' ⟨rfl, rfl⟩
      go_wp2_with fail
      go_loop [9, 10] (fun u v => ∃ k q : Nat, k ≤ m ∧ v = .int .i64 (k : Int) ∧ u = .int .u64 (q : Int) ∧ Hid (10 ^ k = q)) (fun _ v => m - (intOf v).toNat)
      case atStart => exact ⟨0, 1, by omega, rfl, rfl, Lib.hid rfl⟩
      case round =>
        obtain ⟨k, q, hk, rfl, rfl, hI⟩ := hrel
        by_cases hlt2 : k < m
        · have hq3 : q < 100000 := by rw [← hI.out]; exact Nat.lt_of_lt_of_le (Nat.pow_lt_pow_right (a := 10) (by decide) hlt2) (Nat.pow_le_pow_right (n := 10) (by decide) m2)
          have N : 10 ^ (k + 1) = 10 * q := by rw [Nat.pow_succ, hI.out, Nat.mul_comm]
          have HN := Lib.hid N
          have j1 : IntKind.u64.wrap (10 * (q : Int)) = ((10 * q : Nat) : Int) := by rw [IntKind.wrap_u64]; omega
          clear hq3 N
          go_wp2_with fail
          go_round
          case rel => exact ⟨k + 1, 10 * q, by omega, by go_num, by go_num, HN⟩
          case measure => simp [intOf]; omega
        · obtain rfl : k = m := by omega
          obtain rfl : q = p := by rw [← hI.out, HP.out]
          have hp0 := HB.out.1
          clear hI
          rcases hcase with ⟨hv, hT⟩ | ⟨hv, hT⟩
          · have k7 : IntKind.u64.wrap ((t : Int) + 1) = (R : Int) := by rw [k6, hT]
            clear k6 hT
            by_cases h4 : 140737488355328 < R
            · go_wp2_with fail
              refine (cY _).mono ?_
              rintro e w' ⟨rfl, rfl⟩
              go_wp2_with fail
              go_ret2
              exact ⟨congrArg Ending.returned ((if_pos h4).symm.trans HV.out), rfl⟩
            · go_wp2_with fail
              refine (cY _).mono ?_
              rintro e w' ⟨rfl, rfl⟩
              go_wp2_with fail
              refine (cS _).mono ?_
              rintro e w' ⟨rfl, rfl⟩
              go_wp2_with fail
              go_ret2
              exact ⟨congrArg Ending.returned ((if_neg h4).symm.trans HV.out), rfl⟩
          · subst hT
            by_cases h4 : 140737488355328 < t
            · go_wp2_with fail
              refine (cY _).mono ?_
              rintro e w' ⟨rfl, rfl⟩
              go_wp2_with fail
              go_ret2
              exact ⟨congrArg Ending.returned ((if_pos h4).symm.trans HV.out), rfl⟩
            · go_wp2_with fail
              refine (cY _).mono ?_
              rintro e w' ⟨rfl, rfl⟩
              go_wp2_with fail
              refine (cS _).mono ?_
              rintro e w' ⟨rfl, rfl⟩
              go_wp2_with fail
              go_ret2
              exact ⟨congrArg Ending.returned ((if_neg h4).symm.trans HV.out), rfl⟩
end Go.Proofs.YtgfahenhobnjpaaDoor

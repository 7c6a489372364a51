/-
  The texts of numbers, the program's and the reference's. Condition: the two tables of powers of ten read as they were laid.
-/
import Derived.Test.YtgfahenhobnjpaaDoorFc
namespace Go.Proofs.YtgfahenhobnjpaaDoor
open Go.RowKit
/-- The text of a magnitude. -/
def fmtM (n : Nat) : List UInt8 := Lib.decDigits (n / 65536) ++ (46 :: dec5 (n % 65536 * 100000 / 65536))
theorem cat_list (s t : ByteArray) : (s ++ t).data.toList = s.data.toList ++ t.data.toList := by simp [ByteArray.data_append]
theorem cat_of (s t : ByteArray) : s ++ t = ⟨(s.data.toList ++ t.data.toList).toArray⟩ := by
  apply ByteArray.ext
  simp [ByteArray.data_append]
theorem ba_eq (s : ByteArray) (l : List UInt8) (h : s.data.toList = l) : s = ⟨l.toArray⟩ := by
  apply ByteArray.ext
  rw [← h]
theorem nDigits_le {u : Nat} (h : u ≤ 18446744073709551615) : Lib.nDigits u ≤ 20 := by
  rcases Nat.eq_zero_or_pos u with h0 | h0
  · subst h0; rw [Lib.nDigits_small (by decide)]; decide
  · have := Lib.numDigits_eq u h0 (by omega)
    split at this <;> omega
/-- The ways of a sign in front. -/
def sgnB (b : Bool) : List UInt8 := if b = true then [45] else []
set_option maxRecDepth 100000 in
set_option maxHeartbeats 1000000 in
theorem format_any (a : Int) (w : World) (a1 : -9223372036854775808 ≤ a) (a2 : a ≤ 9223372036854775807) (ht : Tb w) (hp : Pw w) :
    Calls Tryd.prog 6 #[.int .i64 a] w (Ib (.string ⟨(sgnB (decide (a < 0)) ++ fmtM a.natAbs).toArray⟩) w) := by
  have ma := fun w => magnitude_any a w a1 a2
  have hn := natAbs_le a1 a2
  unfold fmtM
  generalize a.natAbs = n at *
  obtain ⟨q, hq⟩ : ∃ q, n / 65536 = q := ⟨_, rfl⟩
  obtain ⟨r, hr⟩ : ∃ r, n % 65536 = r := ⟨_, rfl⟩
  have k1 : (n : Int) / 65536 = (q : Int) := by omega
  have k2 : (n : Int) % 65536 = (r : Int) := by omega
  have k3 : IntKind.u64.wrap (q : Int) = (q : Int) := by rw [IntKind.wrap_u64]; omega
  have c1 := fmt_any q w (by omega) ht
  have c2 := fun w => decimals_any r w (by omega)
  rw [hq, hr]
  have hl : (Lib.decDigits q).length ≤ 20 := by rw [Lib.decDigits_length]; exact nDigits_le (by omega)
  obtain ⟨D, hD⟩ : ∃ D : ByteArray, (⟨(Lib.decDigits q).toArray⟩ : ByteArray) = D := ⟨_, rfl⟩
  obtain ⟨E, hE⟩ : ∃ E : ByteArray, (⟨(dec5 (r * 100000 / 65536)).toArray⟩ : ByteArray) = E := ⟨_, rfl⟩
  have sD : D.size ≤ 20 := by rw [← hD]; exact hl
  have sE : E.size ≤ 20 := by rw [← hE]; exact (by decide : 5 ≤ 20)
  have eD : D.data.toList = Lib.decDigits q := by rw [← hD]
  have eE : E.data.toList = dec5 (r * 100000 / 65536) := by rw [← hE]
  rw [hD] at c1
  rw [hE] at c2
  rw [← eD, ← eE]
  have HP := Lib.hid hp
  clear hq hr hn a1 a2 ht hp hl hD hE eD eE
  by_cases h : a < 0
  · have hd : decide (a < 0) = true := by simpa using h
    have H := Lib.hid (ba_eq (⟨#[45]⟩ ++ (D ++ ⟨#[46]⟩ ++ E)) (sgnB (decide (a < 0)) ++ (D.data.toList ++ 46 :: E.data.toList)) (by rw [hd]; simp [sgnB]))
    clear h
    go_enter Tryd.func6, Tryd.ntmps6
    go_wp2_with fail
    refine (ma _).mono ?_
    rintro e w' ⟨rfl, rfl⟩
    go_wp2_with fail
    refine c1.mono ?_
    rintro e w1 ⟨rfl, hb⟩
    go_wp2_with fail
    refine (c2 _ (HP.out.below hb)).mono ?_
    rintro e w2 ⟨rfl, hb2⟩
    go_wp2_with fail
    go_ret
    exact ⟨congrArg (fun s => Ending.returned (.string s)) H.out, up' hb hb2⟩
  · have hd : decide (a < 0) = false := by simpa using h
    have H := Lib.hid (ba_eq (D ++ ⟨#[46]⟩ ++ E) (sgnB (decide (a < 0)) ++ (D.data.toList ++ 46 :: E.data.toList)) (by rw [hd]; simp [sgnB]))
    clear h
    go_enter Tryd.func6, Tryd.ntmps6
    go_wp2_with fail
    refine (ma _).mono ?_
    rintro e w' ⟨rfl, rfl⟩
    go_wp2_with fail
    refine c1.mono ?_
    rintro e w1 ⟨rfl, hb⟩
    go_wp2_with fail
    refine (c2 _ (HP.out.below hb)).mono ?_
    rintro e w2 ⟨rfl, hb2⟩
    go_wp2_with fail
    go_ret
    exact ⟨congrArg (fun s => Ending.returned (.string s)) H.out, up' hb hb2⟩
theorem digit_at (r : Nat) (h : r < 10) : ((⟨#[48, 49, 50, 51, 52, 53, 54, 55, 56, 57]⟩ : ByteArray).extract r (r + 1)).data.toList = [UInt8.ofNat (48 + r)] := by
  have : r = 0 ∨ r = 1 ∨ r = 2 ∨ r = 3 ∨ r = 4 ∨ r = 5 ∨ r = 6 ∨ r = 7 ∨ r = 8 ∨ r = 9 := by omega
  rcases this with rfl | rfl | rfl | rfl | rfl | rfl | rfl | rfl | rfl | rfl <;> rfl
set_option maxHeartbeats 1000000 in
theorem digits_any (n : Nat) (w : World) (hn : n ≤ 9223372036854775808) :
    Calls Tryd.prog 23 #[.int .u64 (n : Int)] w (Is (.string ⟨(Lib.decDigits n).toArray⟩) w) := by
  have hl : (Lib.decDigits n).length ≤ 20 := by rw [Lib.decDigits_length]; exact nDigits_le (by omega)
  go_enter Tryd.func23, Tryd.ntmps23
  go_wp2_with fail
  go_loop [0, 3] (fun u v => ∃ (m : Nat) (s : ByteArray), m ≤ 9223372036854775808 ∧ u = .int .u64 (m : Int) ∧ v = .string s ∧ s.size ≤ 20 ∧ Hid (Lib.decDigits n = Lib.decDigits m ++ s.data.toList)) (fun u _ => (intOf u).toNat)
  case atStart => exact ⟨n, ⟨#[]⟩, hn, rfl, rfl, by decide, Lib.hid (by simp)⟩
  case round =>
    obtain ⟨m, s, hm, rfl, rfl, hs, hI⟩ := hrel
    obtain ⟨r, hr⟩ : ∃ r, m % 10 = r := ⟨_, rfl⟩
    obtain ⟨q, hq⟩ : ∃ q, m / 10 = q := ⟨_, rfl⟩
    have k1 : (m : Int) % 10 = (r : Int) := by omega
    have k2 : (m : Int) / 10 = (q : Int) := by omega
    have hr2 : r < 10 := by omega
    have k3 : IntKind.u64.wrap ((r : Int) + 1) = ((r + 1 : Nat) : Int) := by rw [IntKind.wrap_u64]; omega
    have k4 : IntKind.u64.wrap (q : Int) = (q : Int) := by rw [IntKind.wrap_u64]; omega
    have hdg := digit_at r hr2
    obtain ⟨T, hT⟩ : ∃ T, (⟨#[48, 49, 50, 51, 52, 53, 54, 55, 56, 57]⟩ : ByteArray).extract r (r + 1) = T := ⟨_, rfl⟩
    rw [hT] at hdg
    have hTs : T.size ≤ 1 := by rw [← size_list, hdg]; exact Nat.le_refl 1
    have sT : (T ++ s).data.toList = UInt8.ofNat (48 + r) :: s.data.toList := by rw [cat_list, hdg]; rfl
    have HL := Lib.hid hl
    by_cases h0 : q = 0
    · have hz : ((q : Int) == 0) = true := by simpa using h0
      have E := Lib.hid (ba_eq (T ++ s) (Lib.decDigits n) (by
        rw [sT, hI.out, Lib.decDigits, dif_pos (by omega)]
        rw [show m = r by omega]
        rfl))
      clear h0 hq hr hdg sT hl
      go_wp2_with fail
      go_ret
      exact ⟨congrArg (fun s => Ending.returned (.string s)) E.out, rfl⟩
    · have hz : ((q : Int) == 0) = false := by simpa using h0
      have N : Lib.decDigits n = Lib.decDigits q ++ (T ++ s).data.toList := by
        rw [sT, hI.out, Lib.decDigits, dif_neg (by omega), hr, hq, List.append_assoc]
        rfl
      have hsz : (T ++ s).size ≤ 20 := by
        have h1 := HL.out
        rw [N, List.length_append] at h1
        have h2 : (T ++ s).data.toList.length = (T ++ s).size := size_list _
        omega
      have HN := Lib.hid N
      have m1 : q < m := by omega
      have m2 : q ≤ 9223372036854775808 := by omega
      have HM := Lib.hid (And.intro hsz m2)
      clear h0 hq hr hdg sT hl N hsz m2
      go_wp2_with fail
      go_round
      case rel => exact ⟨q, T ++ s, HM.out.2, rfl, rfl, HM.out.1, HN⟩
      case measure => simp [intOf]; omega
/-- Zeros in front, up to five digits. -/
def pad (l : List UInt8) : List UInt8 := List.replicate (5 - l.length) 48 ++ l
theorem pad_cons {l : List UInt8} (h : l.length < 5) : pad (48 :: l) = pad l := by
  unfold pad
  obtain ⟨k, hk⟩ : ∃ k, 5 - l.length = k + 1 := ⟨4 - l.length, by omega⟩
  rw [List.length_cons, show 5 - (l.length + 1) = k by omega, hk, List.replicate_succ', List.append_assoc]
  rfl
theorem pad_all {l : List UInt8} (h : l.length = 5) : pad l = l := by
  unfold pad
  rw [h]
  rfl
theorem pad_dec {m : Nat} (h : m < 100000) : pad (Lib.decDigits m) = dec5 m := by
  have z : ∀ k : Nat, k = 0 → UInt8.ofNat (48 + k) = 48 := fun k h => by subst h; rfl
  unfold dec5
  by_cases h1 : m < 10
  · rw [Lib.decDigits, dif_pos h1, z (m / 10000 % 10) (by omega), z (m / 1000 % 10) (by omega), z (m / 100 % 10) (by omega), z (m / 10 % 10) (by omega), show m % 10 = m by omega]
    rfl
  · by_cases h2 : m < 100
    · rw [Lib.decDigits, dif_neg h1, Lib.decDigits, dif_pos (by omega), z (m / 10000 % 10) (by omega), z (m / 1000 % 10) (by omega), z (m / 100 % 10) (by omega), show m / 10 % 10 = m / 10 by omega]
      rfl
    · by_cases h3 : m < 1000
      · rw [Lib.decDigits, dif_neg h1, Lib.decDigits, dif_neg (by omega), Lib.decDigits, dif_pos (by omega), z (m / 10000 % 10) (by omega), z (m / 1000 % 10) (by omega), show m / 100 % 10 = m / 10 / 10 by omega]
        rfl
      · by_cases h4 : m < 10000
        · rw [Lib.decDigits, dif_neg h1, Lib.decDigits, dif_neg (by omega), Lib.decDigits, dif_neg (by omega), Lib.decDigits, dif_pos (by omega), z (m / 10000 % 10) (by omega), show m / 1000 % 10 = m / 10 / 10 / 10 by omega, show m / 100 % 10 = m / 10 / 10 % 10 by omega]
          rfl
        · rw [Lib.decDigits, dif_neg h1, Lib.decDigits, dif_neg (by omega), Lib.decDigits, dif_neg (by omega), Lib.decDigits, dif_neg (by omega), Lib.decDigits, dif_pos (by omega), show m / 10000 % 10 = m / 10 / 10 / 10 / 10 by omega, show m / 1000 % 10 = m / 10 / 10 / 10 % 10 by omega, show m / 100 % 10 = m / 10 / 10 % 10 by omega]
          rfl
theorem dec_len {m : Nat} (h : m < 100000) : 1 ≤ (Lib.decDigits m).length ∧ (Lib.decDigits m).length ≤ 5 := by
  have e := congrArg List.length (pad_dec h)
  have e2 : (dec5 m).length = 5 := rfl
  unfold pad at e
  rw [List.length_append, List.length_replicate, e2] at e
  refine ⟨?_, by omega⟩
  rw [Lib.decDigits]
  split <;> simp
set_option maxRecDepth 100000 in
set_option maxHeartbeats 1000000 in
theorem refFormat_any (a : Int) (w : World) (a1 : -9223372036854775808 ≤ a) (a2 : a ≤ 9223372036854775807) :
    Calls Tryd.prog 7 #[.int .i64 a] w (Is (.string ⟨(sgnB (decide (a < 0)) ++ fmtM a.natAbs).toArray⟩) w) := by
  have ma := fun w => refMagnitude_any a w a1 a2
  have hn := natAbs_le a1 a2
  unfold fmtM
  generalize a.natAbs = n at *
  obtain ⟨q, hq⟩ : ∃ q, n / 65536 = q := ⟨_, rfl⟩
  obtain ⟨r, hr⟩ : ∃ r, n % 65536 = r := ⟨_, rfl⟩
  obtain ⟨p, hp⟩ : ∃ p, r * 100000 = p := ⟨_, rfl⟩
  obtain ⟨m, hm⟩ : ∃ m, p / 65536 = m := ⟨_, rfl⟩
  have k1 : (n : Int) / 65536 = (q : Int) := by omega
  have k2 : (n : Int) % 65536 = (r : Int) := by omega
  have k3 : IntKind.u64.wrap (q : Int) = (q : Int) := by rw [IntKind.wrap_u64]; omega
  have k4 : IntKind.u64.wrap ((r : Int) * 100000) = (p : Int) := by rw [show (r : Int) * 100000 = (p : Int) by omega, IntKind.wrap_u64]; omega
  have k5 : (p : Int) / 65536 = (m : Int) := by omega
  have k6 : IntKind.u64.wrap (m : Int) = (m : Int) := by rw [IntKind.wrap_u64]; omega
  have c1 := fun w => digits_any q w (by omega)
  have c2 := fun w => digits_any m w (by omega)
  have hm5 : m < 100000 := by omega
  rw [hq, hr, hp, hm]
  have hl : (Lib.decDigits q).length ≤ 20 := by rw [Lib.decDigits_length]; exact nDigits_le (by omega)
  obtain ⟨D, hD⟩ : ∃ D : ByteArray, (⟨(Lib.decDigits q).toArray⟩ : ByteArray) = D := ⟨_, rfl⟩
  obtain ⟨E, hE⟩ : ∃ E : ByteArray, (⟨(Lib.decDigits m).toArray⟩ : ByteArray) = E := ⟨_, rfl⟩
  have sD : D.size ≤ 20 := by rw [← hD]; exact hl
  have hdl := dec_len hm5
  have sE : 1 ≤ E.size ∧ E.size ≤ 5 := by rw [← hE]; exact hdl
  have eD : D.data.toList = Lib.decDigits q := by rw [← hD]
  have eE : pad E.data.toList = dec5 m := by rw [← hE]; exact pad_dec hm5
  rw [hD] at c1
  rw [hE] at c2
  rw [← eD]
  have HE := Lib.hid eE
  obtain ⟨e1, e2⟩ := sE
  clear hq hr hp hm hn a1 a2 hl hD hE eD eE hdl hm5
  go_enter Tryd.func7, Tryd.ntmps7
  go_wp2_with fail
  refine (ma _).mono ?_
  rintro e w' ⟨rfl, rfl⟩
  go_wp2_with fail
  refine (c2 _).mono ?_
  rintro e w' ⟨rfl, rfl⟩
  go_wp2_with fail
  clear k2 k4 k5 k6 c2 ma
  go_loop [4] (fun v => ∃ s : ByteArray, v = .string s ∧ s.size ≤ 5 ∧ Hid (pad s.data.toList = dec5 m)) (fun v => 5 - (match v with | .string s => s.size | _ => 0))
  case atStart => exact ⟨E, rfl, e2, HE⟩
  case round =>
    obtain ⟨s, rfl, hs, hI⟩ := hrel
    by_cases h5 : s.size < 5
    · have N : pad ((⟨#[48]⟩ : ByteArray) ++ s).data.toList = dec5 m := by
        rw [cat_list, ← hI.out]
        exact pad_cons (l := s.data.toList) (by rw [size_list]; exact h5)
      have hz : ((⟨#[48]⟩ : ByteArray) ++ s).size = s.size + 1 := by rw [← size_list, cat_list]; simp
      have HN := Lib.hid N
      have HZ := Lib.hid hz
      clear N hz
      go_wp2_with fail
      go_round
      case rel => exact ⟨_, rfl, by rw [HZ.out]; omega, HN⟩
      case measure => show 5 - (_ ++ s).size < 5 - s.size; rw [HZ.out]; omega
    · have h6 : s.size = 5 := by omega
      have e : s.data.toList = dec5 m := by rw [← hI.out, pad_all (by rw [size_list]; exact h6)]
      have H6 := Lib.hid h6
      have h7 : 5 ≤ s.size := by omega
      clear h6
      by_cases h : a < 0
      · have hd : decide (a < 0) = true := by simpa using h
        have H := Lib.hid (ba_eq (⟨#[45]⟩ ++ (D ++ ⟨#[46]⟩ ++ s)) (sgnB (decide (a < 0)) ++ (D.data.toList ++ 46 :: dec5 m)) (by rw [hd, ← e]; simp [sgnB]))
        clear h e
        go_wp2_with fail
        refine (c1 _).mono ?_
        rintro e w' ⟨rfl, rfl⟩
        go_wp2_with fail
        go_ret
        exact ⟨congrArg (fun s => Ending.returned (.string s)) H.out, rfl⟩
      · have hd : decide (a < 0) = false := by simpa using h
        have H := Lib.hid (ba_eq (D ++ ⟨#[46]⟩ ++ s) (sgnB (decide (a < 0)) ++ (D.data.toList ++ 46 :: dec5 m)) (by rw [hd, ← e]; simp [sgnB]))
        clear h e
        go_wp2_with fail
        refine (c1 _).mono ?_
        rintro e w' ⟨rfl, rfl⟩
        go_wp2_with fail
        go_ret
        exact ⟨congrArg (fun s => Ending.returned (.string s)) H.out, rfl⟩
end Go.Proofs.YtgfahenhobnjpaaDoor

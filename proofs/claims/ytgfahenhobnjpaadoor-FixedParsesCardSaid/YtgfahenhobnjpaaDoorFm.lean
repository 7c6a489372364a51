/-
  The reference's Parse gives what the program's gives. No conditions but Go's own bound of a string's length.
-/
import Derived.Test.YtgfahenhobnjpaaDoorFl
namespace Go.Proofs.YtgfahenhobnjpaaDoor
open Go.RowKit
theorem byte_at (s : ByteArray) (j : Nat) (c : UInt8) : s.data.toList[j]? = some c ↔ ∃ h : j < s.size, s[j] = c := by
  rw [List.getElem?_eq_some_iff]
  constructor
  · rintro ⟨h, e⟩; exact ⟨by rw [← size_list]; exact h, e⟩
  · rintro ⟨h, e⟩; exact ⟨by rw [size_list]; exact h, e⟩
theorem byte_int (b c : UInt8) : ((b.toNat : Int) = (c.toNat : Int)) ↔ b = c := by
  rw [Int.ofNat_inj, UInt8.toNat_inj]
theorem frac_eq (u : List UInt8) (n m : Nat) (hn : nD u = n) (hm : nD (u.drop (n + 1)) = m) (hm5 : m ≤ 5) (h46 : u[n]? = some 46) (hend : n + 1 + m = u.length) :
    (scB u * 65536 + 50000) / 100000 = numB (u.takeWhile isDg) * 65536 + numB ((u.drop (n + 1)).takeWhile isDg) * 65536 / 10 ^ m + (if 10 ^ m ≤ 2 * (numB ((u.drop (n + 1)).takeWhile isDg) * 65536 % 10 ^ m) then 1 else 0) := by
  obtain ⟨d, hd⟩ : ∃ d, u.takeWhile isDg = d := ⟨_, rfl⟩
  have ha := take_all u
  have hs := nD_split u
  have hn2 : d.length = n := by rw [← hd]; exact hn
  rw [hd] at ha hs ⊢
  rcases hs with rfl | ⟨c, r, rfl, hc⟩
  · rw [List.getElem?_eq_none (by omega)] at h46; cases h46
  · subst hn2
    have hg : (d ++ c :: r)[d.length]? = some c := by simp
    rw [hg] at h46
    obtain rfl : c = 46 := Option.some.inj h46
    obtain ⟨e1, e2, e3⟩ := dig_dot r ha
    have hdr : (d ++ 46 :: r).drop (d.length + 1) = r := by simp
    rw [hdr] at hm ⊢
    have hl : (d ++ 46 :: r).length = d.length + 1 + r.length := by simp; omega
    have hr : r.takeWhile isDg = r := (List.takeWhile_prefix isDg (l := r)).eq_of_length (by show nD r = _; omega)
    rw [hr]
    unfold scB
    rw [e1, e2, show r.length = m by omega]
    exact half_eq _ _ _ hm5
theorem whole_eq (u : List UInt8) (h : nD u = u.length) : scB u = numB (u.takeWhile isDg) * 100000 := by
  have ha := (nD_len u).1 h
  have hr : u.takeWhile isDg = u := (List.takeWhile_prefix isDg (l := u)).eq_of_length h
  obtain ⟨e1, e2⟩ := dig_only ha
  unfold scB
  rw [aft_none e2, e1, hr, show numB [] = 0 by rfl, Nat.zero_mul, Nat.add_zero]
set_option maxRecDepth 100000 in
set_option maxHeartbeats 1000000 in
theorem refParse_none (w : World) (s : ByteArray) (h0 : s.toList = []) :
    Calls Tryd.prog 5 #[.string s] w (Is (.tuple #[.int .i64 0, .int .i64 1]) w) := by
  go_enter Tryd.func5, Tryd.ntmps5
  go_wp2_with fail
  go_ret2
  exact ⟨rfl, rfl⟩
theorem refParse_any (s : ByteArray) (w : World) (hs : s.size ≤ 9223372036854775807) :
    Calls Tryd.prog 5 #[.string s] w (Is (parB s.data.toList) w) := by
  by_cases h0 : s.toList = []
  · have h1 : s.data.toList = [] := by rw [← ByteArray.toList_eq]; exact h0
    have e : parB s.data.toList = .tuple #[.int .i64 0, .int .i64 1] := by unfold parB; rw [if_pos h1]
    rw [e]
    exact refParse_none w s h0
  have h1 : s.data.toList ≠ [] := by rw [← ByteArray.toList_eq]; exact h0
  unfold parB
  rw [if_neg h1]
  obtain ⟨i, hi⟩ : ∃ i, sg (neg45 s.data.toList) = i := ⟨_, rfl⟩
  obtain ⟨u, hu⟩ : ∃ u, unsg s.data.toList = u := ⟨_, rfl⟩
  have hu2 : s.data.toList.drop i = u := by rw [← hu, unsg_drop, hi]
  have hz : 0 < s.size := by rw [← size_list]; exact List.length_pos_iff.2 h1
  have hi2 : i ≤ s.size := by rw [← hi]; unfold sg; split <;> omega
  have hul : u.length = s.size - i := by rw [← hu2, List.length_drop, size_list]
  have hrn : runN s.data.toList i = nD u := by rw [runN_nD, hu2]
  have hrm : ∀ k, runN s.data.toList (i + k) = nD (u.drop k) := fun k => by rw [runN_nD, ← hu2, List.drop_drop]
  have hat : ∀ k c, u[k]? = some c ↔ ∃ h : i + k < s.size, s[i + k] = c := fun k c => by rw [← byte_at, ← hu2, List.getElem?_drop]
  have hh : u.head? = some 48 ↔ ∃ h : i < s.size, s[i] = 48 := by rw [List.head?_eq_getElem?]; exact hat 0 48
  have hnl : nD u ≤ u.length := (List.takeWhile_sublist isDg).length_le
  rw [hu]
  have hok := ok_iff u
  obtain ⟨n, hn⟩ : ∃ n, nD u = n := ⟨_, rfl⟩
  rw [hn] at hrn hnl
  have few : (n < 1 ∨ 10 < n) → Calls Tryd.prog 5 #[.string s] w (Is (.tuple #[.int .i64 0, .int .i64 2]) w) := fun h => refParse_few s w hs h0 (by rw [hi, hrn]; exact h)
  by_cases c1 : n < 1 ∨ 10 < n
  · have : okB u = false := by
      cases h : okB u with
      | false => rfl
      | true => have := hok.1 h; unfold okR at this; rw [hn] at this; omega
    rw [if_pos this]
    exact few c1
  have n1 : 1 ≤ n := by omega
  have n2 : n ≤ 10 := by omega
  by_cases c2 : 1 < n ∧ u.head? = some 48
  · have : okB u = false := by
      cases h : okB u with
      | false => rfl
      | true => have := hok.1 h; unfold okR at this; rw [hn] at this; exact absurd c2 this.2.2.1
    rw [if_pos this]
    refine refParse_zero s w hs h0 (by rw [hi, hrn]; exact c2.1) (by rw [hi, hrn]; exact n2) ?_
    subst hi
    intro h
    obtain ⟨_, e⟩ := hh.1 c2.2
    rw [e]; rfl
  have hq0 : n = 1 ∨ (1 < n ∧ ∀ h : i < s.size, (s[i].toNat : Int) ≠ 48) := by
    by_cases hn1 : n = 1
    · exact .inl hn1
    · exact .inr ⟨by omega, fun h e => c2 ⟨by omega, hh.2 ⟨h, (byte_int _ 48).1 e⟩⟩⟩
  by_cases c3 : n = u.length
  · have : okB u = true := hok.2 (by unfold okR; rw [hn]; exact ⟨n1, n2, c2, .inl c3⟩)
    rw [if_neg (by rw [this]; decide)]
    have he := whole_eq u (by rw [hn]; exact c3)
    have c := refParse_whole s w i n _ hs h0 hi hrn n1 n2 hq0 (by omega) rfl
    rw [hu2] at c
    have b1 := big_iff (scB u)
    unfold qlim
    rw [he] at b1 ⊢
    generalize numB (u.takeWhile isDg) = x at *
    have e2 : (x * 100000 * 65536 + 100000 / 2) / 100000 = x * 65536 := by omega
    have e3 : (x * 100000 * 65536 + 50000) / 100000 = x * 65536 := by omega
    rw [e3] at b1
    rw [e2]
    by_cases c4 : 140737488355328 < x * 65536
    · rw [if_pos (b1.2 c4)]; rw [if_pos c4] at c; exact c
    · rw [if_neg (fun h => c4 (b1.1 h))]; rw [if_neg c4] at c; exact c
  have hlt : i + n < s.size := by omega
  obtain ⟨m, hm⟩ : ∃ m, nD (u.drop (n + 1)) = m := ⟨_, rfl⟩
  have hrm2 : runN s.data.toList (i + n + 1) = m := by rw [Nat.add_assoc, hrm, hm]
  by_cases c4 : u[n]? = some 46 ∧ 1 ≤ m ∧ m ≤ 5 ∧ n + 1 + m = u.length
  · have : okB u = true := hok.2 (by unfold okR; rw [hn, hm]; exact ⟨n1, n2, c2, .inr c4⟩)
    rw [if_neg (by rw [this]; decide)]
    obtain ⟨d1, d2, d3, d4⟩ := c4
    have hdot : (s[i + n].toNat : Int) = 46 := by obtain ⟨_, e⟩ := (hat n 46).1 d1; rw [e]; rfl
    have he := frac_eq u n m hn hm d3 d1 d4
    have c := refParse_frac s w i n m _ _ _ _ _ hs h0 hi hrn hrm2 n1 n2 hq0 hlt hdot d2 d3 (by omega) rfl rfl rfl rfl rfl
    rw [show s.data.toList.drop (i + n + 1) = u.drop (n + 1) by rw [← hu2, List.drop_drop, Nat.add_assoc], hu2, ← he] at c
    have b1 := big_iff (scB u)
    unfold qlim
    rw [show 100000 / 2 = 50000 by rfl]
    by_cases c5 : 140737488355328 < (scB u * 65536 + 50000) / 100000
    · rw [if_pos (b1.2 c5)]; rw [if_pos c5] at c; exact c
    · rw [if_neg (fun h => c5 (b1.1 h))]; rw [if_neg c5] at c; exact c
  · have : okB u = false := by
      cases h : okB u with
      | false => rfl
      | true =>
        have := hok.1 h
        unfold okR at this
        rw [hn, hm] at this
        rcases this.2.2.2 with h | h
        · exact absurd h c3
        · exact absurd h c4
    rw [if_pos this]
    refine refParse_tail s w i n m hs h0 hi hrn hrm2 n1 n2 hq0 hlt ?_
    rintro ⟨h, e, e2, e3, e4⟩
    exact c4 ⟨(hat n 46).2 ⟨h, (byte_int _ 46).1 e⟩, e2, e3, by omega⟩
end Go.Proofs.YtgfahenhobnjpaaDoor

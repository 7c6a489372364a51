/-
  Contracts of the functions that read numbers: the program's isWhole, the reference's number and run.
-/
import Derived.Test.YtgfahenhobnjpaaDoorFa
namespace Go.Proofs.YtgfahenhobnjpaaDoor
open Go.RowKit
set_option maxHeartbeats 1000000 in
theorem refNumber_any (s : ByteArray) (w : World) (hd : s.data.toList.all isDg = true) (hs : s.size ≤ 10) :
    Calls Tryd.prog 17 #[.string s] w (Is (.int .u64 (numB s.data.toList : Nat)) w) := by
  have HD := Lib.hid hd
  clear hd
  go_enter Tryd.func17, Tryd.ntmps17
  go_wp2_with fail
  go_loop [3, 4] (fun u i => ∃ k n : Nat, k ≤ s.size ∧ i = .int .i64 (k : Int) ∧ u = .int .u64 (n : Int) ∧ Hid (n = numB (s.data.toList.take k))) (fun _ i => s.size - (intOf i).toNat)
  case atStart => exact ⟨0, 0, by omega, rfl, rfl, Lib.hid rfl⟩
  case round =>
    obtain ⟨k, n, hk, rfl, rfl, hI⟩ := hrel
    by_cases hlt : k < s.size
    · have hsn := take_snoc s k hlt
      have hc : isDg s[k] = true := by
        have h1 := HD.out
        rw [← List.take_append_drop (k + 1) s.data.toList, hsn] at h1
        simp only [List.all_append, List.all_cons, List.all_nil, Bool.and_eq_true] at h1
        exact h1.1.2.1
      unfold isDg at hc
      simp only [Bool.and_eq_true, decide_eq_true_eq] at hc
      have hn : n < 10 ^ 10 := by
        have h1 : (s.data.toList.take k).all isDg = true := by
          have h2 := HD.out
          rw [← List.take_append_drop k s.data.toList, List.all_append, Bool.and_eq_true] at h2
          exact h2.1
        have h3 := numB_lt _ h1
        rw [← hI.out] at h3
        have h4 : (s.data.toList.take k).length ≤ 10 := by rw [List.length_take]; omega
        exact Nat.lt_of_lt_of_le h3 (Nat.pow_le_pow_right (by omega) h4)
      have N : 10 * n + (s[k].toNat - 48) = numB (s.data.toList.take (k + 1)) := by rw [hsn, numB_snoc, ← hI.out]
      have HN := Lib.hid N
      obtain ⟨m, hm⟩ : ∃ m, 10 * n = m := ⟨_, rfl⟩
      obtain ⟨d, hdd⟩ : ∃ d, s[k].toNat - 48 = d := ⟨_, rfl⟩
      obtain ⟨r, hr⟩ : ∃ r, m + d = r := ⟨_, rfl⟩
      have l1 : IntKind.u64.wrap (10 * (n : Int)) = (m : Int) := by rw [show 10 * (n : Int) = (m : Int) by omega, IntKind.wrap_u64]; omega
      have l2 : IntKind.u8.wrap ((s[k].toNat : Int) - 48) = (d : Int) := by rw [show (s[k].toNat : Int) - 48 = (d : Int) by omega, IntKind.wrap_u8']; omega
      have l3 : IntKind.u64.wrap ((m : Int) + (d : Int)) = (r : Int) := by rw [← Int.natCast_add, hr, IntKind.wrap_u64]; omega
      have l4 : IntKind.u64.wrap (d : Int) = (d : Int) := by rw [IntKind.wrap_u64]; omega
      rw [hm, hdd, hr] at HN
      clear hc hn N hm hdd hr hsn
      go_wp2_with fail
      go_round
      case rel => exact ⟨k + 1, r, by omega, by go_num, rfl, HN⟩
      case measure => simp [intOf]; omega
    · obtain rfl : k = s.size := by omega
      have e : n = numB s.data.toList := by rw [hI.out, List.take_of_length_le (by simp)]
      subst e
      go_wp2_with fail
      go_ret
      exact ret_is rfl
theorem byte_ne (c k : UInt8) : ((c.toNat : Int) != (k.toNat : Int)) = (c != k) := by
  by_cases h : c = k
  · subst h; simp
  · have h2 : ¬ c.toNat = k.toNat := fun e => h (UInt8.toNat_inj.1 e)
    rw [bne_iff_ne.2 h, bne_iff_ne.2 (fun e => h2 (Int.ofNat_inj.1 e))]
/-- A natural number as Parse reads it. -/
def whole (l : List UInt8) : Bool := digs l 10 && (l == [48] || l.head? != some 48)
set_option maxHeartbeats 1000000 in
theorem isWhole_any (s : ByteArray) (w : World) (hs : s.size ≤ 9223372036854775807) :
    Calls Tryd.prog 11 #[.string s] w (Is (.bool (whole s.data.toList)) w) := by
  have cD := fun w => isDigits_any s 10 w (by omega) hs
  by_cases h : digs s.data.toList 10 = true
  · have h1 : s.data.toList ≠ [] := by intro e; rw [e] at h; exact absurd h (by decide)
    have hz : 0 < s.size := by rw [← size_list]; exact List.length_pos_iff.2 h1
    have h0 : s.data.toList.head? = some s[0] := by
      rw [List.head?_eq_getElem?, List.getElem?_eq_getElem (by rw [size_list]; exact hz)]; rfl
    by_cases e1 : s.toList = [48]
    · have e : whole s.data.toList = true := by unfold whole; rw [h, ← ByteArray.toList_eq, e1]; rfl
      rw [e]
      rw [h] at cD
      have b1 : (s.toList == ([48] : List UInt8)) = true := by rw [e1]; rfl
      clear e e1 h h1 h0
      go_enter Tryd.func11, Tryd.ntmps11
      go_wp2_with fail
      refine (cD _).mono ?_
      rintro e w' ⟨rfl, rfl⟩
      go_wp2_with fail
      go_ret
      exact ret_bool rfl
    · have b1 : (s.toList == ([48] : List UInt8)) = false := beq_eq_false_iff_ne.2 e1
      have e : whole s.data.toList = (s[0] != 48) := by
        unfold whole
        rw [h, h0, show (s.data.toList == ([48] : List UInt8)) = false by rw [← ByteArray.toList_eq]; exact b1]
        simp
        cases (s[0] == 48) <;> rfl
      rw [e]
      rw [h] at cD
      clear e e1 h h1 h0
      go_enter Tryd.func11, Tryd.ntmps11
      go_wp2_with fail
      refine (cD _).mono ?_
      rintro e w' ⟨rfl, rfl⟩
      go_wp2_with fail
      go_ret
      exact ret_bool (byte_ne _ 48)
  · have h2 : digs s.data.toList 10 = false := by simpa using h
    have e : whole s.data.toList = false := by unfold whole; rw [h2]; rfl
    rw [e]
    rw [h2] at cD
    clear e h h2
    go_enter Tryd.func11, Tryd.ntmps11
    go_wp2_with fail
    refine (cD _).mono ?_
    rintro e w' ⟨rfl, rfl⟩
    go_wp2_with fail
    go_ret
    exact ret_bool rfl
/-- How many decimal digits there are from i on. -/
def runN (l : List UInt8) (i : Nat) : Nat := ((l.drop i).takeWhile isDg).length
theorem runN_end (l : List UInt8) : runN l l.length = 0 := by simp [runN]
theorem runN_dg (s : ByteArray) (i : Nat) (h : i < s.size) (hd : isDg s[i] = true) : runN s.data.toList i = runN s.data.toList (i + 1) + 1 := by
  unfold runN
  rw [List.drop_eq_getElem_cons (by rw [size_list]; exact h), List.takeWhile_cons, if_pos (show isDg s.data.toList[i] = true from hd), List.length_cons]
theorem runN_no (s : ByteArray) (i : Nat) (h : i < s.size) (hd : isDg s[i] = false) : runN s.data.toList i = 0 := by
  unfold runN
  rw [List.drop_eq_getElem_cons (by rw [size_list]; exact h), List.takeWhile_cons, if_neg (by rw [show isDg s.data.toList[i] = false from hd]; decide)]
  rfl
set_option maxHeartbeats 1000000 in
theorem run_any (s : ByteArray) (i : Nat) (w : World) (hi : i ≤ s.size) (hs : s.size ≤ 9223372036854775807) :
    Calls Tryd.prog 16 #[.string s, .int .i64 (i : Int)] w (Is (.int .i64 (runN s.data.toList i : Nat)) w) := by
  go_enter Tryd.func16, Tryd.ntmps16
  go_wp2_with fail
  go_loop [5] (fun v => ∃ k : Nat, i + k ≤ s.size ∧ v = .int .i64 (k : Int) ∧ Hid (runN s.data.toList i = runN s.data.toList (i + k) + k)) (fun v => s.size - (intOf v).toNat)
  case atStart => exact ⟨0, by omega, rfl, Lib.hid rfl⟩
  case round =>
    obtain ⟨k, hk, rfl, hI⟩ := hrel
    obtain ⟨j, hj⟩ : ∃ j, i + k = j := ⟨_, rfl⟩
    have l1 : IntKind.i64.wrap ((i : Int) + (k : Int)) = (j : Int) := by rw [show (i : Int) + (k : Int) = (j : Int) by omega]; exact IntWalk.i64_in _ (by omega)
    rw [hj] at hI hk
    by_cases hlt : j < s.size
    · have hc : isDg s[j] = true → Hid (runN s.data.toList i = runN s.data.toList (i + (k + 1)) + (k + 1)) := fun h => Lib.hid (by rw [hI.out, runN_dg s j hlt h, show i + (k + 1) = j + 1 by omega]; omega)
      have hn : isDg s[j] = false → Hid (k = runN s.data.toList i) := fun h => Lib.hid (by rw [hI.out, runN_no s j hlt h]; omega)
      by_cases c1 : (s[j].toNat : Int) < 48
      · have E := hn (by unfold isDg; simp; omega)
        clear hc hn
        go_wp2_with fail
        go_ret
        exact ret_is (Int.ofNat_inj.2 E.out)
      · by_cases c2 : 57 < (s[j].toNat : Int)
        · have E := hn (by unfold isDg; simp; omega)
          clear hc hn
          go_wp2_with fail
          go_ret
          exact ret_is (Int.ofNat_inj.2 E.out)
        · have E := hc (by unfold isDg; simp; omega)
          clear hc hn
          go_wp2_with fail
          go_round
          case rel => exact ⟨k + 1, by omega, by go_num, E⟩
          case measure => simp [intOf]; omega
    · have E : Hid (k = runN s.data.toList i) := Lib.hid (by
        have h0 := runN_end s.data.toList
        rw [size_list, show s.size = j by omega] at h0
        rw [hI.out, h0]; omega)
      go_wp2_with fail
      go_ret
      exact ret_is (Int.ofNat_inj.2 E.out)
end Go.Proofs.YtgfahenhobnjpaaDoor

/-
  Contracts of the functions that read digits, the program's and the reference's. No conditions but those stated.
-/
import Derived.Test.YtgfahenhobnjpaaDoorPa
import Derived.Lib.Strings
namespace Go.Proofs.YtgfahenhobnjpaaDoor
open Go.RowKit
/-- A decimal digit. -/
def isDg (c : UInt8) : Bool := decide (48 ≤ (c.toNat : Int)) && decide ((c.toNat : Int) ≤ 57)
/-- One to m decimal digits. -/
def digs (l : List UInt8) (m : Nat) : Bool := !l.isEmpty && decide (l.length ≤ m) && l.all isDg
theorem ret_bool {a b : Bool} {w : World} (h : a = b) : Is (.bool b) w (.returned (.bool a)) w := ⟨by rw [h], rfl⟩
theorem take_snoc (s : ByteArray) (k : Nat) (h : k < s.size) : s.data.toList.take (k + 1) = s.data.toList.take k ++ [s[k]] := by
  rw [List.take_succ_eq_append_getElem (by simpa using h)]; rfl
theorem size_list (s : ByteArray) : s.data.toList.length = s.size := by simp
set_option maxHeartbeats 1000000 in
theorem isDigits_any (s : ByteArray) (m : Nat) (w : World) (hm : m ≤ 100) (hs : s.size ≤ 9223372036854775807) :
    Calls Tryd.prog 12 #[.string s, .int .i64 (m : Int)] w (Is (.bool (digs s.data.toList m)) w) := by
  by_cases h0 : s.toList = []
  · have h1 : s.data.toList = [] := by rw [← ByteArray.toList_eq]; exact h0
    have e : digs s.data.toList m = false := by rw [h1]; rfl
    rw [e]
    clear e h1
    go_enter Tryd.func12, Tryd.ntmps12
    go_wp2_with fail
    go_ret
    exact ret_bool rfl
  · have h1 : s.data.toList ≠ [] := by rw [← ByteArray.toList_eq]; exact h0
    have h2 : s.toList.isEmpty = false := by cases hh : s.toList with | nil => exact absurd hh h0 | cons a b => rfl
    by_cases hl : m < s.size
    · have e : digs s.data.toList m = false := by unfold digs; rw [size_list, show decide (s.size ≤ m) = false by simp; omega]; simp
      rw [e]
      clear e h1
      go_enter Tryd.func12, Tryd.ntmps12
      go_wp2_with fail
      go_ret
      exact ret_bool rfl
    · have hl2 : decide (m < s.size) = false := by simp; omega
      have hl3 : s.size ≤ m := by omega
      clear hl
      go_enter Tryd.func12, Tryd.ntmps12
      go_wp2_with fail
      go_loop [16] (fun i => ∃ k : Nat, k ≤ s.size ∧ i = .int .i64 (k : Int) ∧ Hid ((s.data.toList.take k).all isDg = true)) (fun i => s.size - (intOf i).toNat)
      case atStart => exact ⟨0, by omega, rfl, Lib.hid rfl⟩
      case round =>
        obtain ⟨k, hk, rfl, hI⟩ := hrel
        by_cases hlt : k < s.size
        · have hsn := take_snoc s k hlt
          by_cases c1 : (s[k].toNat : Int) < 48
          · have e : digs s.data.toList m = false := by
              have : s.data.toList.all isDg = false := by
                rw [← List.take_append_drop (k + 1) s.data.toList, hsn]
                simp only [List.all_append, List.all_cons, List.all_nil]
                rw [show isDg s[k] = false by unfold isDg; simp; omega]
                simp
              unfold digs; rw [this]; simp
            have E := Lib.hid e
            clear e hsn
            go_wp2_with fail
            go_ret
            exact ret_bool E.out.symm
          · by_cases c2 : 57 < (s[k].toNat : Int)
            · have e : digs s.data.toList m = false := by
                have : s.data.toList.all isDg = false := by
                  rw [← List.take_append_drop (k + 1) s.data.toList, hsn]
                  simp only [List.all_append, List.all_cons, List.all_nil]
                  rw [show isDg s[k] = false by unfold isDg; simp; omega]
                  simp
                unfold digs; rw [this]; simp
              have E := Lib.hid e
              clear e hsn
              go_wp2_with fail
              go_ret
              exact ret_bool E.out.symm
            · have N : (s.data.toList.take (k + 1)).all isDg = true := by
                rw [hsn]
                simp only [List.all_append, List.all_cons, List.all_nil, hI.out]
                rw [show isDg s[k] = true by unfold isDg; simp; omega]
                rfl
              have HN := Lib.hid N
              clear N hsn
              go_wp2_with fail
              go_round
              case rel => exact ⟨k + 1, by omega, by go_num, HN⟩
              case measure => simp [intOf]; omega
        · obtain rfl : k = s.size := by omega
          have e : digs s.data.toList m = true := by
            have h5 := hI.out
            rw [List.take_of_length_le (by simp)] at h5
            unfold digs
            rw [h5, size_list, show decide (s.size ≤ m) = true by simp; omega]
            cases hh : s.data.toList with | nil => exact absurd hh h1 | cons a b => rfl
          have E := Lib.hid e
          clear e
          go_wp2_with fail
          go_ret
          exact ret_bool E.out.symm
/-- The number with these digits. -/
def numB (l : List UInt8) : Nat := l.foldl (fun n c => 10 * n + (c.toNat - 48)) 0
theorem numB_snoc (l : List UInt8) (c : UInt8) : numB (l ++ [c]) = 10 * numB l + (c.toNat - 48) := by simp [numB]
theorem numB_lt (l : List UInt8) (h : l.all isDg = true) : numB l < 10 ^ l.length := by
  have key : ∀ (l : List UInt8) (a : Nat), l.all isDg = true → l.foldl (fun n c => 10 * n + (c.toNat - 48)) a < (a + 1) * 10 ^ l.length := by
    intro l
    induction l with
    | nil => intro a _; simp
    | cons c l ih =>
      intro a h
      simp only [List.all_cons, Bool.and_eq_true] at h
      have h2 := h.1
      unfold isDg at h2
      simp only [Bool.and_eq_true, decide_eq_true_eq] at h2
      have h3 := ih (10 * a + (c.toNat - 48)) h.2
      rw [List.foldl_cons, List.length_cons, Nat.pow_succ]
      refine Nat.lt_of_lt_of_le h3 ?_
      rw [Nat.mul_comm (10 ^ l.length), ← Nat.mul_assoc]
      exact Nat.mul_le_mul_right _ (by omega)
  have := key l 0 h
  unfold numB
  omega
set_option maxHeartbeats 1000000 in
theorem number_any (s : ByteArray) (w : World) (hd : s.data.toList.all isDg = true) (hs : s.size ≤ 10) :
    Calls Tryd.prog 13 #[.string s] w (Is (.int .u64 (numB s.data.toList : Nat)) w) := by
  have HD := Lib.hid hd
  clear hd
  go_enter Tryd.func13, Tryd.ntmps13
  go_wp2_with fail
  go_loop [3, 7] (fun u i => ∃ k n : Nat, k ≤ s.size ∧ i = .int .i64 (k : Int) ∧ u = .int .u64 (n : Int) ∧ Hid (n = numB (s.data.toList.take k))) (fun _ i => s.size - (intOf i).toNat)
  case atStart => exact ⟨0, 0, by omega, rfl, rfl, Lib.hid rfl⟩
  case round =>
    obtain ⟨k, n, hk, rfl, rfl, hI⟩ := hrel
    by_cases hlt : k < s.size
    · have hsn := take_snoc s k hlt
      have hc : isDg s[k] = true := by
        have h1 := HD.out
        rw [← List.take_append_drop (k + 1) s.data.toList, hsn] at h1
        simp only [List.all_append, List.all_cons, List.all_nil, Bool.and_eq_true] at h1
        exact h1.1.2.1
      unfold isDg at hc
      simp only [Bool.and_eq_true, decide_eq_true_eq] at hc
      have hn : n < 10 ^ 10 := by
        have h1 : (s.data.toList.take k).all isDg = true := by
          have h2 := HD.out
          rw [← List.take_append_drop k s.data.toList, List.all_append, Bool.and_eq_true] at h2
          exact h2.1
        have h3 := numB_lt _ h1
        rw [← hI.out] at h3
        have h4 : (s.data.toList.take k).length ≤ 10 := by rw [List.length_take]; omega
        exact Nat.lt_of_lt_of_le h3 (Nat.pow_le_pow_right (by omega) h4)
      have N : 10 * n + (s[k].toNat - 48) = numB (s.data.toList.take (k + 1)) := by rw [hsn, numB_snoc, ← hI.out]
      have HN := Lib.hid N
      obtain ⟨m, hm⟩ : ∃ m, 10 * n = m := ⟨_, rfl⟩
      obtain ⟨d, hdd⟩ : ∃ d, s[k].toNat - 48 = d := ⟨_, rfl⟩
      obtain ⟨r, hr⟩ : ∃ r, m + d = r := ⟨_, rfl⟩
      have l1 : IntKind.u64.wrap (10 * (n : Int)) = (m : Int) := by rw [show 10 * (n : Int) = (m : Int) by omega, IntKind.wrap_u64]; omega
      have l2 : IntKind.u8.wrap ((s[k].toNat : Int) - 48) = (d : Int) := by rw [show (s[k].toNat : Int) - 48 = (d : Int) by omega, IntKind.wrap_u8']; omega
      have l3 : IntKind.u64.wrap ((m : Int) + (d : Int)) = (r : Int) := by rw [← Int.natCast_add, hr, IntKind.wrap_u64]; omega
      have l4 : IntKind.u64.wrap (d : Int) = (d : Int) := by rw [IntKind.wrap_u64]; omega
      rw [hm, hdd, hr] at HN
      clear hc hn N hm hdd hr hsn
      go_wp2_with fail
      go_round
      case rel => exact ⟨k + 1, r, by omega, by go_num, rfl, HN⟩
      case measure => simp [intOf]; omega
    · obtain rfl : k = s.size := by omega
      have e : n = numB s.data.toList := by rw [hI.out, List.take_of_length_le (by simp)]
      subst e
      go_wp2_with fail
      go_ret
      exact ret_is rfl
end Go.Proofs.YtgfahenhobnjpaaDoor

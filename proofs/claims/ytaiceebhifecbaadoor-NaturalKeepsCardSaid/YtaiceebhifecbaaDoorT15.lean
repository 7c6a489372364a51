/-
  Contracts of check and group. No conditions on check; group: at most 9 decimal digits.
-/
import Derived.Test.YtaiceebhifecbaaDoorT14
namespace Go.Proofs.YtaiceebhifecbaaDoor
open Go.RowKit
/-- The bytes of a string, as numbers. -/
def Bt (s : ByteArray) : List Nat := s.data.toList.map (fun b => b.toNat)
theorem Bt_length (s : ByteArray) : (Bt s).length = s.size := by simp [Bt]
theorem Bt_at (s : ByteArray) (k : Nat) (h : k < s.size) : (Bt s)[k]? = some (s[k].toNat) := by
  have : s[k] = s.data[k]'h := rfl
  rw [this]
  simp only [Bt, List.getElem?_map, Array.getElem?_toList]
  rw [Array.getElem?_eq_getElem h]
  rfl
theorem Bt_lt (s : ByteArray) : ∀ c ∈ Bt s, c < 256 := by
  intro c hc
  simp only [Bt, List.mem_map] at hc
  obtain ⟨b, _, rfl⟩ := hc
  exact b.toNat_lt
namespace Nm
/-- All are decimal digits. -/
def alldec (l : List Nat) : Prop := ∀ c ∈ l, 48 ≤ c ∧ c ≤ 57
instance (l : List Nat) : Decidable (alldec l) := by unfold alldec; infer_instance
/-- Which error a text is. -/
def chk (l : List Nat) : Nat := if l.length = 0 then 1 else if 400 < l.length then 3 else if ¬ alldec l then 2 else if l.head? = some 48 ∧ 1 < l.length then 2 else 0
end Nm
set_option maxHeartbeats 400000 in
theorem check_any (s : ByteArray) (w : World) (hs : s.size ≤ 1000000) :
    Calls Tryd.prog 50 #[.string s] w fun e w' => e = .returned (.int .i64 (Nm.chk (Bt s))) ∧ w = w' := by
  have hl := Bt_length s
  rcases Nat.eq_zero_or_pos s.size with h0 | h0
  · have hfin : Nm.chk (Bt s) = 1 := by unfold Nm.chk; rw [if_pos (by omega)]
    rw [hfin]
    have b0 : ((s.size : Int) == 0) = true := by rw [beq_iff_eq]; omega
    clear hfin h0 hl
    go_enter Tryd.func50, Tryd.ntmps50
    go_wp2_with fail
    go_ret
    exact ⟨rfl, rfl⟩
  · have b0 : ((s.size : Int) == 0) = false := digit_ne (by omega)
    rcases Nat.lt_or_ge 400 s.size with h1 | h1
    · have hfin : Nm.chk (Bt s) = 3 := by unfold Nm.chk; rw [if_neg (by omega), if_pos (by omega)]
      rw [hfin]
      clear hfin hl
      go_enter Tryd.func50, Tryd.ntmps50
      go_wp2_with fail
      go_ret
      exact ⟨rfl, rfl⟩
    · have Hl := Lib.hid hl
      clear hl
      go_enter Tryd.func50, Tryd.ntmps50
      go_wp2_with fail
      go_loop [12] (fun i => ∃ k : Nat, k ≤ s.size ∧ i = .int .i64 k ∧ Hid (∀ j c, j < k → (Bt s)[j]? = some c → 48 ≤ c ∧ c ≤ 57)) (fun i => s.size - (intOf i).toNat)
      case atStart => exact ⟨0, Nat.zero_le _, rfl, fun j c hj => absurd hj (by omega)⟩
      case round =>
        obtain ⟨k, hk, rfl, hd⟩ := hrel
        by_cases hlt : k < s.size
        · have hat := Bt_at s k hlt
          obtain ⟨c, hc⟩ : ∃ c : Nat, s[k].toNat = c := ⟨_, rfl⟩
          rw [hc] at hat
          have Hat := Lib.hid hat
          clear hat
          have hbad : (c < 48 ∨ 57 < c) → Nm.chk (Bt s) = 2 := by
            intro h
            unfold Nm.chk
            rw [if_neg (by have := Hl.out; omega), if_neg (by have := Hl.out; omega), if_pos]
            intro hall
            have := hall c (List.mem_of_getElem? Hat.out)
            omega
          have Hbad := Lib.hid hbad
          have hnext : (48 ≤ c ∧ c ≤ 57) → ∀ j d, j < k + 1 → (Bt s)[j]? = some d → 48 ≤ d ∧ d ≤ 57 := by
            intro h j d hj hd2
            rcases Nat.lt_or_ge j k with h5 | h5
            · exact hd.out j d h5 hd2
            · obtain rfl : j = k := by omega
              rw [Hat.out] at hd2
              injection hd2 with hd2
              omega
          have Hnext := Lib.hid hnext
          clear hbad hnext
          go_wp2_with fail
          · go_ret
            exact ⟨ret_int (by rw [Hbad.out (by omega)]; rfl), rfl⟩
          · exact ⟨⟨k + 1, by omega, by go_num, Hnext.out (by omega)⟩, by simp [intOf]; omega⟩
          · go_ret
            exact ⟨ret_int (by rw [Hbad.out (by omega)]; rfl), rfl⟩
        · have hall : Nm.alldec (Bt s) := by
            intro c hc
            obtain ⟨j, hj, hjc⟩ := List.mem_iff_getElem.1 hc
            exact hd.out j c (by have := Hl.out; omega) (by rw [List.getElem?_eq_getElem hj, hjc])
          have h00 : (Bt s).head? = some (s[0].toNat) := by rw [List.head?_eq_getElem?]; exact Bt_at s 0 h0
          have hfin : Nm.chk (Bt s) = if s[0].toNat = 48 ∧ 1 < s.size then 2 else 0 := by
            unfold Nm.chk
            rw [if_neg (by have := Hl.out; omega), if_neg (by have := Hl.out; omega), if_neg (by simpa using hall), h00, Hl.out]
            simp
          have Hfin := Lib.hid hfin
          clear hfin hall h00
          go_wp2_with fail
          all_goals (go_ret; exact ⟨ret_int (by rw [Hfin.out]; first | rw [if_pos (by omega)]; rfl | rw [if_neg (by omega)]; rfl), rfl⟩)
end Go.Proofs.YtaiceebhifecbaaDoor

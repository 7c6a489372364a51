/-
  Reading a varint: the mathematics, and the contracts of the program's and of the reference's function. No conditions but Go's own bound of a string's length.
-/
import Derived.Test.YtcjaaijohapeaaaDoorWc
namespace Go.Proofs.YtcjaaijohapeaaaDoor
open Go.RowKit
/-- Reading a varint from byte i on, with n read so far: the number, the bytes, the error. -/
def dv : Nat → Nat → List UInt8 → Nat × Nat × Nat
  | _, _, [] => (0, 0, 1)
  | i, n, b :: r =>
    if i = 9 ∧ 1 < b.toNat then (0, 0, 2)
    else if 128 ≤ b.toNat then dv (i + 1) (n + b.toNat % 128 * 128 ^ i) r
    else if b.toNat = 0 ∧ 0 < i then (0, 0, 2)
    else (n + b.toNat % 128 * 128 ^ i, i + 1, 0)
theorem dv_at (i n : Nat) (l : List UInt8) (h : i < l.length) : dv i n (l.drop i) =
    if i = 9 ∧ 1 < l[i].toNat then (0, 0, 2)
    else if 128 ≤ l[i].toNat then dv (i + 1) (n + l[i].toNat % 128 * 128 ^ i) (l.drop (i + 1))
    else if l[i].toNat = 0 ∧ 0 < i then (0, 0, 2)
    else (n + l[i].toNat % 128 * 128 ^ i, i + 1, 0) := by
  rw [List.drop_eq_getElem_cons h, dv]
theorem dv_end (i n : Nat) (l : List UInt8) (h : i = l.length) : dv i n (l.drop i) = (0, 0, 1) := by
  rw [h, List.drop_length, dv]
theorem andNot128 (c : Nat) (h : c < 256) : bits BinOp.andNot IntKind.u8 (c : Int) 128 = ((c % 128 : Nat) : Int) := by
  rw [show (128 : Int) = ((128 : Nat) : Int) by rfl, u8_andNot_nat c 128 h (by decide), show 255 - 128 = 2 ^ 7 - 1 by rfl, Nat.and_two_pow_sub_one_eq_mod]
theorem and128 (c : Nat) (h : c < 256) : bits BinOp.and IntKind.u8 (c : Int) 128 = ((c / 128 * 128 : Nat) : Int) := by
  have key : ∀ b : Fin 256, (b.val &&& 128) = b.val / 128 * 128 := by decide +kernel
  rw [show (128 : Int) = ((128 : Nat) : Int) by rfl, u8_and_nat c 128 h (by decide)]
  exact congrArg _ (key ⟨c, h⟩)
theorem or_add (n m i : Nat) (h : n < 128 ^ i) (hm : m < 128) (hi : i ≤ 9) (h9 : i = 9 → m ≤ 1) : bits BinOp.or IntKind.u64 (n : Int) ((m * 128 ^ i : Nat) : Int) = ((n + m * 128 ^ i : Nat) : Int) := by
  have e : 128 ^ i = 2 ^ (7 * i) := by rw [Nat.pow_mul]
  have b1 : 128 ^ i ≤ 128 ^ 9 := Nat.pow_le_pow_right (by decide) hi
  have b2 : m * 128 ^ i < 18446744073709551616 := by
    rcases Nat.lt_or_ge i 9 with h8 | h8
    · have := Nat.mul_lt_mul_of_lt_of_le hm (Nat.pow_le_pow_right (n := 128) (by decide) (show i ≤ 8 by omega)) (by decide)
      omega
    · have := Nat.mul_le_mul (h9 (by omega)) b1
      omega
  rw [u64_or_nat _ _ (by omega) b2]
  congr 1
  rw [e] at h ⊢
  rw [Nat.or_comm, Nat.mul_comm, ← Nat.two_pow_add_eq_or_of_lt h]
  omega
theorem or_lt (n m i : Nat) (h : n < 128 ^ i) (hm : m < 128) (hi : i ≤ 9) (h9 : i = 9 → m ≤ 1) : n + m * 128 ^ i < 18446744073709551616 := by
  rcases Nat.lt_or_ge i 9 with h8 | h8
  · have b1 : 128 ^ (i + 1) ≤ 128 ^ 9 := Nat.pow_le_pow_right (by decide) h8
    have := Nat.mul_le_mul_right (128 ^ i) (show m ≤ 127 by omega)
    rw [Nat.pow_succ] at b1
    omega
  · obtain rfl : i = 9 := by omega
    have := Nat.mul_le_mul_right (128 ^ 9) (h9 rfl)
    omega
theorem or_lt2 (n m i : Nat) (h : n < 128 ^ i) (hm : m < 128) : n + m * 128 ^ i < 128 ^ (i + 1) := by
  have := Nat.mul_le_mul_right (128 ^ i) (show m ≤ 127 by omega)
  rw [Nat.pow_succ]
  omega
theorem nilR {l : List UInt8} {k e : Nat} {R : ByteArray} (h : bs (if e = 0 then l.drop k else []) = R) (he : e ≠ 0) : (⟨#[]⟩ : ByteArray) = R := by rw [if_neg he] at h; exact h
theorem Nat.pow_mul_eq (i : Nat) : 128 ^ i = 2 ^ (7 * i) := by rw [Nat.pow_mul]
set_option maxRecDepth 100000 in
set_option maxHeartbeats 1000000 in
theorem cutVarint_any (l : List UInt8) (w : World) (x k e : Nat) (R : ByteArray) (hl : l.length ≤ 9223372036854775807) (h : dv 0 0 l = (x, k, e)) (hR : bs (if e = 0 then l.drop k else []) = R) :
    Calls Tryd.prog 90 #[.string (bs l)] w (Iq (.tuple #[.int .u64 (x : Int), .string R, .int .i64 (e : Int)]) w) := by
  have hsz : (bs l).size = l.length := rfl
  have HR := Lib.hid hR
  clear hR
  go_enter Tryd.func90, Tryd.ntmps90
  go_wp2_with fail
  go_loop [2, 9] (fun u v => ∃ i n : Nat, i ≤ 9 ∧ v = .int .i64 (i : Int) ∧ u = .int .u64 (n : Int) ∧ i ≤ l.length ∧ Hid (n < 128 ^ i ∧ dv i n (l.drop i) = (x, k, e))) (fun _ v => l.length - (intOf v).toNat)
  case atStart => exact ⟨0, 0, by omega, rfl, rfl, by omega, Lib.hid ⟨by decide, h⟩⟩
  case round =>
    obtain ⟨i, n, hi, rfl, rfl, hil, hI⟩ := hrel
    by_cases hlt : i < l.length
    · obtain ⟨c, hc2⟩ : ∃ c, (l[i]'hlt).toNat = c := ⟨_, rfl⟩
      have hc3 : c < 256 := by rw [← hc2]; exact UInt8.toNat_lt _
      have E := hI.out.2
      rw [dv_at i n l hlt, hc2] at E
      have hlt2 : i < (bs l).size := hlt
      have hc : ((bs l)[i]'hlt2).toNat = c := hc2
      have hb := hI.out.1
      obtain ⟨m, hm⟩ : ∃ m, c % 128 = m := ⟨_, rfl⟩
      obtain ⟨y, hy⟩ : ∃ y, m * 128 ^ i = y := ⟨_, rfl⟩
      obtain ⟨s, hs⟩ : ∃ s, n + y = s := ⟨_, rfl⟩
      have h9 : (((i : Int) == 9) = true ∧ Hid (i = 9)) ∨ (((i : Int) == 9) = false ∧ Hid (i < 9)) := by
        by_cases h : i = 9
        · exact .inl ⟨by simp; omega, Lib.hid h⟩
        · exact .inr ⟨by simp; omega, Lib.hid (by omega)⟩
      have k0 : IntKind.u64.wrap (m : Int) = (m : Int) := by rw [IntKind.wrap_u64]; omega
      have k1 : bits BinOp.andNot IntKind.u8 (c : Int) 128 = (m : Int) := by rw [← hm]; exact andNot128 c hc3
      have k23 : (i = 9 → c ≤ 1) → IntKind.u64.wrap ((m : Int) * 2 ^ (7 * i)) = (y : Int) ∧ bits BinOp.or IntKind.u64 (n : Int) (y : Int) = (s : Int) := fun h => by
        have h3 := or_add n m i hb (by omega) hi (fun h1 => by have := h h1; omega)
        have h4 := or_lt n m i hb (by omega) hi (fun h1 => by have := h h1; omega)
        rw [hy] at h3 h4
        rw [hs] at h3
        refine ⟨?_, h3⟩
        rw [show (m : Int) * 2 ^ (7 * i) = (y : Int) by rw [← hy, Nat.pow_mul_eq i]; simp, IntKind.wrap_u64]
        omega
      rw [hm, hy, hs] at E
      by_cases hA : i = 9 ∧ 1 < c
      · rw [if_pos hA] at E
        cases E
        obtain ⟨hA1, hA2⟩ := hA
        have d1 : decide ((1 : Int) < (c : Int)) = true := by simp; omega
        have d9 : ((i : Int) == 9) = true := by simp; omega
        clear h9 k1 k23 hm hy hs hA1 hb hI
        have Z := nilR HR.out (by decide)
        go_wp2_with fail
        go_ret3
        exact ⟨0, rfl, rfl⟩
      · rw [if_neg hA] at E
        obtain ⟨k2, k3⟩ := k23 (fun h => by omega)
        have hA2 : ((i : Int) == 9) = false ∨ (((i : Int) == 9) = true ∧ decide ((1 : Int) < (c : Int)) = false) := by
          by_cases h : i = 9
          · exact .inr ⟨by simp; omega, by simp; omega⟩
          · exact .inl (by simp; omega)
        have hb2 := Lib.hid (show s < 128 ^ (i + 1) from by rw [← hs, ← hy]; exact or_lt2 n m i hb (by omega))
        clear k23 hb hI h9
        by_cases hB : 128 ≤ c
        · rw [if_pos hB] at E
          have d9 : ((i : Int) == 9) = false := by rcases hA2 with h | h; exact h; have h2 := h.2; simp at h2; omega
          have k4 : bits BinOp.and IntKind.u8 (c : Int) 128 = 128 := by rw [and128 c hc3]; omega
          have hi9 : i + 1 ≤ 9 := by simp at d9; omega
          have E2 := Lib.hid (And.intro hb2.out E)
          clear hm hy hs hA hA2 hB hc2 E hb2
          go_wp2_with fail
          go_round
          case rel => exact ⟨i + 1, s, hi9, by go_num, rfl, by omega, E2⟩
          case measure => simp [intOf]; omega
        · rw [if_neg hB] at E
          have k4 : bits BinOp.and IntKind.u8 (c : Int) 128 = 0 := by rw [and128 c hc3]; omega
          by_cases hC : c = 0 ∧ 0 < i
          · rw [if_pos hC] at E
            cases E
            have dz : ((c : Int) == 0) = true := by simp; omega
            have dz2 : (c = 0) = True := by simp; omega
            have d0 : (0 < i) = True := by simp; omega
            have Z := nilR HR.out (by decide)
            clear hm hy hs hA hC hB hc2 hb2 HR h
            rcases hA2 with d9 | ⟨d9, d1⟩
            all_goals
              go_wp2_with fail
              go_ret3
              exact ⟨0, rfl, rfl⟩
          · rw [if_neg hC] at E
            cases E
            have hC2 : (c = 0) = False ∨ ((c = 0) = True ∧ (0 < i) = False) := by
              by_cases h : c = 0
              · exact .inr ⟨by simp; omega, by simp; omega⟩
              · exact .inl (by simp; omega)
            have Z : (bs l).extract (i + 1) l.length = R := by
              have := HR.out
              rw [if_pos rfl] at this
              rw [← this]
              exact bs_drop _ _ _ (Nat.le_refl _)
            have hi1 : i + 1 ≤ l.length := hlt
            clear hm hy hs hA hC hB hc2 hb2 HR h
            rcases hA2 with d9 | ⟨d9, d1⟩ <;> rcases hC2 with dz | ⟨dz, d0⟩
            all_goals
              go_wp2_with fail
              go_quiet (fail)
              go_wp2_with fail
              go_ret3
              exact ⟨_, rfl, rfl⟩
    · obtain rfl : i = l.length := by omega
      have E := hI.out.2
      rw [dv_end _ _ _ rfl] at E
      cases E
      have Z := nilR HR.out (by decide)
      clear HR h hI
      go_wp2_with fail
      go_ret3
      exact ⟨0, rfl, rfl⟩
end Go.Proofs.YtcjaaijohapeaaaDoor

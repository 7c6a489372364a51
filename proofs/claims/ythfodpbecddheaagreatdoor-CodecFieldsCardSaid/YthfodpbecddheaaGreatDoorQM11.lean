/-
  Contracts of the functions that write: varints and zigzag numbers, the program's and the reference's. No conditions but Go's own bounds of a number and of a string's length.
-/
import Derived.Test.YthfodpbecddheaaGreatDoorQM04
import Derived.Test.YthfodpbecddheaaGreatDoorQM01
import Derived.Laws.BitsAllLaws
import Derived.Laws.DeepNot64
import Derived.WalkSmall
namespace Go.Proofs.YthfodpbecddheaaGreatDoor
open Go.RowKit
theorem uv_len (k n : Nat) (h : n < 128 ^ (k + 1)) : (uv n).length ≤ k + 1 := by
  induction k generalizing n with
  | zero => rw [uv_small (by omega)]; exact Nat.le_refl _
  | succ k ih =>
    by_cases h1 : n < 128
    · rw [uv_small h1]; simp
    · rw [uv_big h1, List.length_cons]
      have := ih (n / 128) (by rw [Nat.pow_succ] at h; omega)
      omega
theorem uv_len10 {n : Nat} (h : n ≤ 18446744073709551615) : (uv n).length ≤ 10 := uv_len 9 n (by omega)
theorem uv_snoc_small {n m : Nat} {l : List UInt8} (h : uv n = l ++ uv m) (hm : m < 128) : uv n = l ++ [UInt8.ofNat m] := by rw [h, uv_small hm]
theorem uv_snoc_big {n m : Nat} {l : List UInt8} (h : uv n = l ++ uv m) (hm : ¬ m < 128) : uv n = (l ++ [UInt8.ofNat (128 + m % 128)]) ++ uv (m / 128) := by rw [h, uv_big hm]; simp
theorem uv_pre_len {n m : Nat} {l : List UInt8} (hn : n ≤ 18446744073709551615) (h : uv n = l ++ uv m) : l.length ≤ 9 := by
  have h1 := uv_len10 hn
  rw [h, List.length_append] at h1
  have h2 := List.length_pos_iff.2 (uv_ne m)
  omega
set_option maxRecDepth 100000 in
theorem or128 (m : Nat) : bits BinOp.or IntKind.u8 ((m : Int) % 256) 128 = ((128 + m % 128 : Nat) : Int) := by
  have key : ∀ b : Fin 256, bits BinOp.or IntKind.u8 ((b.val : Nat) : Int) 128 = ((128 + b.val % 128 : Nat) : Int) := by decide
  have := key ⟨m % 256, by omega⟩
  rw [show ((m : Int) % 256) = ((m % 256 : Nat) : Int) by omega, this]
  simp only
  congr 2
  omega
set_option maxRecDepth 100000 in
set_option maxHeartbeats 1000000 in
theorem uint_any (n : Nat) (w : World)  (h1 : n ≤ 18446744073709551615) :
    Calls Tryz.prog 91 #[.int .u64 (n : Int)] w (Ib (.string (bs (uv n))) w) := by
  go_enter Tryz.func91, Tryz.ntmps91
  go_wp2_with fail
  have HN := Lib.hid h1
  go_loopw [0, 3] (fun u v wr => ∃ (m : Nat) (l : List UInt8), m ≤ 18446744073709551615 ∧ u = .int .u64 (m : Int) ∧ Ow w.heap.size wr v l ∧ Below w.heap.size w wr ∧ Hid (uv n = l ++ uv m)) (fun u _ _ => (intOf u).toNat)
  case atStart => exact ⟨n, [], h1, rfl, Ow.nil _ _, Below.refl _ _, Lib.hid rfl⟩
  case round =>
    obtain ⟨m, l, hm, rfl, ho, hb, hI⟩ := hrel
    have hll := uv_pre_len HN.out hI.out
    have hbs := hb.size
    clear h1
    by_cases h : m < 128
    · have E := Lib.hid (uv_snoc_small hI.out h)
      have e : (UInt8.ofNat m).toNat = m := of_toNat (by omega)
      go_wp2_with (at_builtin; refine wpList_push rfl (.tmp 14) (.tmp 17) rfl w.heap.size u3 l (UInt8.ofNat m) _ 1 rfl rfl (ho.other (one _ _)) (by rw [e]; simp) (by omega) (by simp; omega) ?_; intro v' w' ho' hg'; have hs' := ho'.str (by simp))
      go_ret
      refine ⟨congrArg (fun l => Ending.returned (.string (bs l))) E.out.symm, (hb.alloc hbs _).grown hg' (by simp; omega) ?_⟩
      intro k hk
      exact (ho.lt k hk).1
    · have E := Lib.hid (uv_snoc_big hI.out h)
      obtain ⟨d, hd⟩ : ∃ d, 128 + m % 128 = d := ⟨_, rfl⟩
      obtain ⟨q, hq⟩ : ∃ q, m / 128 = q := ⟨_, rfl⟩
      have e : (UInt8.ofNat d).toNat = d := of_toNat (by omega)
      have k1 := or128 m
      rw [hd] at k1 E
      rw [hq] at E
      have k2 : (m : Int) / 128 = (q : Int) := by omega
      have hql : q < m := by omega
      clear hd hq hI
      go_wp2_with (at_builtin; refine wpList_push rfl (.tmp 6) (.tmp 10) rfl w.heap.size u3 l (UInt8.ofNat d) _ 1 rfl rfl (ho.other (one _ _)) (by rw [e]; simp) (by omega) (by simp; omega) ?_; intro v' w' ho' hg')
      go_roundw
      case rel => exact ⟨q, _, by omega, rfl, ho', (hb.alloc hbs _).grown hg' (by simp; omega) (fun k hk => (ho.lt k hk).1), E⟩
      case measure => simp [intOf]; omega
/-- The zigzag number. -/
def zz (n : Int) : Nat := if n < 0 then (-2 * n - 1).toNat else (2 * n).toNat
theorem zz_le {n : Int} (h1 : -9223372036854775808 ≤ n) (h2 : n ≤ 9223372036854775807) : zz n ≤ 18446744073709551615 := by unfold zz; split <;> omega
theorem xor_ones (x : Nat) (h : x < 18446744073709551616) : x ^^^ 18446744073709551615 = 18446744073709551615 - x := by
  have e : (BitVec.ofNat 64 x ^^^ BitVec.allOnes 64).toNat = (~~~ BitVec.ofNat 64 x).toNat := by rw [BitVec.xor_allOnes]
  rw [BitVec.toNat_xor, BitVec.toNat_not, BitVec.toNat_ofNat, BitVec.toNat_allOnes, Nat.mod_eq_of_lt h] at e
  exact e
theorem zig_bits (n : Int) (h1 : -9223372036854775808 ≤ n) (h2 : n ≤ 9223372036854775807) :
    bits BinOp.xor IntKind.u64 (IntKind.u64.wrap (IntKind.u64.wrap n * 2)) (IntKind.u64.wrap (n / 9223372036854775808)) = (zz n : Int) := by
  unfold zz
  by_cases h : n < 0
  · rw [if_pos h, show n / 9223372036854775808 = -1 by omega, show IntKind.u64.wrap (-1) = ((18446744073709551615 : Nat) : Int) by rfl]
    rw [show IntKind.u64.wrap (IntKind.u64.wrap n * 2) = (((2 * n + 18446744073709551616).toNat : Nat) : Int) by simp only [IntKind.wrap_u64]; omega]
    rw [u64_xor_nat _ _ (by omega) (by omega), xor_ones _ (by omega)]
    omega
  · rw [if_neg h, show n / 9223372036854775808 = 0 by omega, show IntKind.u64.wrap 0 = ((0 : Nat) : Int) by rfl]
    rw [show IntKind.u64.wrap (IntKind.u64.wrap n * 2) = (((2 * n).toNat : Nat) : Int) by simp only [IntKind.wrap_u64]; omega]
    rw [u64_xor_nat _ _ (by omega) (by omega), Nat.xor_zero]
set_option maxRecDepth 100000 in
theorem zigzag_any (n : Int) (w : World)  (h1 : -9223372036854775808 ≤ n) (h2 : n ≤ 9223372036854775807) :
    Calls Tryz.prog 136 #[.int .i64 n] w (Is (.int .u64 (zz n : Int)) w) := by
  go_enter Tryz.func136, Tryz.ntmps136
  go_wp2_with fail
  go_ret
  exact ret_is (zig_bits n h1 h2)
/-- The integer with a zigzag number. -/
def uz (n : Nat) : Int := if n % 2 = 1 then -1 - (n / 2 : Nat) else (n / 2 : Nat)
theorem unzigzag_any (n : Nat) (w : World)  (h1 : n ≤ 18446744073709551615) :
    Calls Tryz.prog 183 #[.int .u64 (n : Int)] w (Is (.int .i64 (uz n)) w) := by
  have k1 : bits BinOp.and IntKind.u64 (n : Int) 1 = (n : Int) % 2 := and_one_u64 _ (by omega) (by omega)
  have k2 : bits BinOp.xor IntKind.i64 (-1) ((n : Int) / 2) = -1 - (n : Int) / 2 := by
    have := i64_not (n / 2) (by omega)
    rw [show (n : Int) / 2 = ((n / 2 : Nat) : Int) by omega]; exact this
  go_enter Tryz.func183, Tryz.ntmps183
  go_wp2_with fail
  all_goals
    go_ret
    exact ret_is (by unfold uz; split <;> first | omega | (simp_all; omega))
set_option maxRecDepth 100000 in
theorem int_any (n : Int) (w : World)  (h1 : -9223372036854775808 ≤ n) (h2 : n ≤ 9223372036854775807) :
    Calls Tryz.prog 88 #[.int .i64 n] w (Ib (.string (bs (uv (zz n)))) w) := by
  have c1 := fun w => zigzag_any n w h1 h2
  have c2 := fun w => uint_any (zz n) w (zz_le h1 h2)
  generalize zz n = z at *
  clear h1 h2
  go_enter Tryz.func88, Tryz.ntmps88
  go_wp2_with fail
  refine (c1 _).mono ?_
  rintro e w' ⟨rfl, rfl⟩
  go_wp2_with fail
  refine (c2 _).mono ?_
  rintro e w' ⟨rfl, hb⟩
  go_wp2_with fail
  go_ret
  exact ⟨rfl, hb⟩
/-- The bytes of a string with its length in front. -/
def tv (l : List UInt8) : List UInt8 := uv l.length ++ l
set_option maxRecDepth 100000 in
theorem textW_any (l : List UInt8) (w : World) (h : l.length ≤ 100000) :
    Calls Tryz.prog 139 #[.string (bs l)] w (Ib (.string (bs (tv l))) w) := by
  have c2 := fun w => uint_any l.length w (by omega)
  have k1 : bs (uv l.length) ++ bs l = bs (tv l) := bs_append _ _
  have k2 : (bs (uv l.length)).size ≤ 10 := uv_len10 (by omega)
  have k3 : (bs l).size = l.length := rfl
  go_enter Tryz.func139, Tryz.ntmps139
  go_wp2_with fail
  refine (c2 _).mono ?_
  rintro e w' ⟨rfl, hb⟩
  go_wp2_with fail
  go_ret
  exact ⟨rfl, hb⟩
end Go.Proofs.YthfodpbecddheaaGreatDoor
/-
  Reading a varint: the mathematics, and the contracts of the program's and of the reference's function. No conditions but Go's own bound of a string's length.
-/
namespace Go.Proofs.YthfodpbecddheaaGreatDoor
open Go.RowKit
/-- Reading a varint from byte i on, with n read so far: the number, the bytes, the error. -/
def dv : Nat → Nat → List UInt8 → Nat × Nat × Nat
  | _, _, [] => (0, 0, 1)
  | i, n, b :: r =>
    if i = 9 ∧ 1 < b.toNat then (0, 0, 2)
    else if 128 ≤ b.toNat then dv (i + 1) (n + b.toNat % 128 * 128 ^ i) r
    else if b.toNat = 0 ∧ 0 < i then (0, 0, 2)
    else (n + b.toNat % 128 * 128 ^ i, i + 1, 0)
theorem dv_at (i n : Nat) (l : List UInt8) (h : i < l.length) : dv i n (l.drop i) =
    if i = 9 ∧ 1 < l[i].toNat then (0, 0, 2)
    else if 128 ≤ l[i].toNat then dv (i + 1) (n + l[i].toNat % 128 * 128 ^ i) (l.drop (i + 1))
    else if l[i].toNat = 0 ∧ 0 < i then (0, 0, 2)
    else (n + l[i].toNat % 128 * 128 ^ i, i + 1, 0) := by
  rw [List.drop_eq_getElem_cons h, dv]
theorem dv_end (i n : Nat) (l : List UInt8) (h : i = l.length) : dv i n (l.drop i) = (0, 0, 1) := by
  rw [h, List.drop_length, dv]
theorem andNot128 (c : Nat) (h : c < 256) : bits BinOp.andNot IntKind.u8 (c : Int) 128 = ((c % 128 : Nat) : Int) := by
  rw [show (128 : Int) = ((128 : Nat) : Int) by rfl, u8_andNot_nat c 128 h (by decide), show 255 - 128 = 2 ^ 7 - 1 by rfl, Nat.and_two_pow_sub_one_eq_mod]
theorem and128 (c : Nat) (h : c < 256) : bits BinOp.and IntKind.u8 (c : Int) 128 = ((c / 128 * 128 : Nat) : Int) := by
  have key : ∀ b : Fin 256, (b.val &&& 128) = b.val / 128 * 128 := by decide +kernel
  rw [show (128 : Int) = ((128 : Nat) : Int) by rfl, u8_and_nat c 128 h (by decide)]
  exact congrArg _ (key ⟨c, h⟩)
theorem or_add (n m i : Nat) (h : n < 128 ^ i) (hm : m < 128) (hi : i ≤ 9) (h9 : i = 9 → m ≤ 1) : bits BinOp.or IntKind.u64 (n : Int) ((m * 128 ^ i : Nat) : Int) = ((n + m * 128 ^ i : Nat) : Int) := by
  have e : 128 ^ i = 2 ^ (7 * i) := by rw [Nat.pow_mul]
  have b1 : 128 ^ i ≤ 128 ^ 9 := Nat.pow_le_pow_right (by decide) hi
  have b2 : m * 128 ^ i < 18446744073709551616 := by
    rcases Nat.lt_or_ge i 9 with h8 | h8
    · have := Nat.mul_lt_mul_of_lt_of_le hm (Nat.pow_le_pow_right (n := 128) (by decide) (show i ≤ 8 by omega)) (by decide)
      omega
    · have := Nat.mul_le_mul (h9 (by omega)) b1
      omega
  rw [u64_or_nat _ _ (by omega) b2]
  congr 1
  rw [e] at h ⊢
  rw [Nat.or_comm, Nat.mul_comm, ← Nat.two_pow_add_eq_or_of_lt h]
  omega
theorem or_lt (n m i : Nat) (h : n < 128 ^ i) (hm : m < 128) (hi : i ≤ 9) (h9 : i = 9 → m ≤ 1) : n + m * 128 ^ i < 18446744073709551616 := by
  rcases Nat.lt_or_ge i 9 with h8 | h8
  · have b1 : 128 ^ (i + 1) ≤ 128 ^ 9 := Nat.pow_le_pow_right (by decide) h8
    have := Nat.mul_le_mul_right (128 ^ i) (show m ≤ 127 by omega)
    rw [Nat.pow_succ] at b1
    omega
  · obtain rfl : i = 9 := by omega
    have := Nat.mul_le_mul_right (128 ^ 9) (h9 rfl)
    omega
theorem or_lt2 (n m i : Nat) (h : n < 128 ^ i) (hm : m < 128) : n + m * 128 ^ i < 128 ^ (i + 1) := by
  have := Nat.mul_le_mul_right (128 ^ i) (show m ≤ 127 by omega)
  rw [Nat.pow_succ]
  omega
theorem nilR {l : List UInt8} {k e : Nat} {R : ByteArray} (h : bs (if e = 0 then l.drop k else []) = R) (he : e ≠ 0) : (⟨#[]⟩ : ByteArray) = R := by rw [if_neg he] at h; exact h
theorem Nat.pow_mul_eq (i : Nat) : 128 ^ i = 2 ^ (7 * i) := by rw [Nat.pow_mul]
set_option maxRecDepth 100000 in
set_option maxHeartbeats 1000000 in
theorem cutVarint_any (l : List UInt8) (w : World) (x k e : Nat) (R : ByteArray) (hl : l.length ≤ 9223372036854775807) (h : dv 0 0 l = (x, k, e)) (hR : bs (if e = 0 then l.drop k else []) = R) :
    Calls Tryz.prog 180 #[.string (bs l)] w (Iq (.tuple #[.int .u64 (x : Int), .string R, .int .i64 (e : Int)]) w) := by
  have hsz : (bs l).size = l.length := rfl
  have HR := Lib.hid hR
  clear hR
  go_enter Tryz.func180, Tryz.ntmps180
  go_wp2_with fail
  go_loop [2, 9] (fun u v => ∃ i n : Nat, i ≤ 9 ∧ v = .int .i64 (i : Int) ∧ u = .int .u64 (n : Int) ∧ i ≤ l.length ∧ Hid (n < 128 ^ i ∧ dv i n (l.drop i) = (x, k, e))) (fun _ v => l.length - (intOf v).toNat)
  case atStart => exact ⟨0, 0, by omega, rfl, rfl, by omega, Lib.hid ⟨by decide, h⟩⟩
  case round =>
    obtain ⟨i, n, hi, rfl, rfl, hil, hI⟩ := hrel
    by_cases hlt : i < l.length
    · obtain ⟨c, hc2⟩ : ∃ c, (l[i]'hlt).toNat = c := ⟨_, rfl⟩
      have hc3 : c < 256 := by rw [← hc2]; exact UInt8.toNat_lt _
      have E := hI.out.2
      rw [dv_at i n l hlt, hc2] at E
      have hlt2 : i < (bs l).size := hlt
      have hc : ((bs l)[i]'hlt2).toNat = c := hc2
      have hb := hI.out.1
      obtain ⟨m, hm⟩ : ∃ m, c % 128 = m := ⟨_, rfl⟩
      obtain ⟨y, hy⟩ : ∃ y, m * 128 ^ i = y := ⟨_, rfl⟩
      obtain ⟨s, hs⟩ : ∃ s, n + y = s := ⟨_, rfl⟩
      have h9 : (((i : Int) == 9) = true ∧ Hid (i = 9)) ∨ (((i : Int) == 9) = false ∧ Hid (i < 9)) := by
        by_cases h : i = 9
        · exact .inl ⟨by simp; omega, Lib.hid h⟩
        · exact .inr ⟨by simp; omega, Lib.hid (by omega)⟩
      have k0 : IntKind.u64.wrap (m : Int) = (m : Int) := by rw [IntKind.wrap_u64]; omega
      have k1 : bits BinOp.andNot IntKind.u8 (c : Int) 128 = (m : Int) := by rw [← hm]; exact andNot128 c hc3
      have k23 : (i = 9 → c ≤ 1) → IntKind.u64.wrap ((m : Int) * 2 ^ (7 * i)) = (y : Int) ∧ bits BinOp.or IntKind.u64 (n : Int) (y : Int) = (s : Int) := fun h => by
        have h3 := or_add n m i hb (by omega) hi (fun h1 => by have := h h1; omega)
        have h4 := or_lt n m i hb (by omega) hi (fun h1 => by have := h h1; omega)
        rw [hy] at h3 h4
        rw [hs] at h3
        refine ⟨?_, h3⟩
        rw [show (m : Int) * 2 ^ (7 * i) = (y : Int) by rw [← hy, Nat.pow_mul_eq i]; simp, IntKind.wrap_u64]
        omega
      rw [hm, hy, hs] at E
      by_cases hA : i = 9 ∧ 1 < c
      · rw [if_pos hA] at E
        cases E
        obtain ⟨hA1, hA2⟩ := hA
        have d1 : decide ((1 : Int) < (c : Int)) = true := by simp; omega
        have d9 : ((i : Int) == 9) = true := by simp; omega
        clear h9 k1 k23 hm hy hs hA1 hb hI
        have Z := nilR HR.out (by decide)
        go_wp2_with fail
        go_ret3
        exact ⟨0, rfl, rfl⟩
      · rw [if_neg hA] at E
        obtain ⟨k2, k3⟩ := k23 (fun h => by omega)
        have hA2 : ((i : Int) == 9) = false ∨ (((i : Int) == 9) = true ∧ decide ((1 : Int) < (c : Int)) = false) := by
          by_cases h : i = 9
          · exact .inr ⟨by simp; omega, by simp; omega⟩
          · exact .inl (by simp; omega)
        have hb2 := Lib.hid (show s < 128 ^ (i + 1) from by rw [← hs, ← hy]; exact or_lt2 n m i hb (by omega))
        clear k23 hb hI h9
        by_cases hB : 128 ≤ c
        · rw [if_pos hB] at E
          have d9 : ((i : Int) == 9) = false := by rcases hA2 with h | h; exact h; have h2 := h.2; simp at h2; omega
          have k4 : bits BinOp.and IntKind.u8 (c : Int) 128 = 128 := by rw [and128 c hc3]; omega
          have hi9 : i + 1 ≤ 9 := by simp at d9; omega
          have E2 := Lib.hid (And.intro hb2.out E)
          clear hm hy hs hA hA2 hB hc2 E hb2
          go_wp2_with fail
          go_round
          case rel => exact ⟨i + 1, s, hi9, by go_num, rfl, by omega, E2⟩
          case measure => simp [intOf]; omega
        · rw [if_neg hB] at E
          have k4 : bits BinOp.and IntKind.u8 (c : Int) 128 = 0 := by rw [and128 c hc3]; omega
          by_cases hC : c = 0 ∧ 0 < i
          · rw [if_pos hC] at E
            cases E
            have dz : ((c : Int) == 0) = true := by simp; omega
            have dz2 : (c = 0) = True := by simp; omega
            have d0 : (0 < i) = True := by simp; omega
            have Z := nilR HR.out (by decide)
            clear hm hy hs hA hC hB hc2 hb2 HR h
            rcases hA2 with d9 | ⟨d9, d1⟩
            all_goals
              go_wp2_with fail
              go_ret3
              exact ⟨0, rfl, rfl⟩
          · rw [if_neg hC] at E
            cases E
            have hC2 : (c = 0) = False ∨ ((c = 0) = True ∧ (0 < i) = False) := by
              by_cases h : c = 0
              · exact .inr ⟨by simp; omega, by simp; omega⟩
              · exact .inl (by simp; omega)
            have Z : (bs l).extract (i + 1) l.length = R := by
              have := HR.out
              rw [if_pos rfl] at this
              rw [← this]
              exact bs_drop _ _ _ (Nat.le_refl _)
            have hi1 : i + 1 ≤ l.length := hlt
            clear hm hy hs hA hC hB hc2 hb2 HR h
            rcases hA2 with d9 | ⟨d9, d1⟩ <;> rcases hC2 with dz | ⟨dz, d0⟩
            all_goals
              go_wp2_with fail
              go_quiet (fail)
              go_wp2_with fail
              go_ret3
              exact ⟨_, rfl, rfl⟩
    · obtain rfl : i = l.length := by omega
      have E := hI.out.2
      rw [dv_end _ _ _ rfl] at E
      cases E
      have Z := nilR HR.out (by decide)
      clear HR h hI
      go_wp2_with fail
      go_ret3
      exact ⟨0, rfl, rfl⟩
end Go.Proofs.YthfodpbecddheaaGreatDoor
/-
  Reading a varint: the reference's function. No conditions but Go's own bound of a string's length.
-/
namespace Go.Proofs.YthfodpbecddheaaGreatDoor
open Go.RowKit
theorem dv_at2 (i n j : Nat) (l : List UInt8) (h : j < l.length) : dv i n (l.drop j) =
    if i = 9 ∧ 1 < l[j].toNat then (0, 0, 2)
    else if 128 ≤ l[j].toNat then dv (i + 1) (n + l[j].toNat % 128 * 128 ^ i) (l.drop (j + 1))
    else if l[j].toNat = 0 ∧ 0 < i then (0, 0, 2)
    else (n + l[j].toNat % 128 * 128 ^ i, i + 1, 0) := by
  rw [List.drop_eq_getElem_cons h, dv]
theorem pow9 {i : Nat} (h : i ≤ 9) : 128 ^ i ≤ 9223372036854775808 := Nat.le_trans (Nat.pow_le_pow_right (by decide) h) (by decide)
set_option maxRecDepth 100000 in
set_option maxHeartbeats 1000000 in
theorem varint_any (l : List UInt8) (w : World) (a x k e : Nat) (hl : l.length ≤ 9223372036854775000) (ha : a ≤ l.length) (h : dv 0 0 (l.drop a) = (x, k, e)) :
    Calls Tryz.prog 160 #[.string (bs l), .int .i64 (a : Int)] w (Is (.tuple #[.int .u64 (x : Int), .int .i64 ((a + k : Nat) : Int), .int .i64 (e : Int)]) w) := by
  have hsz : (bs l).size = l.length := rfl
  go_enter Tryz.func160, Tryz.ntmps160
  go_wp2_with fail
  go_loop [7, 8, 9] (fun u g v => ∃ i n c : Nat, i ≤ 9 ∧ v = .int .i64 (i : Int) ∧ u = .int .u64 (n : Int) ∧ g = .int .u64 (c : Int) ∧ a + i ≤ l.length ∧ Hid (n < 128 ^ i ∧ dv i n (l.drop (a + i)) = (x, k, e) ∧ c = 128 ^ i)) (fun _ _ v => 10 - (intOf v).toNat)
  case atStart => exact ⟨0, 0, 1, by omega, rfl, rfl, rfl, by omega, Lib.hid ⟨by decide, h, rfl⟩⟩
  case round =>
    obtain ⟨i, n, g, hi, rfl, rfl, rfl, hil, hI⟩ := hrel
    obtain ⟨j, hj⟩ : ∃ j, a + i = j := ⟨_, rfl⟩
    have l0 : IntKind.i64.wrap ((a : Int) + (i : Int)) = (j : Int) := by rw [show (a : Int) + (i : Int) = (j : Int) by omega]; exact IntWalk.i64_in _ (by omega)
    have l00 : (a : Int) + (i : Int) = (j : Int) := by omega
    have hb := hI.out.1
    have E := hI.out.2.1
    have hg := hI.out.2.2
    rw [hj] at E hil
    clear h hI
    by_cases hlt : j < l.length
    · obtain ⟨c, hc2⟩ : ∃ c, (l[j]'hlt).toNat = c := ⟨_, rfl⟩
      have hc3 : c < 256 := by rw [← hc2]; exact UInt8.toNat_lt _
      rw [dv_at2 i n j l hlt, hc2] at E
      have hlt2 : j < (bs l).size := hlt
      have hc : ((bs l)[j]'hlt2).toNat = c := hc2
      clear hc2
      obtain ⟨m, hm⟩ : ∃ m, c % 128 = m := ⟨_, rfl⟩
      obtain ⟨y, hy⟩ : ∃ y, m * 128 ^ i = y := ⟨_, rfl⟩
      obtain ⟨s, hs⟩ : ∃ s, n + y = s := ⟨_, rfl⟩
      have k1 : (c : Int) % 128 = (m : Int) := by omega
      have k23 : (i = 9 → c ≤ 1) → IntKind.u64.wrap ((m : Int) * (g : Int)) = (y : Int) ∧ IntKind.u64.wrap ((n : Int) + (y : Int)) = (s : Int) := fun h => by
        have h4 := or_lt n m i hb (by omega) hi (fun h1 => by have := h h1; omega)
        rw [hy] at h4
        rw [← Int.natCast_mul, hg, hy, IntKind.wrap_u64, ← Int.natCast_add, hs, IntKind.wrap_u64]
        omega
      rw [hm, hy, hs] at E
      by_cases hA : i = 9 ∧ 1 < c
      · rw [if_pos hA] at E
        cases E
        obtain ⟨hA1, hA2⟩ := hA
        have d1 : decide ((1 : Int) < (c : Int)) = true := by simp; omega
        have d9 : ((i : Int) == 9) = true := by simp; omega
        clear k1 k23 hm hy hs hA1 hb hg
        go_wp2_with fail
        go_ret3
        exact ⟨rfl, rfl⟩
      · rw [if_neg hA] at E
        obtain ⟨k2, k3⟩ := k23 (fun h => by omega)
        have hA2 : ((i : Int) == 9) = false ∨ (((i : Int) == 9) = true ∧ decide ((1 : Int) < (c : Int)) = false) := by
          by_cases h : i = 9
          · exact .inr ⟨by simp; omega, by simp; omega⟩
          · exact .inl (by simp; omega)
        have hb2 := Lib.hid (show s < 128 ^ (i + 1) from by rw [← hs, ← hy]; exact or_lt2 n m i hb (by omega))
        obtain ⟨g2, hg2⟩ : ∃ g2 : Nat, IntKind.u64.wrap ((g : Int) * 128) = (g2 : Int) := ⟨(IntKind.u64.wrap ((g : Int) * 128)).toNat, by simp only [IntKind.wrap_u64]; omega⟩
        have HG : i + 1 ≤ 9 → Hid (g2 = 128 ^ (i + 1)) := fun h9 => Lib.hid (by
          have := pow9 h9
          rw [Nat.pow_succ, ← hg] at this
          rw [Nat.pow_succ, ← hg]
          rw [IntKind.wrap_u64] at hg2
          omega)
        have hj1 : j + 1 ≤ l.length := hlt
        clear k23 hb hg
        by_cases hB : 128 ≤ c
        · rw [if_pos hB] at E
          have d9 : ((i : Int) == 9) = false := by rcases hA2 with h | h; exact h; have h2 := h.2; simp at h2; omega
          have hi9 : i + 1 ≤ 9 := by simp at d9; omega
          have HG2 := HG hi9
          have E2 := Lib.hid (And.intro hb2.out (And.intro (show dv (i + 1) s (l.drop (a + (i + 1))) = (x, k, e) by rw [show a + (i + 1) = j + 1 by omega]; exact E) HG2.out))
          have hB2 : decide ((c : Int) < 128) = false := by simp; omega
          clear hm hy hs hA hA2 hB E hb2 HG HG2
          go_wp2_with fail
          go_round
          case rel => exact ⟨i + 1, s, g2, hi9, by go_num, rfl, rfl, by omega, E2⟩
          case measure => simp [intOf]; omega
        · rw [if_neg hB] at E
          have hB2 : decide ((c : Int) < 128) = true := by simp; omega
          by_cases hC : c = 0 ∧ 0 < i
          · rw [if_pos hC] at E
            cases E
            have dz : ((c : Int) == 0) = true := by simp; omega
            have dz2 : (c = 0) = True := by simp; omega
            have d0 : (0 < i) = True := by simp; omega
            clear hm hy hs hA hC hB hb2 HG
            rcases hA2 with d9 | ⟨d9, d1⟩
            all_goals
              go_wp2_with fail
              go_ret3
              exact ⟨rfl, rfl⟩
          · rw [if_neg hC] at E
            cases E
            have hC2 : (c = 0) = False ∨ ((c = 0) = True ∧ (0 < i) = False) := by
              by_cases h : c = 0
              · exact .inr ⟨by simp; omega, by simp; omega⟩
              · exact .inl (by simp; omega)
            obtain ⟨f, hf⟩ : ∃ f, a + (i + 1) = f := ⟨_, rfl⟩
            rw [hf]
            have l1 : IntKind.i64.wrap ((j : Int) + 1) = (f : Int) := by rw [show (j : Int) + 1 = (f : Int) by omega]; exact IntWalk.i64_in _ (by omega)
            have l11 : (j : Int) + 1 = (f : Int) := by omega
            clear hm hy hs hA hC hB hb2 HG
            rcases hA2 with d9 | ⟨d9, d1⟩ <;> rcases hC2 with dz | ⟨dz, d0⟩
            all_goals
              go_wp2_with fail
              go_ret3
              exact ⟨rfl, rfl⟩
    · obtain rfl : j = l.length := by omega
      rw [List.drop_length, dv] at E
      cases E
      clear hb hg hj
      have hi10 : i < 10 := by omega
      go_wp2_with fail
      go_ret3
      exact ⟨rfl, rfl⟩
end Go.Proofs.YthfodpbecddheaaGreatDoor
/-
  What the reads give, as functions of the string that is left; the contracts of the program's functions that cut. No conditions but Go's own bounds.
-/
namespace Go.Proofs.YthfodpbecddheaaGreatDoor
open Go.RowKit
/-- A varint's number, what follows it, and the error. -/
def nU (l : List UInt8) : Nat := (dv 0 0 l).1
def eU (l : List UInt8) : Nat := (dv 0 0 l).2.2
def rU (l : List UInt8) : List UInt8 := if eU l = 0 then l.drop (dv 0 0 l).2.1 else []
/-- The same for a number of at most M. -/
def eS (M : Int) (a : Nat) (l : List UInt8) : Nat := if eU l ≠ 0 then eU l else if M < 0 ∨ M < (nU l : Int) then a else 0
def nS (M : Int) (l : List UInt8) : Nat := if eS M 1 l = 0 then nU l else 0
def rS (M : Int) (l : List UInt8) : List UInt8 := if eS M 1 l = 0 then rU l else []
/-- The same for a string of at most M bytes. -/
def eT (M : Int) (l : List UInt8) : Nat := if eS M 3 l ≠ 0 then eS M 3 l else if (rU l).length < nU l then 1 else 0
def tT (M : Int) (l : List UInt8) : List UInt8 := if eT M l = 0 then (rU l).take (nU l) else []
def rT (M : Int) (l : List UInt8) : List UInt8 := if eT M l = 0 then (rU l).drop (nU l) else []
theorem dv_err : ∀ (l : List UInt8) (i n x k e : Nat), dv i n l = (x, k, e) → e ≠ 0 → x = 0 ∧ k = 0 := by
  intro l
  induction l with
  | nil => intro i n x k e h he; rw [dv] at h; cases h; exact ⟨rfl, rfl⟩
  | cons b r ih =>
    intro i n x k e h he
    rw [dv] at h
    split at h
    · cases h; exact ⟨rfl, rfl⟩
    · split at h
      · exact ih _ _ _ _ _ h he
      · split at h
        · cases h; exact ⟨rfl, rfl⟩
        · cases h; exact absurd rfl he
theorem dv_le : ∀ (l : List UInt8) (i n x k e : Nat), dv i n l = (x, k, e) → n < 128 ^ i → i ≤ 9 → x < 18446744073709551616 ∧ (e = 0 → i < k ∧ k ≤ i + l.length) ∧ e ≤ 2 := by
  intro l
  induction l with
  | nil => intro i n x k e h _ _; rw [dv] at h; cases h; exact ⟨by decide, (fun h => by cases h), by decide⟩
  | cons b r ih =>
    intro i n x k e h hn hi
    have hb := UInt8.toNat_lt b
    rw [dv] at h
    split at h
    · cases h; exact ⟨by decide, (fun h => by cases h), by decide⟩
    · rename_i h9
      split at h
      · have := ih _ _ _ _ _ h (or_lt2 n _ i hn (by omega)) (by omega)
        refine ⟨this.1, fun he => ?_, this.2.2⟩
        have := this.2.1 he
        simp only [List.length_cons]; omega
      · split at h
        · cases h; exact ⟨by decide, (fun h => by cases h), by decide⟩
        · cases h
          refine ⟨or_lt n _ i hn (by omega) hi (fun h => by omega), fun _ => by simp only [List.length_cons]; omega, by decide⟩
theorem dv_all (l : List UInt8) : dv 0 0 l = (nU l, (dv 0 0 l).2.1, eU l) := rfl
theorem nU_le (l : List UInt8) : nU l ≤ 18446744073709551615 := by have := (dv_le l 0 0 _ _ _ (dv_all l) (by decide) (by decide)).1; omega
theorem nU_err {l : List UInt8} (h : eU l ≠ 0) : nU l = 0 := (dv_err l 0 0 _ _ _ (dv_all l) h).1
theorem eU_le (l : List UInt8) : eU l ≤ 2 := (dv_le l 0 0 _ _ _ (dv_all l) (by decide) (by decide)).2.2
theorem rU_len (l : List UInt8) : (rU l).length ≤ l.length := by unfold rU; split <;> simp
theorem cutW_any (l : List UInt8) (w : World) (hl : l.length ≤ 9223372036854775000) :
    Calls Tryz.prog 180 #[.string (bs l)] w (Iq (.tuple #[.int .u64 (nU l : Int), .string (bs (rU l)), .int .i64 (eU l : Int)]) w) :=
  cutVarint_any l w _ _ _ _ (by omega) (dv_all l) rfl
set_option maxRecDepth 100000 in
theorem cutInt_any (l : List UInt8) (w : World) (hl : l.length ≤ 9223372036854775000) :
    Calls Tryz.prog 182 #[.string (bs l)] w (Iq (.tuple #[.int .i64 (uz (nU l)), .string (bs (rU l)), .int .i64 (eU l : Int)]) w) := by
  have c1 := fun w => cutW_any l w hl
  have c2 := fun w => unzigzag_any (nU l) w (nU_le l)
  generalize nU l = n at *
  generalize bs (rU l) = R at *
  generalize eU l = e2 at *
  go_enter Tryz.func182, Tryz.ntmps182
  go_wp2_with fail
  refine (c1 _).mono ?_
  rintro e w' ⟨n1, rfl, rfl⟩
  go_wp2_with fail
  refine (c2 _).mono ?_
  rintro e w' ⟨rfl, rfl⟩
  go_wp2_with fail
  go_ret3
  exact ⟨n1, rfl, rfl⟩
theorem nS_eq (M : Int) (a : Nat) (l : List UInt8) (ha : a ≠ 0) : (eS M a l = 0 ↔ eS M 1 l = 0) := by
  unfold eS
  split
  · exact Iff.rfl
  · split
    · exact ⟨fun h => absurd h ha, fun h => absurd h (by decide)⟩
    · exact Iff.rfl
set_option maxRecDepth 100000 in
set_option maxHeartbeats 1000000 in
theorem cutSmall_any (l : List UInt8) (M : Int) (a : Nat) (w : World) (hl : l.length ≤ 9223372036854775000) (h1 : -9223372036854775808 ≤ M) (h2 : M ≤ 9223372036854775807) :
    Calls Tryz.prog 163 #[.string (bs l), .int .i64 M, .int .i64 (a : Int)] w (Iq (.tuple #[.int .i64 (nS M l : Int), .string (bs (rS M l)), .int .i64 (eS M a l : Int)]) w) := by
  have c1 := fun w => cutW_any l w hl
  have hn := nU_le l
  have key : ∀ (v : Value), v = .tuple #[.int .i64 (nS M l : Int), .string (bs (rS M l)), .int .i64 (eS M a l : Int)] → ∀ n w w', w' = w.drewN n → Iq (.tuple #[.int .i64 (nS M l : Int), .string (bs (rS M l)), .int .i64 (eS M a l : Int)]) w (.returned v) w' := fun v hv n w w' hw => ⟨n, by rw [hv], hw⟩
  by_cases h : eU l = 0
  · by_cases hM : M < 0
    · have e1 : eS M a l = a := by unfold eS; rw [if_neg (by omega), if_pos (.inl hM)]
      have e2 : eS M 1 l = 1 := by unfold eS; rw [if_neg (by omega), if_pos (.inl hM)]
      have e3 : nS M l = 0 := by unfold nS; rw [e2]; rfl
      have e4 : bs (rS M l) = ⟨#[]⟩ := by unfold rS; rw [e2]; rfl
      rw [e1, e3, e4]
      rw [h] at c1
      clear e1 e2 e3 e4 h key
      generalize bs (rU l) = R at *
      generalize nU l = x at *
      go_enter Tryz.func163, Tryz.ntmps163
      go_wp2_with fail
      refine (c1 _).mono ?_
      rintro e w' ⟨n1, rfl, rfl⟩
      go_wp2_with fail
      go_ret3
      exact ⟨n1, rfl, rfl⟩
    · obtain ⟨m, rfl⟩ : ∃ m : Nat, M = (m : Int) := ⟨M.toNat, by omega⟩
      by_cases hm : m < nU l
      · have e1 : eS (m : Int) a l = a := by unfold eS; rw [if_neg (by omega), if_pos (.inr (by omega))]
        have e2 : eS (m : Int) 1 l = 1 := by unfold eS; rw [if_neg (by omega), if_pos (.inr (by omega))]
        have e3 : nS (m : Int) l = 0 := by unfold nS; rw [e2]; rfl
        have e4 : bs (rS (m : Int) l) = ⟨#[]⟩ := by unfold rS; rw [e2]; rfl
        rw [e1, e3, e4]
        rw [h] at c1
        clear e1 e2 e3 e4 h key hM
        generalize bs (rU l) = R at *
        generalize nU l = x at *
        have d1 : decide (m < x) = true := by simpa using hm
        have d0 : decide ((m : Int) < 0) = false := by simp
        have k1 : IntKind.u64.wrap (m : Int) = (m : Int) := by rw [IntKind.wrap_u64]; omega
        go_enter Tryz.func163, Tryz.ntmps163
        go_wp2_with fail
        refine (c1 _).mono ?_
        rintro e w' ⟨n1, rfl, rfl⟩
        go_wp2_with fail
        go_ret3
        exact ⟨n1, rfl, rfl⟩
      · have e1 : eS (m : Int) a l = 0 := by unfold eS; rw [if_neg (by omega), if_neg (by omega)]
        have e2 : eS (m : Int) 1 l = 0 := by unfold eS; rw [if_neg (by omega), if_neg (by omega)]
        have e3 : nS (m : Int) l = nU l := by unfold nS; rw [e2]; rfl
        have e4 : bs (rS (m : Int) l) = bs (rU l) := by unfold rS; rw [e2]; rfl
        rw [e1, e3, e4]
        rw [h] at c1
        clear e1 e2 e3 e4 h key hM
        generalize bs (rU l) = R at *
        generalize nU l = x at *
        have d1 : decide (m < x) = false := by simpa using hm
        have d0 : decide ((m : Int) < 0) = false := by simp
        have k1 : IntKind.u64.wrap (m : Int) = (m : Int) := by rw [IntKind.wrap_u64]; omega
        have hx : x ≤ 9223372036854775807 := by omega
        have k2 : IntKind.i64.wrap (x : Int) = (x : Int) := IntWalk.i64_in _ (by omega)
        go_enter Tryz.func163, Tryz.ntmps163
        go_wp2_with fail
        refine (c1 _).mono ?_
        rintro e w' ⟨n1, rfl, rfl⟩
        go_wp2_with fail
        go_ret3
        exact ⟨n1, rfl, rfl⟩
  · have e1 : ∀ a, eS M a l = eU l := fun a => by unfold eS; rw [if_pos h]
    have e3 : nS M l = 0 := by unfold nS; rw [e1, if_neg h]
    have e4 : bs (rS M l) = ⟨#[]⟩ := by unfold rS; rw [e1, if_neg h]; rfl
    rw [e1, e3, e4]
    clear e1 e3 e4 key
    generalize bs (rU l) = R at *
    generalize nU l = x at *
    generalize eU l = e2 at *
    have he : ((e2 : Int) != 0) = true := by simpa using h
    go_enter Tryz.func163, Tryz.ntmps163
    go_wp2_with fail
    refine (c1 _).mono ?_
    rintro e w' ⟨n1, rfl, rfl⟩
    go_wp2_with fail
    go_ret3
    exact ⟨n1, rfl, rfl⟩
end Go.Proofs.YthfodpbecddheaaGreatDoor
/-
  Contracts of the program's reader: its methods, told by what is left and by the first error. No conditions but Go's own bounds.
-/
namespace Go.Proofs.YthfodpbecddheaaGreatDoor
open Go.RowKit
set_option maxRecDepth 100000 in
theorem clSmall_any (l : List UInt8) (M : Int) (b : Nat) (w : World) (hl : l.length ≤ 9223372036854775000) (h1 : -9223372036854775808 ≤ M) (h2 : M ≤ 9223372036854775807) (hc : w.cell? ⟨b, 0, none⟩ = some (.int .i64 M)) :
    Calls Tryz.prog 162 #[.string (bs l), .pointer (some ⟨b, 0, none⟩)] w (Iq (.tuple #[.int .i64 (nS M l : Int), .string (bs (rS M l)), .int .i64 (eS M 4 l : Int)]) w) := by
  have c1 : ∀ w, Calls Tryz.prog 163 #[.string (bs l), .int .i64 M, .int .i64 4] w (Iq (.tuple #[.int .i64 (nS M l : Int), .string (bs (rS M l)), .int .i64 (eS M 4 l : Int)]) w) := fun w => cutSmall_any l M 4 w hl h1 h2
  clear h1 h2
  generalize nS M l = n at *
  generalize bs (rS M l) = R at *
  generalize eS M 4 l = e2 at *
  go_enter Tryz.func162, Tryz.ntmps162
  go_wp2_with fail
  refine (c1 _).mono ?_
  rintro e w' ⟨n1, rfl, rfl⟩
  go_wp2_with fail
  go_ret3
  exact ⟨n1, rfl, rfl⟩
set_option maxRecDepth 100000 in
set_option maxHeartbeats 1000000 in
theorem clText_any (l : List UInt8) (M : Int) (b : Nat) (w : World) (hl : l.length ≤ 9223372036854775000) (h1 : -9223372036854775808 ≤ M) (h2 : M ≤ 9223372036854775807) (hc : w.cell? ⟨b, 0, none⟩ = some (.int .i64 M)) :
    Calls Tryz.prog 192 #[.string (bs l), .pointer (some ⟨b, 0, none⟩)] w (Iq (.tuple #[.string (bs (tT M l)), .string (bs (rT M l)), .int .i64 (eT M l : Int)]) w) := by
  have c1 : ∀ w, Calls Tryz.prog 163 #[.string (bs l), .int .i64 M, .int .i64 3] w (Iq (.tuple #[.int .i64 (nS M l : Int), .string (bs (rS M l)), .int .i64 (eS M 3 l : Int)]) w) := fun w => cutSmall_any l M 3 w hl h1 h2
  clear h1 h2
  by_cases h : eS M 3 l = 0
  · have h1 := (nS_eq M 3 l (by decide)).1 h
    have e1 : nS M l = nU l := by unfold nS; rw [if_pos h1]
    have e2 : rS M l = rU l := by unfold rS; rw [if_pos h1]
    rw [h, e1, e2] at c1
    have hrl := rU_len l
    by_cases h3 : (rU l).length < nU l
    · have e3 : eT M l = 1 := by unfold eT; rw [if_neg (by omega), if_pos h3]
      have e4 : bs (tT M l) = ⟨#[]⟩ := by unfold tT; rw [e3]; rfl
      have e5 : bs (rT M l) = ⟨#[]⟩ := by unfold rT; rw [e3]; rfl
      rw [e3, e4, e5]
      clear e1 e2 e3 e4 e5 h h1 hrl
      generalize nU l = n at *
      have hsz : (bs (rU l)).size = (rU l).length := rfl
      generalize (rU l).length = k at *
      generalize bs (rU l) = R at *
      have d1 : decide (k < n) = true := by simpa using h3
      have d2 : decide ((k : Int) < (n : Int)) = true := by simpa using h3
      go_enter Tryz.func192, Tryz.ntmps192
      go_wp2_with fail
      refine (c1 _).mono ?_
      rintro e w' ⟨n1, rfl, rfl⟩
      go_wp2_with fail
      go_ret3
      exact ⟨n1, rfl, rfl⟩
    · have e3 : eT M l = 0 := by unfold eT; rw [if_neg (by omega), if_neg h3]
      have e4 : tT M l = (rU l).take (nU l) := by unfold tT; rw [if_pos e3]
      have e5 : rT M l = (rU l).drop (nU l) := by unfold rT; rw [if_pos e3]
      rw [e3, e4, e5]
      clear e1 e2 e3 e4 e5 h h1
      generalize nU l = n at *
      generalize rU l = r at *
      have hsz : (bs r).size = r.length := rfl
      have k1 : (bs r).extract 0 n = bs (r.take n) := bs_take r n
      have k2 : (bs r).extract n r.length = bs (r.drop n) := bs_drop r n _ (Nat.le_refl _)
      have hn : n ≤ r.length := by omega
      have d1 : decide (r.length < n) = false := by simpa using h3
      clear h3
      go_enter Tryz.func192, Tryz.ntmps192
      go_wp2_with fail
      refine (c1 _).mono ?_
      rintro e w' ⟨n1, rfl, rfl⟩
      go_wp2_with fail
      go_quiet (fail)
      go_wp2_with fail
      go_ret3
      exact ⟨_, rfl, by rw [drewN_add]⟩
  · have e3 : eT M l = eS M 3 l := by unfold eT; rw [if_pos h]
    have e4 : bs (tT M l) = ⟨#[]⟩ := by unfold tT; rw [e3, if_neg h]; rfl
    have e5 : bs (rT M l) = ⟨#[]⟩ := by unfold rT; rw [e3, if_neg h]; rfl
    rw [e3, e4, e5]
    clear e3 e4 e5
    generalize eS M 3 l = e2 at *
    generalize nS M l = n at *
    generalize bs (rS M l) = R at *
    have he : ((e2 : Int) != 0) = true := by simpa using h
    go_enter Tryz.func192, Tryz.ntmps192
    go_wp2_with fail
    refine (c1 _).mono ?_
    rintro e w' ⟨n1, rfl, rfl⟩
    go_wp2_with fail
    go_ret3
    exact ⟨n1, rfl, rfl⟩
/-- A reader at block g: the string that is left, and the first error. -/
structure Rdr (w : World) (g : Nat) (l : List UInt8) (e : Nat) : Prop where
  lt : g < w.heap.size
  c0 : w.cell? ⟨g, 0, none⟩ = some (.string (bs l))
  c1 : w.cell? ⟨g, 1, none⟩ = some (.int .i64 (e : Int))
  f0 : w.frozen? ⟨g, 0, none⟩ = false
  f1 : w.frozen? ⟨g, 1, none⟩ = false
theorem Rdr.next {w w' : World} {g : Nat} {l : List UInt8} {e : Nat} (h : Rdr w g l e) (hb : Below w.heap.size w w') : Rdr w' g l e :=
  ⟨Nat.lt_of_lt_of_le h.lt hb.size, (hb.cell h.lt).trans h.c0, (hb.cell h.lt).trans h.c1, (hb.frozen h.lt).trans h.f0, (hb.frozen h.lt).trans h.f1⟩
theorem Rdr.drewN {w : World} {g : Nat} {l : List UInt8} {e : Nat} (h : Rdr w g l e) (n : Nat) : Rdr (w.drewN n) g l e := ⟨h.lt, h.c0, h.c1, h.f0, h.f1⟩
theorem Rdr.setL {w : World} {g : Nat} {l : List UInt8} {e : Nat} (h : Rdr w g l e) (r : List UInt8) : Rdr (w.setCell ⟨g, 0, none⟩ (.string (bs r))) g r e := by
  obtain ⟨lt, c0, c1, f0, f1⟩ := h
  exact ⟨by simpa [World.setCell] using lt, World.cell?_setCell_same _ _ _ c0, (World.cell?_setCell_other _ _ _ _ (by intro h; cases h)).trans c1, by simp [f0], by simp [f1]⟩
theorem Rdr.setE {w : World} {g : Nat} {l : List UInt8} {e : Nat} (h : Rdr w g l e) (e2 : Nat) : Rdr (w.setCell ⟨g, 1, none⟩ (.int .i64 (e2 : Int))) g l e2 := by
  obtain ⟨lt, c0, c1, f0, f1⟩ := h
  exact ⟨by simpa [World.setCell] using lt, (World.cell?_setCell_other _ _ _ _ (by intro h; cases h)).trans c0, World.cell?_setCell_same _ _ _ c1, by simp [f0], by simp [f1]⟩
/-- The call returns v; of old memory it wrote to the reader alone, which then has l left and the first error e. -/
def Ir (v : Value) (g : Nat) (l : List UInt8) (e : Nat) (w : World) (en : Ending) (w' : World) : Prop := en = .returned v ∧ w.grownBy w' (some g) ∧ Rdr w' g l e
theorem gb_below {w w' : World} {g : Nat} (h : Below w.heap.size w w') : w.grownBy w' (some g) := ⟨h.os, h.tape, h.output, h.size, fun k hk _ => h.block k hk⟩
theorem gb_set {w w' : World} {g : Nat} (h : w.grownBy w' (some g)) (o : Nat) (v : Value) : w.grownBy (w'.setCell ⟨g, o, none⟩ v) (some g) :=
  ⟨h.os, h.tape, h.output, by simpa [World.setCell] using h.size, fun k hk hne => (Below.heap_setCell _ _ _ _ (fun e => hne (by rw [e]))).trans (h.block k hk hne)⟩
/-- What is left, and the first error, behind a read. -/
def aL (e e2 : Nat) (l r : List UInt8) : List UInt8 := if e = 0 ∧ e2 = 0 then r else l
def aE (e e2 : Nat) : Nat := if e = 0 then e2 else e
theorem aL0 (e2 : Nat) (l r : List UInt8) (h : e2 ≠ 0) : aL 0 e2 l r = l := by unfold aL; rw [if_neg (fun k => h k.2)]
theorem aL1 {e : Nat} (e2 : Nat) (l r : List UInt8) (h : e ≠ 0) : aL e e2 l r = l := by unfold aL; rw [if_neg (fun k => h k.1)]
theorem aE1 {e : Nat} (e2 : Nat) (h : e ≠ 0) : aE e e2 = e := by unfold aE; rw [if_neg h]
theorem err_any (g : Nat) (l : List UInt8) (e : Nat) (w : World) (h : Rdr w g l e) :
    Calls Tryz.prog 112 #[.pointer (some ⟨g, 0, none⟩)] w (Is (.int .i64 (e : Int)) w) := by
  obtain ⟨lt, c0, c1, f0, f1⟩ := h
  go_enter Tryz.func112, Tryz.ntmps112
  go_wp2_with fail
  go_ret
  exact ⟨rfl, rfl⟩
theorem left_any (g : Nat) (l : List UInt8) (e : Nat) (w : World) (h : Rdr w g l e) :
    Calls Tryz.prog 110 #[.pointer (some ⟨g, 0, none⟩)] w (Is (.int .i64 (l.length : Nat)) w) := by
  obtain ⟨lt, c0, c1, f0, f1⟩ := h
  have hsz : (bs l).size = l.length := rfl
  go_enter Tryz.func110, Tryz.ntmps110
  go_wp2_with fail
  go_ret
  exact ⟨rfl, rfl⟩
set_option maxRecDepth 100000 in
set_option maxHeartbeats 1000000 in
theorem rInt_any (g : Nat) (l : List UInt8) (e : Nat) (w : World) (hl : l.length ≤ 9223372036854775000) (h : Rdr w g l e) :
    Calls Tryz.prog 146 #[.pointer (some ⟨g, 0, none⟩)] w (Ir (if e = 0 then .int .i64 (uz (nU l)) else .int .i64 0) g (aL e (eU l) l (rU l)) (aE e (eU l)) w) := by
  have cE := fun w h => err_any g l e w h
  have cc := fun w => cutInt_any l w hl
  have h3 : Rdr w g l e := h.next (Below.refl _ _)
  have hgb : w.grownBy w (some g) := gb_below (Below.refl _ _)
  have hz : eU l ≠ 0 → (.int .i64 (uz (nU l)) : Value) = .int .i64 0 := fun h => by rw [nU_err h]; rfl
  obtain ⟨lt, c0, c1, f0, f1⟩ := h
  by_cases he : e = 0
  · subst he
    have c10 : w.cell? ⟨g, 1, none⟩ = some (.int .i64 0) := c1
    clear c1
    rw [if_pos rfl]
    by_cases he2 : eU l = 0
    · rw [he2, show aL 0 0 l (rU l) = rU l by rfl, show aE 0 0 = 0 by rfl]
      have HS : ∀ n, Rdr ((w.drewN n).setCell ⟨g, 0, none⟩ (.string (bs (rU l)))) g (rU l) 0 := fun n => (h3.drewN n).setL _
      have HG : ∀ n, w.grownBy ((w.drewN n).setCell ⟨g, 0, none⟩ (.string (bs (rU l)))) (some g) := fun n => gb_set (gb_below (below_drewN (Below.refl _ _) n)) _ _
      rw [he2] at cc
      clear he2 hz
      generalize rU l = r at *
      generalize (.int .i64 (uz (nU l)) : Value) = v at *
      go_enter Tryz.func146, Tryz.ntmps146
      go_wp2_with fail
      go_enter Tryz.func181, Tryz.ntmps181
      go_wp2_with fail
      refine (cE _ h3).mono ?_
      rintro e w' ⟨rfl, rfl⟩
      go_wp2_with fail
      refine (cc _).mono ?_
      rintro e w' ⟨n1, rfl, rfl⟩
      go_wp2_with fail
      go_ret
      exact ⟨rfl, HG n1, HS n1⟩
    · rw [aL0 _ _ _ he2, show aE 0 (eU l) = eU l by rfl, hz he2]
      rw [hz he2] at cc
      have HS : ∀ n, Rdr ((w.drewN n).setCell ⟨g, 1, none⟩ (.int .i64 ((eU l : Nat) : Int))) g l (eU l) := fun n => (h3.drewN n).setE _
      have HG : ∀ n, w.grownBy ((w.drewN n).setCell ⟨g, 1, none⟩ (.int .i64 ((eU l : Nat) : Int))) (some g) := fun n => gb_set (gb_below (below_drewN (Below.refl _ _) n)) _ _
      clear hz
      generalize eU l = e2 at *
      generalize rU l = r at *
      have hd : ((e2 : Int) != 0) = true := by simpa using he2
      clear he2
      go_enter Tryz.func146, Tryz.ntmps146
      go_wp2_with fail
      go_enter Tryz.func181, Tryz.ntmps181
      go_wp2_with fail
      refine (cE _ h3).mono ?_
      rintro e w' ⟨rfl, rfl⟩
      go_wp2_with fail
      refine (cc _).mono ?_
      rintro e w' ⟨n1, rfl, rfl⟩
      go_wp2_with fail
      go_ret
      exact ⟨rfl, HG n1, HS n1⟩
  · rw [if_neg he, aL1 _ _ _ he, aE1 _ he]
    have hd : ((e : Int) != 0) = true := by simpa using he
    clear he cc hz
    go_enter Tryz.func146, Tryz.ntmps146
    go_wp2_with fail
    go_enter Tryz.func181, Tryz.ntmps181
    go_wp2_with fail
    refine (cE _ h3).mono ?_
    rintro e w' ⟨rfl, rfl⟩
    go_wp2_with fail
    go_ret
    exact ⟨rfl, hgb, h3⟩
set_option maxRecDepth 100000 in
set_option maxHeartbeats 1000000 in
theorem rSmall_any (g : Nat) (l : List UInt8) (e : Nat) (M : Int) (w : World) (hl : l.length ≤ 9223372036854775000) (h1 : -9223372036854775808 ≤ M) (h2 : M ≤ 9223372036854775807) (h : Rdr w g l e) :
    Calls Tryz.prog 111 #[.pointer (some ⟨g, 0, none⟩), .int .i64 M] w (Ir (if e = 0 then .int .i64 (nS M l : Int) else .int .i64 0) g (aL e (eS M 4 l) l (rS M l)) (aE e (eS M 4 l)) w) := by
  have cE := fun w h => err_any g l e w h
  have cc := fun w2 h => clSmall_any l M w.heap.size w2 hl h1 h2 h
  have h3 : Rdr (w.alloc (Obj.cells #[.int .i64 M] 3)) g l e := h.next (one w _)
  have hgb : w.grownBy (w.alloc (Obj.cells #[.int .i64 M] 3)) (some g) := gb_below (one w _)
  have hnew : (w.alloc (Obj.cells #[.int .i64 M] 3)).cell? ⟨w.heap.size, 0, none⟩ = some (.int .i64 M) := by simp
  have hz : eS M 4 l ≠ 0 → (.int .i64 (nS M l : Int) : Value) = .int .i64 0 := fun h => by unfold nS; rw [if_neg (fun k => h ((nS_eq M 4 l (by decide)).2 k))]; rfl
  obtain ⟨lt, c0, c1, f0, f1⟩ := h
  by_cases he : e = 0
  · subst he
    have c10 : w.cell? ⟨g, 1, none⟩ = some (.int .i64 0) := c1
    clear c1 h1 h2
    rw [if_pos rfl]
    by_cases he2 : eS M 4 l = 0
    · rw [he2, show aL 0 0 l (rS M l) = rS M l by rfl, show aE 0 0 = 0 by rfl]
      have HS : ∀ n, Rdr (((w.alloc (Obj.cells #[.int .i64 M] 3)).drewN n).setCell ⟨g, 0, none⟩ (.string (bs (rS M l)))) g (rS M l) 0 := fun n => (h3.drewN n).setL _
      have HG : ∀ n, w.grownBy (((w.alloc (Obj.cells #[.int .i64 M] 3)).drewN n).setCell ⟨g, 0, none⟩ (.string (bs (rS M l)))) (some g) := fun n => gb_set (gb_below (below_drewN (one w _) n)) _ _
      rw [he2] at cc
      clear he2 hz
      generalize rS M l = r at *
      generalize (.int .i64 (nS M l : Int) : Value) = v at *
      go_enter Tryz.func111, Tryz.ntmps111
      go_wp2_with fail
      go_enter Tryz.func161, Tryz.ntmps161
      go_wp2_with fail
      refine (cE _ h3).mono ?_
      rintro e w' ⟨rfl, rfl⟩
      go_wp2_with fail
      refine (cc _ hnew).mono ?_
      rintro e w' ⟨n1, rfl, rfl⟩
      go_wp2_with fail
      go_ret
      exact ⟨rfl, HG n1, HS n1⟩
    · rw [aL0 _ _ _ he2, show aE 0 (eS M 4 l) = eS M 4 l by rfl, hz he2]
      rw [hz he2] at cc
      have HS : ∀ n, Rdr (((w.alloc (Obj.cells #[.int .i64 M] 3)).drewN n).setCell ⟨g, 1, none⟩ (.int .i64 ((eS M 4 l : Nat) : Int))) g l (eS M 4 l) := fun n => (h3.drewN n).setE _
      have HG : ∀ n, w.grownBy (((w.alloc (Obj.cells #[.int .i64 M] 3)).drewN n).setCell ⟨g, 1, none⟩ (.int .i64 ((eS M 4 l : Nat) : Int))) (some g) := fun n => gb_set (gb_below (below_drewN (one w _) n)) _ _
      clear hz
      generalize eS M 4 l = e2 at *
      generalize rS M l = r at *
      have hd : ((e2 : Int) != 0) = true := by simpa using he2
      clear he2
      go_enter Tryz.func111, Tryz.ntmps111
      go_wp2_with fail
      go_enter Tryz.func161, Tryz.ntmps161
      go_wp2_with fail
      refine (cE _ h3).mono ?_
      rintro e w' ⟨rfl, rfl⟩
      go_wp2_with fail
      refine (cc _ hnew).mono ?_
      rintro e w' ⟨n1, rfl, rfl⟩
      go_wp2_with fail
      go_ret
      exact ⟨rfl, HG n1, HS n1⟩
  · rw [if_neg he, aL1 _ _ _ he, aE1 _ he]
    have hd : ((e : Int) != 0) = true := by simpa using he
    clear he cc hz
    go_enter Tryz.func111, Tryz.ntmps111
    go_wp2_with fail
    go_enter Tryz.func161, Tryz.ntmps161
    go_wp2_with fail
    refine (cE _ h3).mono ?_
    rintro e w' ⟨rfl, rfl⟩
    go_wp2_with fail
    go_ret
    exact ⟨rfl, hgb, h3⟩
set_option maxRecDepth 100000 in
set_option maxHeartbeats 1000000 in
theorem rText_any (g : Nat) (l : List UInt8) (e : Nat) (M : Int) (w : World) (hl : l.length ≤ 9223372036854775000) (h1 : -9223372036854775808 ≤ M) (h2 : M ≤ 9223372036854775807) (h : Rdr w g l e) :
    Calls Tryz.prog 164 #[.pointer (some ⟨g, 0, none⟩), .int .i64 M] w (Ir (if e = 0 then .string (bs (tT M l)) else .string ⟨#[]⟩) g (aL e (eT M l) l (rT M l)) (aE e (eT M l)) w) := by
  have cE := fun w h => err_any g l e w h
  have cc := fun w2 h => clText_any l M w.heap.size w2 hl h1 h2 h
  have h3 : Rdr (w.alloc (Obj.cells #[.int .i64 M] 3)) g l e := h.next (one w _)
  have hgb : w.grownBy (w.alloc (Obj.cells #[.int .i64 M] 3)) (some g) := gb_below (one w _)
  have hnew : (w.alloc (Obj.cells #[.int .i64 M] 3)).cell? ⟨w.heap.size, 0, none⟩ = some (.int .i64 M) := by simp
  have hz : eT M l ≠ 0 → (.string (bs (tT M l)) : Value) = .string ⟨#[]⟩ := fun h => by unfold tT; rw [if_neg h]; rfl
  obtain ⟨lt, c0, c1, f0, f1⟩ := h
  by_cases he : e = 0
  · subst he
    have c10 : w.cell? ⟨g, 1, none⟩ = some (.int .i64 0) := c1
    clear c1 h1 h2
    rw [if_pos rfl]
    by_cases he2 : eT M l = 0
    · rw [he2, show aL 0 0 l (rT M l) = rT M l by rfl, show aE 0 0 = 0 by rfl]
      have HS : ∀ n, Rdr (((w.alloc (Obj.cells #[.int .i64 M] 3)).drewN n).setCell ⟨g, 0, none⟩ (.string (bs (rT M l)))) g (rT M l) 0 := fun n => (h3.drewN n).setL _
      have HG : ∀ n, w.grownBy (((w.alloc (Obj.cells #[.int .i64 M] 3)).drewN n).setCell ⟨g, 0, none⟩ (.string (bs (rT M l)))) (some g) := fun n => gb_set (gb_below (below_drewN (one w _) n)) _ _
      rw [he2] at cc
      clear he2 hz
      generalize rT M l = r at *
      generalize (.string (bs (tT M l)) : Value) = v at *
      go_enter Tryz.func164, Tryz.ntmps164
      go_wp2_with fail
      go_enter Tryz.func191, Tryz.ntmps191
      go_wp2_with fail
      refine (cE _ h3).mono ?_
      rintro e w' ⟨rfl, rfl⟩
      go_wp2_with fail
      refine (cc _ hnew).mono ?_
      rintro e w' ⟨n1, rfl, rfl⟩
      go_wp2_with fail
      go_ret
      exact ⟨rfl, HG n1, HS n1⟩
    · rw [aL0 _ _ _ he2, show aE 0 (eT M l) = eT M l by rfl, hz he2]
      rw [hz he2] at cc
      have HS : ∀ n, Rdr (((w.alloc (Obj.cells #[.int .i64 M] 3)).drewN n).setCell ⟨g, 1, none⟩ (.int .i64 ((eT M l : Nat) : Int))) g l (eT M l) := fun n => (h3.drewN n).setE _
      have HG : ∀ n, w.grownBy (((w.alloc (Obj.cells #[.int .i64 M] 3)).drewN n).setCell ⟨g, 1, none⟩ (.int .i64 ((eT M l : Nat) : Int))) (some g) := fun n => gb_set (gb_below (below_drewN (one w _) n)) _ _
      clear hz
      generalize eT M l = e2 at *
      generalize rT M l = r at *
      have hd : ((e2 : Int) != 0) = true := by simpa using he2
      clear he2
      go_enter Tryz.func164, Tryz.ntmps164
      go_wp2_with fail
      go_enter Tryz.func191, Tryz.ntmps191
      go_wp2_with fail
      refine (cE _ h3).mono ?_
      rintro e w' ⟨rfl, rfl⟩
      go_wp2_with fail
      refine (cc _ hnew).mono ?_
      rintro e w' ⟨n1, rfl, rfl⟩
      go_wp2_with fail
      go_ret
      exact ⟨rfl, HG n1, HS n1⟩
  · rw [if_neg he, aL1 _ _ _ he, aE1 _ he]
    have hd : ((e : Int) != 0) = true := by simpa using he
    clear he cc hz
    go_enter Tryz.func164, Tryz.ntmps164
    go_wp2_with fail
    go_enter Tryz.func191, Tryz.ntmps191
    go_wp2_with fail
    refine (cE _ h3).mono ?_
    rintro e w' ⟨rfl, rfl⟩
    go_wp2_with fail
    go_ret
    exact ⟨rfl, hgb, h3⟩
end Go.Proofs.YthfodpbecddheaaGreatDoor
/-
  Contracts of the reference's reader. No conditions but Go's own bounds.
-/
namespace Go.Proofs.YthfodpbecddheaaGreatDoor
open Go.RowKit
/-- The reference's reader. -/
def rs (S : List UInt8) (a e : Nat) : Value := .agg #[.string (bs S), .int .i64 (a : Int), .int .i64 (e : Int)]
/-- A variable of three cells that can be written. -/
structure V3 (w : World) (b : Nat) (x y z : Value) : Prop where
  lt : b < w.heap.size
  c0 : w.cell? ⟨b, 0, none⟩ = some x
  c1 : w.cell? ⟨b, 1, none⟩ = some y
  c2 : w.cell? ⟨b, 2, none⟩ = some z
  f0 : w.frozen? ⟨b, 0, none⟩ = false
  f1 : w.frozen? ⟨b, 1, none⟩ = false
  f2 : w.frozen? ⟨b, 2, none⟩ = false
theorem V3.next {w w' : World} {b : Nat} {x y z : Value} (h : V3 w b x y z) (hb : Below w.heap.size w w') : V3 w' b x y z :=
  ⟨Nat.lt_of_lt_of_le h.lt hb.size, (hb.cell h.lt).trans h.c0, (hb.cell h.lt).trans h.c1, (hb.cell h.lt).trans h.c2, (hb.frozen h.lt).trans h.f0, (hb.frozen h.lt).trans h.f1, (hb.frozen h.lt).trans h.f2⟩
theorem V3.new (w : World) (x y z : Value) (t : TypeId) : V3 (w.alloc (Obj.cells #[x, y, z] t)) w.heap.size x y z :=
  ⟨by simp, by simp, by simp, by simp, by simp, by simp, by simp⟩
theorem two (w : World) (o o' : Obj) : Below w.heap.size w ((w.alloc o).alloc o') := Below.next (one w o) (one _ o')
set_option maxRecDepth 100000 in
set_option maxHeartbeats 1000000 in
theorem failed_any (S : List UInt8) (a e e2 : Nat) (w : World) :
    Calls Tryz.prog 159 #[rs S a e, .int .i64 (e2 : Int)] w (Ib (rs S a e2) w) := by
  unfold rs
  go_enter Tryz.func159, Tryz.ntmps159
  go_wp2_with fail
  refine bodyPost_ret (v := .agg #[.string (bs S), .int .i64 (a : Int), .int .i64 (e2 : Int)]) (by simp [results, Tryz.results159, go_sem]) rfl ⟨rfl, two _ _ _⟩
/-- How many bytes a varint takes. -/
def kU (l : List UInt8) : Nat := (dv 0 0 l).2.1
/-- Where a reader stands behind a read. -/
def aP (e e2 a k : Nat) : Nat := if e = 0 ∧ e2 = 0 then a + k else a
theorem aP0 (e2 a k : Nat) (h : e2 ≠ 0) : aP 0 e2 a k = a := by unfold aP; rw [if_neg (fun x => h x.2)]
theorem aP1 {e : Nat} (e2 a k : Nat) (h : e ≠ 0) : aP e e2 a k = a := by unfold aP; rw [if_neg (fun x => h x.1)]
set_option maxRecDepth 100000 in
set_option maxHeartbeats 1000000 in
theorem refU_any (S : List UInt8) (a e : Nat) (w : World) (hS : S.length ≤ 9223372036854775000) (ha : a ≤ S.length) :
    Calls Tryz.prog 106 #[rs S a e] w (Ib (.tuple #[rs S (aP e (eU (S.drop a)) a (kU (S.drop a))) (aE e (eU (S.drop a))), .int .u64 ((if e = 0 then nU (S.drop a) else 0 : Nat) : Int)]) w) := by
  have cV : ∀ w, Calls Tryz.prog 160 #[.string (bs S), .int .i64 (a : Int)] w (Is (.tuple #[.int .u64 (nU (S.drop a) : Int), .int .i64 ((a + kU (S.drop a) : Nat) : Int), .int .i64 (eU (S.drop a) : Int)]) w) := fun w => varint_any S w a _ _ _ hS ha (dv_all (S.drop a))
  have cF := fun e2 w => failed_any S a e e2 w
  have hn : eU (S.drop a) ≠ 0 → nU (S.drop a) = 0 := nU_err
  generalize eU (S.drop a) = e2 at *
  generalize nU (S.drop a) = n at *
  generalize kU (S.drop a) = k at *
  unfold rs at *
  by_cases he : e = 0
  · subst he
    rw [if_pos rfl, show aE 0 e2 = e2 by rfl]
    by_cases h2 : e2 = 0
    · subst h2
      rw [show aP 0 0 a k = a + k by rfl]
      generalize a + k = p at *
      clear hn cF
      go_enter Tryz.func106, Tryz.ntmps106
      go_wp2_with fail
      refine (cV _).mono ?_
      rintro e w' ⟨rfl, rfl⟩
      go_wp2_with fail
      refine bodyPost_ret (v := .tuple #[.agg #[.string (bs S), .int .i64 (p : Int), .int .i64 0], .int .u64 (n : Int)]) (by simp [results, Tryz.results106, go_sem]) rfl ⟨rfl, two _ _ _⟩
    · rw [aP0 _ _ _ h2]
      rw [hn h2] at cV ⊢
      have hd : ((e2 : Int) != 0) = true := by simpa using h2
      have hv := (V3.new (w.alloc (Obj.cells #[.string (bs S), .int .i64 (a : Int), .int .i64 0] 137)) (.string ⟨#[]⟩) (.int .i64 0) (.int .i64 0) 137)
      clear hn h2
      go_enter Tryz.func106, Tryz.ntmps106
      go_wp2_with fail
      refine (cV _).mono ?_
      rintro e w' ⟨rfl, rfl⟩
      go_wp2_with fail
      refine (cF e2 _).mono ?_
      rintro e w1 ⟨rfl, hb⟩
      have hb2 := Below.next (two w _ _) hb
      have hv2 := hv.next hb
      obtain ⟨v0, v1, v2, v3, v4, v5, v6⟩ := hv2
      have hs : (w.alloc (Obj.cells #[.string (bs S), .int .i64 (a : Int), .int .i64 0] 137)).heap.size = w.heap.size + 1 := by simp
      rw [hs] at v0 v1 v2 v3 v4 v5 v6
      clear hv hs
      go_wp2_with fail
      refine bodyPost_ret (v := .tuple #[.agg #[.string (bs S), .int .i64 (a : Int), .int .i64 (e2 : Int)], .int .u64 0]) (by simp [results, Tryz.results106, go_sem, v1, v2, v3]) rfl ⟨rfl, ?_⟩
      exact ((hb2.setCell (by simp) _).setCell (by simp) _).setCell (by simp) _
  · rw [if_neg he, aP1 _ _ _ he, aE1 _ he]
    have hd : ((e : Int) != 0) = true := by simpa using he
    clear he hn cF cV
    go_enter Tryz.func106, Tryz.ntmps106
    go_wp2_with fail
    refine bodyPost_ret (v := .tuple #[.agg #[.string (bs S), .int .i64 (a : Int), .int .i64 (e : Int)], .int .u64 0]) (by simp [results, Tryz.results106, go_sem]) rfl ⟨rfl, two _ _ _⟩
end Go.Proofs.YthfodpbecddheaaGreatDoor
/-
  Contracts of the reference's reader: ReadInt, ReadSmall, ReadText, Left, End. No conditions but Go's own bounds.
-/
namespace Go.Proofs.YthfodpbecddheaaGreatDoor
open Go.RowKit
theorem wrap64_in {n : Int} (h1 : -9223372036854775808 ≤ n) (h2 : n ≤ 9223372036854775807) : wrap64 n = n := by unfold wrap64; omega
theorem refLeft_any (S : List UInt8) (a e : Nat) (w : World) (hS : S.length ≤ 9223372036854775000) (ha : a ≤ S.length) :
    Calls Tryz.prog 107 #[rs S a e] w (Ib (.int .i64 ((S.length - a : Nat) : Int)) w) := by
  have hsz : (bs S).size = S.length := rfl
  obtain ⟨d, hd⟩ : ∃ d, S.length - a = d := ⟨_, rfl⟩
  have l1 : IntKind.i64.wrap ((S.length : Int) - (a : Int)) = (d : Int) := by rw [show (S.length : Int) - (a : Int) = (d : Int) by omega]; exact IntWalk.i64_in _ (by omega)
  have l2 : (S.length : Int) - (a : Int) = (d : Int) := by omega
  rw [hd]
  unfold rs
  clear hd
  go_enter Tryz.func107, Tryz.ntmps107
  go_wp2_with fail
  go_ret
  exact ⟨rfl, one _ _⟩
theorem set3 {w0 w1 : World} (h : Below w0.heap.size w0 w1) (b : Nat) (x y z : Value) (hb : w0.heap.size ≤ b) : Below w0.heap.size w0 (((w1.setCell ⟨b, 0, none⟩ x).setCell ⟨b, 1, none⟩ y).setCell ⟨b, 2, none⟩ z) :=
  ((h.setCell (p := ⟨b, 0, none⟩) hb _).setCell (p := ⟨b, 1, none⟩) hb _).setCell (p := ⟨b, 2, none⟩) hb _
theorem set3a {w0 w1 : World} (h : Below w0.heap.size w0 w1) (b : Nat) (x y z : Value) (o : Obj) (hb : w0.heap.size ≤ b) : Below w0.heap.size w0 ((((w1.setCell ⟨b, 0, none⟩ x).setCell ⟨b, 1, none⟩ y).setCell ⟨b, 2, none⟩ z).alloc o) :=
  (set3 h b x y z hb).alloc (set3 h b x y z hb).size o
/-- What a walk knows of the two variables behind a call. -/
theorem vars2 {w w1 : World} {x y z x' y' z' : Value} {t t' : TypeId} (hb : Below ((w.alloc (Obj.cells #[x, y, z] t)).alloc (Obj.cells #[x', y', z'] t')).heap.size ((w.alloc (Obj.cells #[x, y, z] t)).alloc (Obj.cells #[x', y', z'] t')) w1) :
    V3 w1 w.heap.size x y z ∧ V3 w1 (w.heap.size + 1) x' y' z' := by
  refine ⟨((V3.new w x y z t).next (one _ _)).next hb, ?_⟩
  have h := (V3.new (w.alloc (Obj.cells #[x, y, z] t)) x' y' z' t').next hb
  have hs : (w.alloc (Obj.cells #[x, y, z] t)).heap.size = w.heap.size + 1 := by simp
  rwa [hs] at h
set_option maxRecDepth 100000 in
set_option maxHeartbeats 1000000 in
theorem refS_any (S : List UInt8) (a e : Nat) (M : Int) (w : World) (hS : S.length ≤ 9223372036854775000) (ha : a ≤ S.length) (h1 : -9223372036854775808 ≤ M) (h2 : M ≤ 9223372036854775807) :
    Calls Tryz.prog 105 #[rs S a e, .int .i64 M] w (Ib (.tuple #[rs S (aP e (eS M 4 (S.drop a)) a (kU (S.drop a))) (aE e (eS M 4 (S.drop a))), .int .i64 ((if e = 0 then nS M (S.drop a) else 0 : Nat) : Int)]) w) := by
  have cU := fun w => refU_any S a e w hS ha
  have cF := fun e2 w => failed_any S a e e2 w
  have hnl := nU_le (S.drop a)
  by_cases he : e = 0
  · subst he
    by_cases hU : eU (S.drop a) = 0
    · rw [hU, if_pos rfl, show aP 0 0 a (kU (S.drop a)) = a + kU (S.drop a) by rfl, show aE 0 0 = 0 by rfl] at cU
      rw [if_pos rfl, show aE 0 (eS M 4 (S.drop a)) = eS M 4 (S.drop a) by rfl]
      by_cases hM : M < 0
      · have e1 : eS M 4 (S.drop a) = 4 := by unfold eS; rw [if_neg (by omega), if_pos (.inl hM)]
        have e11 : eS M 1 (S.drop a) = 1 := by unfold eS; rw [if_neg (by omega), if_pos (.inl hM)]
        have e2 : nS M (S.drop a) = 0 := by unfold nS; rw [e11]; rfl
        rw [e1, e2, aP0 _ _ _ (by decide)]
        clear e1 e2 e11 hU hS ha
        generalize nU (S.drop a) = n at *
        generalize a + kU (S.drop a) = p at *
        unfold rs at *
        go_enter Tryz.func105, Tryz.ntmps105
        go_wp2_with fail
        refine (cU _).mono ?_
        rintro e w1 ⟨rfl, hb⟩
        obtain ⟨V1, V2⟩ := vars2 hb
        have hb2 := Below.next (two w _ _) hb
        have V2k := V2
        obtain ⟨u0, u1, u2, u3, u4, u5, u6⟩ := V1
        obtain ⟨v0, v1, v2, v3, v4, v5, v6⟩ := V2
        go_wp2_with fail
        refine (cF 4 _).mono ?_
        rintro e w2 ⟨rfl, hb3⟩
        have hb4 := Below.next (hb2.alloc hb2.size _) hb3
        have V3k := (V2k.next (one w1 _)).next hb3
        clear v0 v1 v2 v3 v4 v5 v6
        obtain ⟨v0, v1, v2, v3, v4, v5, v6⟩ := V3k
        go_wp2_with fail
        refine bodyPost_ret (v := .tuple #[.agg #[.string (bs S), .int .i64 (a : Int), .int .i64 (4 : Int)], .int .i64 0]) (by simp [results, Tryz.results105, go_sem, v1, v2, v3]) rfl ⟨rfl, ?_⟩
        exact set3 hb4 _ _ _ _ (Nat.le_succ _)
      · obtain ⟨m, rfl⟩ : ∃ m : Nat, M = (m : Int) := ⟨M.toNat, by omega⟩
        by_cases hm : m < nU (S.drop a)
        · have e1 : eS m 4 (S.drop a) = 4 := by unfold eS; rw [if_neg (by omega), if_pos (.inr (by omega))]
          have e11 : eS m 1 (S.drop a) = 1 := by unfold eS; rw [if_neg (by omega), if_pos (.inr (by omega))]
          have e2 : nS m (S.drop a) = 0 := by unfold nS; rw [e11]; rfl
          rw [e1, e2, aP0 _ _ _ (by decide)]
          clear e1 e2 e11 hU hS ha hM
          generalize nU (S.drop a) = n at *
          generalize a + kU (S.drop a) = p at *
          have d1 : decide (m < n) = true := by simpa using hm
          have d0 : decide ((m : Int) < 0) = false := by simp
          have k1 : IntKind.u64.wrap (m : Int) = (m : Int) := by rw [IntKind.wrap_u64]; omega
          unfold rs at *
          go_enter Tryz.func105, Tryz.ntmps105
          go_wp2_with fail
          refine (cU _).mono ?_
          rintro e w1 ⟨rfl, hb⟩
          obtain ⟨V1, V2⟩ := vars2 hb
          have hb2 := Below.next (two w _ _) hb
          have V2k := V2
          obtain ⟨u0, u1, u2, u3, u4, u5, u6⟩ := V1
          obtain ⟨v0, v1, v2, v3, v4, v5, v6⟩ := V2
          go_wp2_with fail
          refine (cF 4 _).mono ?_
          rintro e w2 ⟨rfl, hb3⟩
          have hb4 := Below.next (hb2.alloc hb2.size _) hb3
          have V3k := (V2k.next (one w1 _)).next hb3
          clear v0 v1 v2 v3 v4 v5 v6
          obtain ⟨v0, v1, v2, v3, v4, v5, v6⟩ := V3k
          go_wp2_with fail
          refine bodyPost_ret (v := .tuple #[.agg #[.string (bs S), .int .i64 (a : Int), .int .i64 (4 : Int)], .int .i64 0]) (by simp [results, Tryz.results105, go_sem, v1, v2, v3]) rfl ⟨rfl, ?_⟩
          exact set3 hb4 _ _ _ _ (Nat.le_succ _)
        · have e1 : eS m 4 (S.drop a) = 0 := by unfold eS; rw [if_neg (by omega), if_neg (by omega)]
          have e11 : eS m 1 (S.drop a) = 0 := by unfold eS; rw [if_neg (by omega), if_neg (by omega)]
          have e2 : nS m (S.drop a) = nU (S.drop a) := by unfold nS; rw [e11]; rfl
          rw [e1, e2, show aP 0 0 a (kU (S.drop a)) = a + kU (S.drop a) by rfl]
          clear e1 e2 e11 hU hS ha hM
          generalize nU (S.drop a) = n at *
          generalize a + kU (S.drop a) = p at *
          have d1 : decide (m < n) = false := by simpa using hm
          have d0 : decide ((m : Int) < 0) = false := by simp
          have k1 : IntKind.u64.wrap (m : Int) = (m : Int) := by rw [IntKind.wrap_u64]; omega
          have hx : n ≤ 9223372036854775807 := by omega
          have k2 : IntKind.i64.wrap (n : Int) = (n : Int) := IntWalk.i64_in _ (by omega)
          have k3 : wrap64 (n : Int) = (n : Int) := wrap64_in (by omega) (by omega)
          unfold rs at *
          go_enter Tryz.func105, Tryz.ntmps105
          go_wp2_with fail
          refine (cU _).mono ?_
          rintro e w1 ⟨rfl, hb⟩
          obtain ⟨V1, V2⟩ := vars2 hb
          have hb2 := Below.next (two w _ _) hb
          have V2k := V2
          obtain ⟨u0, u1, u2, u3, u4, u5, u6⟩ := V1
          obtain ⟨v0, v1, v2, v3, v4, v5, v6⟩ := V2
          go_wp2_with fail
          refine bodyPost_ret (v := .tuple #[.agg #[.string (bs S), .int .i64 (p : Int), .int .i64 (0 : Int)], .int .i64 (n : Int)]) (by simp [results, Tryz.results105, go_sem, v0, v1, v2, v3]) rfl ⟨rfl, ?_⟩
          exact set3a hb2 _ _ _ _ _ (Nat.le_succ _)
    · have e1 : ∀ c, eS M c (S.drop a) = eU (S.drop a) := fun c => by unfold eS; rw [if_pos hU]
      have e2 : nS M (S.drop a) = 0 := by unfold nS; rw [e1, if_neg hU]
      rw [if_pos rfl, e1, e2, aP0 _ _ _ hU, show aE 0 (eU (S.drop a)) = eU (S.drop a) by rfl]
      rw [if_pos rfl, aP0 _ _ _ hU, show aE 0 (eU (S.drop a)) = eU (S.drop a) by rfl] at cU
      clear e1 e2 hS ha h1 h2
      generalize nU (S.drop a) = n at *
      generalize eU (S.drop a) = q at *
      have hd : ((q : Int) != 0) = true := by simpa using hU
      clear hU
      unfold rs at *
      go_enter Tryz.func105, Tryz.ntmps105
      go_wp2_with fail
      refine (cU _).mono ?_
      rintro e w1 ⟨rfl, hb⟩
      obtain ⟨V1, V2⟩ := vars2 hb
      have hb2 := Below.next (two w _ _) hb
      have V2k := V2
      obtain ⟨u0, u1, u2, u3, u4, u5, u6⟩ := V1
      obtain ⟨v0, v1, v2, v3, v4, v5, v6⟩ := V2
      go_wp2_with fail
      refine bodyPost_ret (v := .tuple #[.agg #[.string (bs S), .int .i64 (a : Int), .int .i64 (q : Int)], .int .i64 0]) (by simp [results, Tryz.results105, go_sem, v0, v1, v2, v3]) rfl ⟨rfl, ?_⟩
      exact set3a hb2 _ _ _ _ _ (Nat.le_succ _)
  · rw [if_neg he, aP1 _ _ _ he, aE1 _ he]
    rw [if_neg he, aP1 _ _ _ he, aE1 _ he] at cU
    have hd : ((e : Int) != 0) = true := by simpa using he
    clear hS ha h1 h2 he
    unfold rs at *
    go_enter Tryz.func105, Tryz.ntmps105
    go_wp2_with fail
    refine (cU _).mono ?_
    rintro e w1 ⟨rfl, hb⟩
    obtain ⟨V1, V2⟩ := vars2 hb
    have hb2 := Below.next (two w _ _) hb
    have V2k := V2
    obtain ⟨u0, u1, u2, u3, u4, u5, u6⟩ := V1
    obtain ⟨v0, v1, v2, v3, v4, v5, v6⟩ := V2
    go_wp2_with fail
    refine bodyPost_ret (v := .tuple #[.agg #[.string (bs S), .int .i64 (a : Int), .int .i64 (e : Int)], .int .i64 0]) (by simp [results, Tryz.results105, go_sem, v0, v1, v2, v3]) rfl ⟨rfl, ?_⟩
    exact set3a hb2 _ _ _ _ _ (Nat.le_succ _)
end Go.Proofs.YthfodpbecddheaaGreatDoor


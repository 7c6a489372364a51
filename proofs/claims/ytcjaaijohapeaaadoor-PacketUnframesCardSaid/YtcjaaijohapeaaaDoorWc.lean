/-
  Contracts of the functions that write: varints and zigzag numbers, the program's and the reference's. No conditions but Go's own bounds of a number and of a string's length.
-/
import Derived.Test.YtcjaaijohapeaaaDoorLb
import Derived.Test.YtcjaaijohapeaaaDoorSm
import Derived.Laws.BitsAllLaws
import Derived.Laws.DeepNot64
import Derived.WalkSmall
namespace Go.Proofs.YtcjaaijohapeaaaDoor
open Go.RowKit
theorem uv_len (k n : Nat) (h : n < 128 ^ (k + 1)) : (uv n).length ≤ k + 1 := by
  induction k generalizing n with
  | zero => rw [uv_small (by omega)]; exact Nat.le_refl _
  | succ k ih =>
    by_cases h1 : n < 128
    · rw [uv_small h1]; simp
    · rw [uv_big h1, List.length_cons]
      have := ih (n / 128) (by rw [Nat.pow_succ] at h; omega)
      omega
theorem uv_len10 {n : Nat} (h : n ≤ 18446744073709551615) : (uv n).length ≤ 10 := uv_len 9 n (by omega)
theorem uv_snoc_small {n m : Nat} {l : List UInt8} (h : uv n = l ++ uv m) (hm : m < 128) : uv n = l ++ [UInt8.ofNat m] := by rw [h, uv_small hm]
theorem uv_snoc_big {n m : Nat} {l : List UInt8} (h : uv n = l ++ uv m) (hm : ¬ m < 128) : uv n = (l ++ [UInt8.ofNat (128 + m % 128)]) ++ uv (m / 128) := by rw [h, uv_big hm]; simp
theorem uv_pre_len {n m : Nat} {l : List UInt8} (hn : n ≤ 18446744073709551615) (h : uv n = l ++ uv m) : l.length ≤ 9 := by
  have h1 := uv_len10 hn
  rw [h, List.length_append] at h1
  have h2 := List.length_pos_iff.2 (uv_ne m)
  omega
set_option maxRecDepth 100000 in
theorem or128 (m : Nat) : bits BinOp.or IntKind.u8 ((m : Int) % 256) 128 = ((128 + m % 128 : Nat) : Int) := by
  have key : ∀ b : Fin 256, bits BinOp.or IntKind.u8 ((b.val : Nat) : Int) 128 = ((128 + b.val % 128 : Nat) : Int) := by decide
  have := key ⟨m % 256, by omega⟩
  rw [show ((m : Int) % 256) = ((m % 256 : Nat) : Int) by omega, this]
  simp only
  congr 2
  omega
set_option maxRecDepth 100000 in
set_option maxHeartbeats 1000000 in
theorem uint_any (n : Nat) (w : World)  (h1 : n ≤ 18446744073709551615) :
    Calls Tryd.prog 27 #[.int .u64 (n : Int)] w (Ib (.string (bs (uv n))) w) := by
  go_enter Tryd.func27, Tryd.ntmps27
  go_wp2_with fail
  have HN := Lib.hid h1
  go_loopw [0, 3] (fun u v wr => ∃ (m : Nat) (l : List UInt8), m ≤ 18446744073709551615 ∧ u = .int .u64 (m : Int) ∧ Ow w.heap.size wr v l ∧ Below w.heap.size w wr ∧ Hid (uv n = l ++ uv m)) (fun u _ _ => (intOf u).toNat)
  case atStart => exact ⟨n, [], h1, rfl, Ow.nil _ _, Below.refl _ _, Lib.hid rfl⟩
  case round =>
    obtain ⟨m, l, hm, rfl, ho, hb, hI⟩ := hrel
    have hll := uv_pre_len HN.out hI.out
    have hbs := hb.size
    clear h1
    by_cases h : m < 128
    · have E := Lib.hid (uv_snoc_small hI.out h)
      have e : (UInt8.ofNat m).toNat = m := of_toNat (by omega)
      go_wp2_with (at_builtin; refine wpList_push rfl (.tmp 14) (.tmp 17) rfl w.heap.size u3 l (UInt8.ofNat m) _ 1 rfl rfl (ho.other (one _ _)) (by rw [e]; simp) (by omega) (by simp; omega) ?_; intro v' w' ho' hg'; have hs' := ho'.str (by simp))
      go_ret
      refine ⟨congrArg (fun l => Ending.returned (.string (bs l))) E.out.symm, (hb.alloc hbs _).grown hg' (by simp; omega) ?_⟩
      intro k hk
      exact (ho.lt k hk).1
    · have E := Lib.hid (uv_snoc_big hI.out h)
      obtain ⟨d, hd⟩ : ∃ d, 128 + m % 128 = d := ⟨_, rfl⟩
      obtain ⟨q, hq⟩ : ∃ q, m / 128 = q := ⟨_, rfl⟩
      have e : (UInt8.ofNat d).toNat = d := of_toNat (by omega)
      have k1 := or128 m
      rw [hd] at k1 E
      rw [hq] at E
      have k2 : (m : Int) / 128 = (q : Int) := by omega
      have hql : q < m := by omega
      clear hd hq hI
      go_wp2_with (at_builtin; refine wpList_push rfl (.tmp 6) (.tmp 10) rfl w.heap.size u3 l (UInt8.ofNat d) _ 1 rfl rfl (ho.other (one _ _)) (by rw [e]; simp) (by omega) (by simp; omega) ?_; intro v' w' ho' hg')
      go_roundw
      case rel => exact ⟨q, _, by omega, rfl, ho', (hb.alloc hbs _).grown hg' (by simp; omega) (fun k hk => (ho.lt k hk).1), E⟩
      case measure => simp [intOf]; omega
set_option maxRecDepth 100000 in
set_option maxHeartbeats 1000000 in
theorem refUint_any (n : Nat) (w : World)  (h1 : n ≤ 18446744073709551615) :
    Calls Tryd.prog 75 #[.int .u64 (n : Int)] w (Ib (.string (bs (uv n))) w) := by
  have hn0 : (⟨#[]⟩ : ByteArray) = bs [] := rfl
  go_enter Tryd.func75, Tryd.ntmps75
  go_wp2_with fail
  clear hn0
  have HN := Lib.hid h1
  go_loopw [0, 3] (fun u v wr => ∃ (m : Nat) (l : List UInt8), m ≤ 18446744073709551615 ∧ u = .int .u64 (m : Int) ∧ v = .string (bs l) ∧ Below w.heap.size w wr ∧ Hid (uv n = l ++ uv m)) (fun u _ _ => (intOf u).toNat)
  case atStart => exact ⟨n, [], h1, rfl, rfl, Below.refl _ _, Lib.hid rfl⟩
  case round =>
    obtain ⟨m, l, hm, rfl, rfl, hb, hI⟩ := hrel
    have hll := uv_pre_len HN.out hI.out
    have hbs := hb.size
    have hsz : (bs l).size ≤ 9 := hll
    clear h1
    by_cases h : m < 128
    · have E := Lib.hid (uv_snoc_small hI.out h)
      have k1 := str1 wr m (by omega)
      have k2 : bs l ++ bs [UInt8.ofNat m] = bs (l ++ [UInt8.ofNat m]) := bs_append _ _
      have k3 : (bs [UInt8.ofNat m]).size = 1 := rfl
      go_wp2_with fail
      go_ret
      exact ⟨congrArg (fun l => Ending.returned (.string l)) (k2.trans (congrArg bs E.out.symm)), hb.alloc hbs _⟩
    · have E := Lib.hid (uv_snoc_big hI.out h)
      obtain ⟨d, hd⟩ : ∃ d, 128 + m % 128 = d := ⟨_, rfl⟩
      obtain ⟨q, hq⟩ : ∃ q, m / 128 = q := ⟨_, rfl⟩
      rw [hd] at E
      rw [hq] at E
      have k0 : (128 : Int) + (m : Int) % 128 = (d : Int) := by omega
      have k2 : (m : Int) / 128 = (q : Int) := by omega
      have hql : q < m := by omega
      have hd2 : d < 256 := by omega
      have k1 := str1 wr d hd2
      have k4 : IntKind.u8.wrap (d : Int) = (d : Int) := by rw [IntKind.wrap_u8']; omega
      have k3 : (bs [UInt8.ofNat d]).size = 1 := rfl
      clear hd hq hI
      go_wp2_with fail
      go_roundw
      case rel => exact ⟨q, _, by omega, rfl, congrArg Value.string (bs_append _ _), hb.alloc hbs _, E⟩
      case measure => simp [intOf]; omega
/-- The zigzag number. -/
def zz (n : Int) : Nat := if n < 0 then (-2 * n - 1).toNat else (2 * n).toNat
theorem zz_le {n : Int} (h1 : -9223372036854775808 ≤ n) (h2 : n ≤ 9223372036854775807) : zz n ≤ 18446744073709551615 := by unfold zz; split <;> omega
theorem xor_ones (x : Nat) (h : x < 18446744073709551616) : x ^^^ 18446744073709551615 = 18446744073709551615 - x := by
  have e : (BitVec.ofNat 64 x ^^^ BitVec.allOnes 64).toNat = (~~~ BitVec.ofNat 64 x).toNat := by rw [BitVec.xor_allOnes]
  rw [BitVec.toNat_xor, BitVec.toNat_not, BitVec.toNat_ofNat, BitVec.toNat_allOnes, Nat.mod_eq_of_lt h] at e
  exact e
theorem zig_bits (n : Int) (h1 : -9223372036854775808 ≤ n) (h2 : n ≤ 9223372036854775807) :
    bits BinOp.xor IntKind.u64 (IntKind.u64.wrap (IntKind.u64.wrap n * 2)) (IntKind.u64.wrap (n / 9223372036854775808)) = (zz n : Int) := by
  unfold zz
  by_cases h : n < 0
  · rw [if_pos h, show n / 9223372036854775808 = -1 by omega, show IntKind.u64.wrap (-1) = ((18446744073709551615 : Nat) : Int) by rfl]
    rw [show IntKind.u64.wrap (IntKind.u64.wrap n * 2) = (((2 * n + 18446744073709551616).toNat : Nat) : Int) by simp only [IntKind.wrap_u64]; omega]
    rw [u64_xor_nat _ _ (by omega) (by omega), xor_ones _ (by omega)]
    omega
  · rw [if_neg h, show n / 9223372036854775808 = 0 by omega, show IntKind.u64.wrap 0 = ((0 : Nat) : Int) by rfl]
    rw [show IntKind.u64.wrap (IntKind.u64.wrap n * 2) = (((2 * n).toNat : Nat) : Int) by simp only [IntKind.wrap_u64]; omega]
    rw [u64_xor_nat _ _ (by omega) (by omega), Nat.xor_zero]
/-- The integer with a zigzag number. -/
def uz (n : Nat) : Int := if n % 2 = 1 then -1 - (n / 2 : Nat) else (n / 2 : Nat)
theorem uz_zz (n : Int) : uz (zz n) = n := by unfold uz zz; split <;> split <;> omega
theorem zz_uz (n : Nat) : zz (uz n) = n := by unfold uz zz; split <;> split <;> omega
/-- The bytes of a string with its length in front. -/
def tv (l : List UInt8) : List UInt8 := uv l.length ++ l
set_option maxRecDepth 100000 in
theorem textW_any (l : List UInt8) (w : World) (h : l.length ≤ 100000) :
    Calls Tryd.prog 31 #[.string (bs l)] w (Ib (.string (bs (tv l))) w) := by
  have c2 := fun w => uint_any l.length w (by omega)
  have k1 : bs (uv l.length) ++ bs l = bs (tv l) := bs_append _ _
  have k2 : (bs (uv l.length)).size ≤ 10 := uv_len10 (by omega)
  have k3 : (bs l).size = l.length := rfl
  go_enter Tryd.func31, Tryd.ntmps31
  go_wp2_with fail
  refine (c2 _).mono ?_
  rintro e w' ⟨rfl, hb⟩
  go_wp2_with fail
  go_ret
  exact ⟨rfl, hb⟩
set_option maxRecDepth 100000 in
theorem refText_any (l : List UInt8) (w : World) (h : l.length ≤ 100000) :
    Calls Tryd.prog 42 #[.string (bs l)] w (Ib (.string (bs (tv l))) w) := by
  have c2 := fun w => refUint_any l.length w (by omega)
  have k1 : bs (uv l.length) ++ bs l = bs (tv l) := bs_append _ _
  have k2 : (bs (uv l.length)).size ≤ 10 := uv_len10 (by omega)
  have k3 : (bs l).size = l.length := rfl
  go_enter Tryd.func42, Tryd.ntmps42
  go_wp2_with fail
  refine (c2 _).mono ?_
  rintro e w' ⟨rfl, hb⟩
  go_wp2_with fail
  go_ret
  exact ⟨rfl, hb⟩
end Go.Proofs.YtcjaaijohapeaaaDoor

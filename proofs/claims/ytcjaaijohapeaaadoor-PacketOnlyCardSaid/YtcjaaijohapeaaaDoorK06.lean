/-
  What a row's proof needs behind the walk: the law returned true and nothing that was there has changed. No conditions.
-/
import Derived.Test.YtcjaaijohapeaaaDoorRows
import Derived.WalkKit
import Derived.ProofKit
import Derived.OpenShut
import Derived.Lay
import Derived.Test.YtcjaaijohapeaaaDoorK02
import Derived.Test.YtcjaaijohapeaaaDoorK01
import Derived.Laws.BitsAllLaws
import Derived.Laws.DeepNot64
import Derived.WalkSmall
namespace Go.Proofs.YtcjaaijohapeaaaDoor
open Go.ChangeShapes Go.WideShapes Go.ChangeAt Go.RowKit
theorem post_true {H : Type} {enc : TypeId × Value → H} {f : Func} {s : ChangeSpec} {W W' : World} {args : Array Value} {ds : List (DataW H)} {before pa : List MemPlace} (hs : s.vars = []) (hrt : f.resultTypes = #[4])
    (hW : DataW.Whole enc Tryd.prog f.params.toList s.vars false W args.toList ds [] before) (hres : (s.fn H (ds ++ [])).results = [.lit (.bool true)]) (hvs : (s.fn H (ds ++ [])).vars = [])
    (hargs : DataW.TrodAll enc Tryd.prog W' 0 (fun b => decide (b < W.heap.size)) true f.params.toList args.toList (s.fn H (ds ++ [])).args pa) (hb : Below W.heap.size W W') :
    s.post enc Tryd.prog f false true false false W args (.bool true) W' := by
  refine ⟨ds, [], before, [], pa, [], hW, ?_, hargs, ?_, hb.frame _, fun h => by cases h⟩
  · rw [hres, hrt]
    exact trodAll_mk1 (shut_bool Tryd.underlying4 _)
  · rw [hs, hvs]
    rfl
end Go.Proofs.YtcjaaijohapeaaaDoor
/-
  Contracts of the functions that write: varints and zigzag numbers, the program's and the reference's. No conditions but Go's own bounds of a number and of a string's length.
-/
namespace Go.Proofs.YtcjaaijohapeaaaDoor
open Go.RowKit
theorem uv_len (k n : Nat) (h : n < 128 ^ (k + 1)) : (uv n).length ≤ k + 1 := by
  induction k generalizing n with
  | zero => rw [uv_small (by omega)]; exact Nat.le_refl _
  | succ k ih =>
    by_cases h1 : n < 128
    · rw [uv_small h1]; simp
    · rw [uv_big h1, List.length_cons]
      have := ih (n / 128) (by rw [Nat.pow_succ] at h; omega)
      omega
theorem uv_len10 {n : Nat} (h : n ≤ 18446744073709551615) : (uv n).length ≤ 10 := uv_len 9 n (by omega)
theorem uv_snoc_small {n m : Nat} {l : List UInt8} (h : uv n = l ++ uv m) (hm : m < 128) : uv n = l ++ [UInt8.ofNat m] := by rw [h, uv_small hm]
theorem uv_snoc_big {n m : Nat} {l : List UInt8} (h : uv n = l ++ uv m) (hm : ¬ m < 128) : uv n = (l ++ [UInt8.ofNat (128 + m % 128)]) ++ uv (m / 128) := by rw [h, uv_big hm]; simp
theorem uv_pre_len {n m : Nat} {l : List UInt8} (hn : n ≤ 18446744073709551615) (h : uv n = l ++ uv m) : l.length ≤ 9 := by
  have h1 := uv_len10 hn
  rw [h, List.length_append] at h1
  have h2 := List.length_pos_iff.2 (uv_ne m)
  omega
set_option maxRecDepth 100000 in
theorem or128 (m : Nat) : bits BinOp.or IntKind.u8 ((m : Int) % 256) 128 = ((128 + m % 128 : Nat) : Int) := by
  have key : ∀ b : Fin 256, bits BinOp.or IntKind.u8 ((b.val : Nat) : Int) 128 = ((128 + b.val % 128 : Nat) : Int) := by decide
  have := key ⟨m % 256, by omega⟩
  rw [show ((m : Int) % 256) = ((m % 256 : Nat) : Int) by omega, this]
  simp only
  congr 2
  omega
set_option maxRecDepth 100000 in
set_option maxHeartbeats 1000000 in
theorem uint_any (n : Nat) (w : World)  (h1 : n ≤ 18446744073709551615) :
    Calls Tryd.prog 27 #[.int .u64 (n : Int)] w (Ib (.string (bs (uv n))) w) := by
  go_enter Tryd.func27, Tryd.ntmps27
  go_wp2_with fail
  have HN := Lib.hid h1
  go_loopw [0, 3] (fun u v wr => ∃ (m : Nat) (l : List UInt8), m ≤ 18446744073709551615 ∧ u = .int .u64 (m : Int) ∧ Ow w.heap.size wr v l ∧ Below w.heap.size w wr ∧ Hid (uv n = l ++ uv m)) (fun u _ _ => (intOf u).toNat)
  case atStart => exact ⟨n, [], h1, rfl, Ow.nil _ _, Below.refl _ _, Lib.hid rfl⟩
  case round =>
    obtain ⟨m, l, hm, rfl, ho, hb, hI⟩ := hrel
    have hll := uv_pre_len HN.out hI.out
    have hbs := hb.size
    clear h1
    by_cases h : m < 128
    · have E := Lib.hid (uv_snoc_small hI.out h)
      have e : (UInt8.ofNat m).toNat = m := of_toNat (by omega)
      go_wp2_with (at_builtin; refine wpList_push rfl (.tmp 14) (.tmp 17) rfl w.heap.size u3 l (UInt8.ofNat m) _ 1 rfl rfl (ho.other (one _ _)) (by rw [e]; simp) (by omega) (by simp; omega) ?_; intro v' w' ho' hg'; have hs' := ho'.str (by simp))
      go_ret
      refine ⟨congrArg (fun l => Ending.returned (.string (bs l))) E.out.symm, (hb.alloc hbs _).grown hg' (by simp; omega) ?_⟩
      intro k hk
      exact (ho.lt k hk).1
    · have E := Lib.hid (uv_snoc_big hI.out h)
      obtain ⟨d, hd⟩ : ∃ d, 128 + m % 128 = d := ⟨_, rfl⟩
      obtain ⟨q, hq⟩ : ∃ q, m / 128 = q := ⟨_, rfl⟩
      have e : (UInt8.ofNat d).toNat = d := of_toNat (by omega)
      have k1 := or128 m
      rw [hd] at k1 E
      rw [hq] at E
      have k2 : (m : Int) / 128 = (q : Int) := by omega
      have hql : q < m := by omega
      clear hd hq hI
      go_wp2_with (at_builtin; refine wpList_push rfl (.tmp 6) (.tmp 10) rfl w.heap.size u3 l (UInt8.ofNat d) _ 1 rfl rfl (ho.other (one _ _)) (by rw [e]; simp) (by omega) (by simp; omega) ?_; intro v' w' ho' hg')
      go_roundw
      case rel => exact ⟨q, _, by omega, rfl, ho', (hb.alloc hbs _).grown hg' (by simp; omega) (fun k hk => (ho.lt k hk).1), E⟩
      case measure => simp [intOf]; omega
set_option maxRecDepth 100000 in
set_option maxHeartbeats 1000000 in
theorem refUint_any (n : Nat) (w : World)  (h1 : n ≤ 18446744073709551615) :
    Calls Tryd.prog 75 #[.int .u64 (n : Int)] w (Ib (.string (bs (uv n))) w) := by
  have hn0 : (⟨#[]⟩ : ByteArray) = bs [] := rfl
  go_enter Tryd.func75, Tryd.ntmps75
  go_wp2_with fail
  clear hn0
  have HN := Lib.hid h1
  go_loopw [0, 3] (fun u v wr => ∃ (m : Nat) (l : List UInt8), m ≤ 18446744073709551615 ∧ u = .int .u64 (m : Int) ∧ v = .string (bs l) ∧ Below w.heap.size w wr ∧ Hid (uv n = l ++ uv m)) (fun u _ _ => (intOf u).toNat)
  case atStart => exact ⟨n, [], h1, rfl, rfl, Below.refl _ _, Lib.hid rfl⟩
  case round =>
    obtain ⟨m, l, hm, rfl, rfl, hb, hI⟩ := hrel
    have hll := uv_pre_len HN.out hI.out
    have hbs := hb.size
    have hsz : (bs l).size ≤ 9 := hll
    clear h1
    by_cases h : m < 128
    · have E := Lib.hid (uv_snoc_small hI.out h)
      have k1 := str1 wr m (by omega)
      have k2 : bs l ++ bs [UInt8.ofNat m] = bs (l ++ [UInt8.ofNat m]) := bs_append _ _
      have k3 : (bs [UInt8.ofNat m]).size = 1 := rfl
      go_wp2_with fail
      go_ret
      exact ⟨congrArg (fun l => Ending.returned (.string l)) (k2.trans (congrArg bs E.out.symm)), hb.alloc hbs _⟩
    · have E := Lib.hid (uv_snoc_big hI.out h)
      obtain ⟨d, hd⟩ : ∃ d, 128 + m % 128 = d := ⟨_, rfl⟩
      obtain ⟨q, hq⟩ : ∃ q, m / 128 = q := ⟨_, rfl⟩
      rw [hd] at E
      rw [hq] at E
      have k0 : (128 : Int) + (m : Int) % 128 = (d : Int) := by omega
      have k2 : (m : Int) / 128 = (q : Int) := by omega
      have hql : q < m := by omega
      have hd2 : d < 256 := by omega
      have k1 := str1 wr d hd2
      have k4 : IntKind.u8.wrap (d : Int) = (d : Int) := by rw [IntKind.wrap_u8']; omega
      have k3 : (bs [UInt8.ofNat d]).size = 1 := rfl
      clear hd hq hI
      go_wp2_with fail
      go_roundw
      case rel => exact ⟨q, _, by omega, rfl, congrArg Value.string (bs_append _ _), hb.alloc hbs _, E⟩
      case measure => simp [intOf]; omega
/-- The zigzag number. -/
def zz (n : Int) : Nat := if n < 0 then (-2 * n - 1).toNat else (2 * n).toNat
theorem zz_le {n : Int} (h1 : -9223372036854775808 ≤ n) (h2 : n ≤ 9223372036854775807) : zz n ≤ 18446744073709551615 := by unfold zz; split <;> omega
theorem xor_ones (x : Nat) (h : x < 18446744073709551616) : x ^^^ 18446744073709551615 = 18446744073709551615 - x := by
  have e : (BitVec.ofNat 64 x ^^^ BitVec.allOnes 64).toNat = (~~~ BitVec.ofNat 64 x).toNat := by rw [BitVec.xor_allOnes]
  rw [BitVec.toNat_xor, BitVec.toNat_not, BitVec.toNat_ofNat, BitVec.toNat_allOnes, Nat.mod_eq_of_lt h] at e
  exact e
theorem zig_bits (n : Int) (h1 : -9223372036854775808 ≤ n) (h2 : n ≤ 9223372036854775807) :
    bits BinOp.xor IntKind.u64 (IntKind.u64.wrap (IntKind.u64.wrap n * 2)) (IntKind.u64.wrap (n / 9223372036854775808)) = (zz n : Int) := by
  unfold zz
  by_cases h : n < 0
  · rw [if_pos h, show n / 9223372036854775808 = -1 by omega, show IntKind.u64.wrap (-1) = ((18446744073709551615 : Nat) : Int) by rfl]
    rw [show IntKind.u64.wrap (IntKind.u64.wrap n * 2) = (((2 * n + 18446744073709551616).toNat : Nat) : Int) by simp only [IntKind.wrap_u64]; omega]
    rw [u64_xor_nat _ _ (by omega) (by omega), xor_ones _ (by omega)]
    omega
  · rw [if_neg h, show n / 9223372036854775808 = 0 by omega, show IntKind.u64.wrap 0 = ((0 : Nat) : Int) by rfl]
    rw [show IntKind.u64.wrap (IntKind.u64.wrap n * 2) = (((2 * n).toNat : Nat) : Int) by simp only [IntKind.wrap_u64]; omega]
    rw [u64_xor_nat _ _ (by omega) (by omega), Nat.xor_zero]
/-- The integer with a zigzag number. -/
def uz (n : Nat) : Int := if n % 2 = 1 then -1 - (n / 2 : Nat) else (n / 2 : Nat)
theorem uz_zz (n : Int) : uz (zz n) = n := by unfold uz zz; split <;> split <;> omega
theorem zz_uz (n : Nat) : zz (uz n) = n := by unfold uz zz; split <;> split <;> omega
/-- The bytes of a string with its length in front. -/
def tv (l : List UInt8) : List UInt8 := uv l.length ++ l
set_option maxRecDepth 100000 in
theorem textW_any (l : List UInt8) (w : World) (h : l.length ≤ 100000) :
    Calls Tryd.prog 31 #[.string (bs l)] w (Ib (.string (bs (tv l))) w) := by
  have c2 := fun w => uint_any l.length w (by omega)
  have k1 : bs (uv l.length) ++ bs l = bs (tv l) := bs_append _ _
  have k2 : (bs (uv l.length)).size ≤ 10 := uv_len10 (by omega)
  have k3 : (bs l).size = l.length := rfl
  go_enter Tryd.func31, Tryd.ntmps31
  go_wp2_with fail
  refine (c2 _).mono ?_
  rintro e w' ⟨rfl, hb⟩
  go_wp2_with fail
  go_ret
  exact ⟨rfl, hb⟩
set_option maxRecDepth 100000 in
theorem refText_any (l : List UInt8) (w : World) (h : l.length ≤ 100000) :
    Calls Tryd.prog 42 #[.string (bs l)] w (Ib (.string (bs (tv l))) w) := by
  have c2 := fun w => refUint_any l.length w (by omega)
  have k1 : bs (uv l.length) ++ bs l = bs (tv l) := bs_append _ _
  have k2 : (bs (uv l.length)).size ≤ 10 := uv_len10 (by omega)
  have k3 : (bs l).size = l.length := rfl
  go_enter Tryd.func42, Tryd.ntmps42
  go_wp2_with fail
  refine (c2 _).mono ?_
  rintro e w' ⟨rfl, hb⟩
  go_wp2_with fail
  go_ret
  exact ⟨rfl, hb⟩
end Go.Proofs.YtcjaaijohapeaaaDoor
/-
  Reading a varint: the mathematics, and the contracts of the program's and of the reference's function. No conditions but Go's own bound of a string's length.
-/
namespace Go.Proofs.YtcjaaijohapeaaaDoor
open Go.RowKit
/-- Reading a varint from byte i on, with n read so far: the number, the bytes, the error. -/
def dv : Nat → Nat → List UInt8 → Nat × Nat × Nat
  | _, _, [] => (0, 0, 1)
  | i, n, b :: r =>
    if i = 9 ∧ 1 < b.toNat then (0, 0, 2)
    else if 128 ≤ b.toNat then dv (i + 1) (n + b.toNat % 128 * 128 ^ i) r
    else if b.toNat = 0 ∧ 0 < i then (0, 0, 2)
    else (n + b.toNat % 128 * 128 ^ i, i + 1, 0)
theorem dv_at (i n : Nat) (l : List UInt8) (h : i < l.length) : dv i n (l.drop i) =
    if i = 9 ∧ 1 < l[i].toNat then (0, 0, 2)
    else if 128 ≤ l[i].toNat then dv (i + 1) (n + l[i].toNat % 128 * 128 ^ i) (l.drop (i + 1))
    else if l[i].toNat = 0 ∧ 0 < i then (0, 0, 2)
    else (n + l[i].toNat % 128 * 128 ^ i, i + 1, 0) := by
  rw [List.drop_eq_getElem_cons h, dv]
theorem dv_end (i n : Nat) (l : List UInt8) (h : i = l.length) : dv i n (l.drop i) = (0, 0, 1) := by
  rw [h, List.drop_length, dv]
theorem andNot128 (c : Nat) (h : c < 256) : bits BinOp.andNot IntKind.u8 (c : Int) 128 = ((c % 128 : Nat) : Int) := by
  rw [show (128 : Int) = ((128 : Nat) : Int) by rfl, u8_andNot_nat c 128 h (by decide), show 255 - 128 = 2 ^ 7 - 1 by rfl, Nat.and_two_pow_sub_one_eq_mod]
theorem and128 (c : Nat) (h : c < 256) : bits BinOp.and IntKind.u8 (c : Int) 128 = ((c / 128 * 128 : Nat) : Int) := by
  have key : ∀ b : Fin 256, (b.val &&& 128) = b.val / 128 * 128 := by decide +kernel
  rw [show (128 : Int) = ((128 : Nat) : Int) by rfl, u8_and_nat c 128 h (by decide)]
  exact congrArg _ (key ⟨c, h⟩)
theorem or_add (n m i : Nat) (h : n < 128 ^ i) (hm : m < 128) (hi : i ≤ 9) (h9 : i = 9 → m ≤ 1) : bits BinOp.or IntKind.u64 (n : Int) ((m * 128 ^ i : Nat) : Int) = ((n + m * 128 ^ i : Nat) : Int) := by
  have e : 128 ^ i = 2 ^ (7 * i) := by rw [Nat.pow_mul]
  have b1 : 128 ^ i ≤ 128 ^ 9 := Nat.pow_le_pow_right (by decide) hi
  have b2 : m * 128 ^ i < 18446744073709551616 := by
    rcases Nat.lt_or_ge i 9 with h8 | h8
    · have := Nat.mul_lt_mul_of_lt_of_le hm (Nat.pow_le_pow_right (n := 128) (by decide) (show i ≤ 8 by omega)) (by decide)
      omega
    · have := Nat.mul_le_mul (h9 (by omega)) b1
      omega
  rw [u64_or_nat _ _ (by omega) b2]
  congr 1
  rw [e] at h ⊢
  rw [Nat.or_comm, Nat.mul_comm, ← Nat.two_pow_add_eq_or_of_lt h]
  omega
theorem or_lt (n m i : Nat) (h : n < 128 ^ i) (hm : m < 128) (hi : i ≤ 9) (h9 : i = 9 → m ≤ 1) : n + m * 128 ^ i < 18446744073709551616 := by
  rcases Nat.lt_or_ge i 9 with h8 | h8
  · have b1 : 128 ^ (i + 1) ≤ 128 ^ 9 := Nat.pow_le_pow_right (by decide) h8
    have := Nat.mul_le_mul_right (128 ^ i) (show m ≤ 127 by omega)
    rw [Nat.pow_succ] at b1
    omega
  · obtain rfl : i = 9 := by omega
    have := Nat.mul_le_mul_right (128 ^ 9) (h9 rfl)
    omega
theorem or_lt2 (n m i : Nat) (h : n < 128 ^ i) (hm : m < 128) : n + m * 128 ^ i < 128 ^ (i + 1) := by
  have := Nat.mul_le_mul_right (128 ^ i) (show m ≤ 127 by omega)
  rw [Nat.pow_succ]
  omega
theorem nilR {l : List UInt8} {k e : Nat} {R : ByteArray} (h : bs (if e = 0 then l.drop k else []) = R) (he : e ≠ 0) : (⟨#[]⟩ : ByteArray) = R := by rw [if_neg he] at h; exact h
theorem Nat.pow_mul_eq (i : Nat) : 128 ^ i = 2 ^ (7 * i) := by rw [Nat.pow_mul]
set_option maxRecDepth 100000 in
set_option maxHeartbeats 1000000 in
theorem cutVarint_any (l : List UInt8) (w : World) (x k e : Nat) (R : ByteArray) (hl : l.length ≤ 9223372036854775807) (h : dv 0 0 l = (x, k, e)) (hR : bs (if e = 0 then l.drop k else []) = R) :
    Calls Tryd.prog 90 #[.string (bs l)] w (Iq (.tuple #[.int .u64 (x : Int), .string R, .int .i64 (e : Int)]) w) := by
  have hsz : (bs l).size = l.length := rfl
  have HR := Lib.hid hR
  clear hR
  go_enter Tryd.func90, Tryd.ntmps90
  go_wp2_with fail
  go_loop [2, 9] (fun u v => ∃ i n : Nat, i ≤ 9 ∧ v = .int .i64 (i : Int) ∧ u = .int .u64 (n : Int) ∧ i ≤ l.length ∧ Hid (n < 128 ^ i ∧ dv i n (l.drop i) = (x, k, e))) (fun _ v => l.length - (intOf v).toNat)
  case atStart => exact ⟨0, 0, by omega, rfl, rfl, by omega, Lib.hid ⟨by decide, h⟩⟩
  case round =>
    obtain ⟨i, n, hi, rfl, rfl, hil, hI⟩ := hrel
    by_cases hlt : i < l.length
    · obtain ⟨c, hc2⟩ : ∃ c, (l[i]'hlt).toNat = c := ⟨_, rfl⟩
      have hc3 : c < 256 := by rw [← hc2]; exact UInt8.toNat_lt _
      have E := hI.out.2
      rw [dv_at i n l hlt, hc2] at E
      have hlt2 : i < (bs l).size := hlt
      have hc : ((bs l)[i]'hlt2).toNat = c := hc2
      have hb := hI.out.1
      obtain ⟨m, hm⟩ : ∃ m, c % 128 = m := ⟨_, rfl⟩
      obtain ⟨y, hy⟩ : ∃ y, m * 128 ^ i = y := ⟨_, rfl⟩
      obtain ⟨s, hs⟩ : ∃ s, n + y = s := ⟨_, rfl⟩
      have h9 : (((i : Int) == 9) = true ∧ Hid (i = 9)) ∨ (((i : Int) == 9) = false ∧ Hid (i < 9)) := by
        by_cases h : i = 9
        · exact .inl ⟨by simp; omega, Lib.hid h⟩
        · exact .inr ⟨by simp; omega, Lib.hid (by omega)⟩
      have k0 : IntKind.u64.wrap (m : Int) = (m : Int) := by rw [IntKind.wrap_u64]; omega
      have k1 : bits BinOp.andNot IntKind.u8 (c : Int) 128 = (m : Int) := by rw [← hm]; exact andNot128 c hc3
      have k23 : (i = 9 → c ≤ 1) → IntKind.u64.wrap ((m : Int) * 2 ^ (7 * i)) = (y : Int) ∧ bits BinOp.or IntKind.u64 (n : Int) (y : Int) = (s : Int) := fun h => by
        have h3 := or_add n m i hb (by omega) hi (fun h1 => by have := h h1; omega)
        have h4 := or_lt n m i hb (by omega) hi (fun h1 => by have := h h1; omega)
        rw [hy] at h3 h4
        rw [hs] at h3
        refine ⟨?_, h3⟩
        rw [show (m : Int) * 2 ^ (7 * i) = (y : Int) by rw [← hy, Nat.pow_mul_eq i]; simp, IntKind.wrap_u64]
        omega
      rw [hm, hy, hs] at E
      by_cases hA : i = 9 ∧ 1 < c
      · rw [if_pos hA] at E
        cases E
        obtain ⟨hA1, hA2⟩ := hA
        have d1 : decide ((1 : Int) < (c : Int)) = true := by simp; omega
        have d9 : ((i : Int) == 9) = true := by simp; omega
        clear h9 k1 k23 hm hy hs hA1 hb hI
        have Z := nilR HR.out (by decide)
        go_wp2_with fail
        go_ret3
        exact ⟨0, rfl, rfl⟩
      · rw [if_neg hA] at E
        obtain ⟨k2, k3⟩ := k23 (fun h => by omega)
        have hA2 : ((i : Int) == 9) = false ∨ (((i : Int) == 9) = true ∧ decide ((1 : Int) < (c : Int)) = false) := by
          by_cases h : i = 9
          · exact .inr ⟨by simp; omega, by simp; omega⟩
          · exact .inl (by simp; omega)
        have hb2 := Lib.hid (show s < 128 ^ (i + 1) from by rw [← hs, ← hy]; exact or_lt2 n m i hb (by omega))
        clear k23 hb hI h9
        by_cases hB : 128 ≤ c
        · rw [if_pos hB] at E
          have d9 : ((i : Int) == 9) = false := by rcases hA2 with h | h; exact h; have h2 := h.2; simp at h2; omega
          have k4 : bits BinOp.and IntKind.u8 (c : Int) 128 = 128 := by rw [and128 c hc3]; omega
          have hi9 : i + 1 ≤ 9 := by simp at d9; omega
          have E2 := Lib.hid (And.intro hb2.out E)
          clear hm hy hs hA hA2 hB hc2 E hb2
          go_wp2_with fail
          go_round
          case rel => exact ⟨i + 1, s, hi9, by go_num, rfl, by omega, E2⟩
          case measure => simp [intOf]; omega
        · rw [if_neg hB] at E
          have k4 : bits BinOp.and IntKind.u8 (c : Int) 128 = 0 := by rw [and128 c hc3]; omega
          by_cases hC : c = 0 ∧ 0 < i
          · rw [if_pos hC] at E
            cases E
            have dz : ((c : Int) == 0) = true := by simp; omega
            have dz2 : (c = 0) = True := by simp; omega
            have d0 : (0 < i) = True := by simp; omega
            have Z := nilR HR.out (by decide)
            clear hm hy hs hA hC hB hc2 hb2 HR h
            rcases hA2 with d9 | ⟨d9, d1⟩
            all_goals
              go_wp2_with fail
              go_ret3
              exact ⟨0, rfl, rfl⟩
          · rw [if_neg hC] at E
            cases E
            have hC2 : (c = 0) = False ∨ ((c = 0) = True ∧ (0 < i) = False) := by
              by_cases h : c = 0
              · exact .inr ⟨by simp; omega, by simp; omega⟩
              · exact .inl (by simp; omega)
            have Z : (bs l).extract (i + 1) l.length = R := by
              have := HR.out
              rw [if_pos rfl] at this
              rw [← this]
              exact bs_drop _ _ _ (Nat.le_refl _)
            have hi1 : i + 1 ≤ l.length := hlt
            clear hm hy hs hA hC hB hc2 hb2 HR h
            rcases hA2 with d9 | ⟨d9, d1⟩ <;> rcases hC2 with dz | ⟨dz, d0⟩
            all_goals
              go_wp2_with fail
              go_quiet (fail)
              go_wp2_with fail
              go_ret3
              exact ⟨_, rfl, rfl⟩
    · obtain rfl : i = l.length := by omega
      have E := hI.out.2
      rw [dv_end _ _ _ rfl] at E
      cases E
      have Z := nilR HR.out (by decide)
      clear HR h hI
      go_wp2_with fail
      go_ret3
      exact ⟨0, rfl, rfl⟩
end Go.Proofs.YtcjaaijohapeaaaDoor
/-
  Reading a varint: the reference's function. No conditions but Go's own bound of a string's length.
-/
namespace Go.Proofs.YtcjaaijohapeaaaDoor
open Go.RowKit
theorem dv_at2 (i n j : Nat) (l : List UInt8) (h : j < l.length) : dv i n (l.drop j) =
    if i = 9 ∧ 1 < l[j].toNat then (0, 0, 2)
    else if 128 ≤ l[j].toNat then dv (i + 1) (n + l[j].toNat % 128 * 128 ^ i) (l.drop (j + 1))
    else if l[j].toNat = 0 ∧ 0 < i then (0, 0, 2)
    else (n + l[j].toNat % 128 * 128 ^ i, i + 1, 0) := by
  rw [List.drop_eq_getElem_cons h, dv]
theorem pow9 {i : Nat} (h : i ≤ 9) : 128 ^ i ≤ 9223372036854775808 := Nat.le_trans (Nat.pow_le_pow_right (by decide) h) (by decide)
set_option maxRecDepth 100000 in
set_option maxHeartbeats 1000000 in
theorem varint_any (l : List UInt8) (w : World) (a x k e : Nat) (hl : l.length ≤ 9223372036854775000) (ha : a ≤ l.length) (h : dv 0 0 (l.drop a) = (x, k, e)) :
    Calls Tryd.prog 93 #[.string (bs l), .int .i64 (a : Int)] w (Is (.tuple #[.int .u64 (x : Int), .int .i64 ((a + k : Nat) : Int), .int .i64 (e : Int)]) w) := by
  have hsz : (bs l).size = l.length := rfl
  go_enter Tryd.func93, Tryd.ntmps93
  go_wp2_with fail
  go_loop [7, 8, 9] (fun u g v => ∃ i n c : Nat, i ≤ 9 ∧ v = .int .i64 (i : Int) ∧ u = .int .u64 (n : Int) ∧ g = .int .u64 (c : Int) ∧ a + i ≤ l.length ∧ Hid (n < 128 ^ i ∧ dv i n (l.drop (a + i)) = (x, k, e) ∧ c = 128 ^ i)) (fun _ _ v => 10 - (intOf v).toNat)
  case atStart => exact ⟨0, 0, 1, by omega, rfl, rfl, rfl, by omega, Lib.hid ⟨by decide, h, rfl⟩⟩
  case round =>
    obtain ⟨i, n, g, hi, rfl, rfl, rfl, hil, hI⟩ := hrel
    obtain ⟨j, hj⟩ : ∃ j, a + i = j := ⟨_, rfl⟩
    have l0 : IntKind.i64.wrap ((a : Int) + (i : Int)) = (j : Int) := by rw [show (a : Int) + (i : Int) = (j : Int) by omega]; exact IntWalk.i64_in _ (by omega)
    have l00 : (a : Int) + (i : Int) = (j : Int) := by omega
    have hb := hI.out.1
    have E := hI.out.2.1
    have hg := hI.out.2.2
    rw [hj] at E hil
    clear h hI
    by_cases hlt : j < l.length
    · obtain ⟨c, hc2⟩ : ∃ c, (l[j]'hlt).toNat = c := ⟨_, rfl⟩
      have hc3 : c < 256 := by rw [← hc2]; exact UInt8.toNat_lt _
      rw [dv_at2 i n j l hlt, hc2] at E
      have hlt2 : j < (bs l).size := hlt
      have hc : ((bs l)[j]'hlt2).toNat = c := hc2
      clear hc2
      obtain ⟨m, hm⟩ : ∃ m, c % 128 = m := ⟨_, rfl⟩
      obtain ⟨y, hy⟩ : ∃ y, m * 128 ^ i = y := ⟨_, rfl⟩
      obtain ⟨s, hs⟩ : ∃ s, n + y = s := ⟨_, rfl⟩
      have k1 : (c : Int) % 128 = (m : Int) := by omega
      have k23 : (i = 9 → c ≤ 1) → IntKind.u64.wrap ((m : Int) * (g : Int)) = (y : Int) ∧ IntKind.u64.wrap ((n : Int) + (y : Int)) = (s : Int) := fun h => by
        have h4 := or_lt n m i hb (by omega) hi (fun h1 => by have := h h1; omega)
        rw [hy] at h4
        rw [← Int.natCast_mul, hg, hy, IntKind.wrap_u64, ← Int.natCast_add, hs, IntKind.wrap_u64]
        omega
      rw [hm, hy, hs] at E
      by_cases hA : i = 9 ∧ 1 < c
      · rw [if_pos hA] at E
        cases E
        obtain ⟨hA1, hA2⟩ := hA
        have d1 : decide ((1 : Int) < (c : Int)) = true := by simp; omega
        have d9 : ((i : Int) == 9) = true := by simp; omega
        clear k1 k23 hm hy hs hA1 hb hg
        go_wp2_with fail
        go_ret3
        exact ⟨rfl, rfl⟩
      · rw [if_neg hA] at E
        obtain ⟨k2, k3⟩ := k23 (fun h => by omega)
        have hA2 : ((i : Int) == 9) = false ∨ (((i : Int) == 9) = true ∧ decide ((1 : Int) < (c : Int)) = false) := by
          by_cases h : i = 9
          · exact .inr ⟨by simp; omega, by simp; omega⟩
          · exact .inl (by simp; omega)
        have hb2 := Lib.hid (show s < 128 ^ (i + 1) from by rw [← hs, ← hy]; exact or_lt2 n m i hb (by omega))
        obtain ⟨g2, hg2⟩ : ∃ g2 : Nat, IntKind.u64.wrap ((g : Int) * 128) = (g2 : Int) := ⟨(IntKind.u64.wrap ((g : Int) * 128)).toNat, by simp only [IntKind.wrap_u64]; omega⟩
        have HG : i + 1 ≤ 9 → Hid (g2 = 128 ^ (i + 1)) := fun h9 => Lib.hid (by
          have := pow9 h9
          rw [Nat.pow_succ, ← hg] at this
          rw [Nat.pow_succ, ← hg]
          rw [IntKind.wrap_u64] at hg2
          omega)
        have hj1 : j + 1 ≤ l.length := hlt
        clear k23 hb hg
        by_cases hB : 128 ≤ c
        · rw [if_pos hB] at E
          have d9 : ((i : Int) == 9) = false := by rcases hA2 with h | h; exact h; have h2 := h.2; simp at h2; omega
          have hi9 : i + 1 ≤ 9 := by simp at d9; omega
          have HG2 := HG hi9
          have E2 := Lib.hid (And.intro hb2.out (And.intro (show dv (i + 1) s (l.drop (a + (i + 1))) = (x, k, e) by rw [show a + (i + 1) = j + 1 by omega]; exact E) HG2.out))
          have hB2 : decide ((c : Int) < 128) = false := by simp; omega
          clear hm hy hs hA hA2 hB E hb2 HG HG2
          go_wp2_with fail
          go_round
          case rel => exact ⟨i + 1, s, g2, hi9, by go_num, rfl, rfl, by omega, E2⟩
          case measure => simp [intOf]; omega
        · rw [if_neg hB] at E
          have hB2 : decide ((c : Int) < 128) = true := by simp; omega
          by_cases hC : c = 0 ∧ 0 < i
          · rw [if_pos hC] at E
            cases E
            have dz : ((c : Int) == 0) = true := by simp; omega
            have dz2 : (c = 0) = True := by simp; omega
            have d0 : (0 < i) = True := by simp; omega
            clear hm hy hs hA hC hB hb2 HG
            rcases hA2 with d9 | ⟨d9, d1⟩
            all_goals
              go_wp2_with fail
              go_ret3
              exact ⟨rfl, rfl⟩
          · rw [if_neg hC] at E
            cases E
            have hC2 : (c = 0) = False ∨ ((c = 0) = True ∧ (0 < i) = False) := by
              by_cases h : c = 0
              · exact .inr ⟨by simp; omega, by simp; omega⟩
              · exact .inl (by simp; omega)
            obtain ⟨f, hf⟩ : ∃ f, a + (i + 1) = f := ⟨_, rfl⟩
            rw [hf]
            have l1 : IntKind.i64.wrap ((j : Int) + 1) = (f : Int) := by rw [show (j : Int) + 1 = (f : Int) by omega]; exact IntWalk.i64_in _ (by omega)
            have l11 : (j : Int) + 1 = (f : Int) := by omega
            clear hm hy hs hA hC hB hb2 HG
            rcases hA2 with d9 | ⟨d9, d1⟩ <;> rcases hC2 with dz | ⟨dz, d0⟩
            all_goals
              go_wp2_with fail
              go_ret3
              exact ⟨rfl, rfl⟩
    · obtain rfl : j = l.length := by omega
      rw [List.drop_length, dv] at E
      cases E
      clear hb hg hj
      have hi10 : i < 10 := by omega
      go_wp2_with fail
      go_ret3
      exact ⟨rfl, rfl⟩
end Go.Proofs.YtcjaaijohapeaaaDoor

/-
  Contracts of Bits, Div32 and divideByDigit. Conditions: slices of at most 900 digits.
-/
import Derived.Test.YtaiceebhifecbaaDoorT10
namespace Go.Proofs.YtaiceebhifecbaaDoor
open Go.RowKit
namespace Nm
theorem pow_two (k : Nat) : 4294967296 ^ k = 2 ^ (32 * k) := by
  rw [Nat.pow_mul]
theorem blen_top {a d k : Nat} (ha : a < 4294967296 ^ k) (hd : 0 < d) : blen (a + 4294967296 ^ k * d) = 32 * k + blen d := by
  rw [pow_two] at *
  have hp : 0 < 2 ^ (32 * k) := Nat.pow_pos (by omega)
  have hge : 2 ^ (32 * k) * 1 ≤ 2 ^ (32 * k) * d := Nat.mul_le_mul_left _ hd
  have h1 := Nat.log2_self_le (n := d) (by omega)
  have h2 := Nat.lt_log2_self (n := d)
  have h3 : (a + 2 ^ (32 * k) * d).log2 = 32 * k + d.log2 := by
    rw [Nat.log2_eq_iff (by omega), Nat.pow_add, Nat.add_assoc, Nat.pow_add 2 (32 * k)]
    constructor
    · have := Nat.mul_le_mul_left (2 ^ (32 * k)) h1
      omega
    · have : 2 ^ (32 * k) * (d + 1) ≤ 2 ^ (32 * k) * 2 ^ (d.log2 + 1) := Nat.mul_le_mul_left _ h2
      rw [Nat.mul_add] at this
      omega
  unfold blen
  rw [if_neg (by omega), if_neg (by omega), h3]
  omega
end Nm
set_option maxHeartbeats 400000 in
theorem bits_any (A : Option Addr) (c : Nat) (xs : List Nat) (w : World) (hx : Rd w A xs) (hxd : Nm.Dig xs) (hc : xs.length ≤ c) (hm : xs.length ≤ 900) :
    Calls Tryd.prog 23 #[nt A xs.length c] w fun e w' => e = .returned (.int .i64 (Nm.blen (Nm.val xs))) ∧ Below w.heap.size w w' := by
  have hx' := hx.alloc (Obj.cells #[Value.slice A xs.length c] 24)
  have htx := Nm.tlen_le xs
  obtain ⟨m, hmx⟩ : ∃ m, Nm.tlen xs = m := ⟨_, rfl⟩
  have Hmx := Lib.hid hmx
  rcases Nat.eq_zero_or_pos m with h0 | h0
  · subst h0
    have hv : (Nm.blen (Nm.val xs)) = 0 := by
      have := Nm.val_tlen xs
      rw [hmx] at this
      rw [← this]; rfl
    rw [hv]
    clear hv hmx
    go_enter Tryd.func23, Tryd.ntmps23
    go_wp2_with fail
    refine (trim_n hx' hc (by omega) Hmx).mono ?_
    rintro e w1 ⟨rfl, rfl⟩
    go_wp2_with fail
    go_ret
    exact ⟨rfl, one _ _⟩
  · obtain ⟨k, rfl⟩ : ∃ k, m = k + 1 := ⟨m - 1, by omega⟩
    have hk : k < xs.length := by omega
    obtain ⟨g, off, hA, hr⟩ := hx'.at_ hk
    have c1 := hr k hk
    obtain ⟨x, hxk⟩ : ∃ x, xs[k] = x := ⟨_, rfl⟩
    rw [hxk] at c1
    have hxlt : x < 4294967296 := by rw [← hxk]; exact hxd.at_ hk
    have hv : 32 * k + Nm.blen x = Nm.blen (Nm.val xs) := by
      rw [← Nm.val_tlen xs, hmx, Nm.val_take_succ xs k hk, hxk]
      have h1 := Nm.val_lt (hxd.take k)
      rw [List.length_take, Nat.min_eq_left (by omega)] at h1
      rw [Nm.blen_top h1]
      have := Nm.tlen_last xs k hmx hk
      omega
    rw [← hv]
    have hbl := Nm.blen_lt (x := x) (k := 32) (by omega)
    have hb0 : ((↑(k + 1) : Int) == 0) = false := digit_ne (by omega)
    have ix := fun W => index32 W g off (k + 1) (k + 1) k (((k + 1 : Nat) : Int) - 1) (by omega) (by omega)
    clear hv hmx hxk hr
    subst hA
    go_enter Tryd.func23, Tryd.ntmps23
    go_wp2_with fail
    refine (trim_n hx' hc (by omega) Hmx).mono ?_
    rintro e w1 ⟨rfl, rfl⟩
    go_wp2_with fail
    refine (len32_any x _ hxlt).mono ?_
    rintro e w1 ⟨rfl, rfl⟩
    go_wp2_with fail
    go_ret
    exact ⟨ret_int (by simp), one _ _⟩
set_option maxHeartbeats 400000 in
theorem div32_any (h l y : Nat) (w : World) (hh : h < y) (hl : l < 4294967296) (hy : y < 4294967296) :
    Calls Tryd.prog 64 #[.int .u32 h, .int .u32 l, .int .u32 y] w fun e w' => ∃ q r n : Nat, e = .returned (.tuple #[.int .u32 q, .int .u32 r]) ∧ Hid (h * 4294967296 + l = q * y + r ∧ r < y ∧ q < 4294967296) ∧ w' = w.drewN n := by
  obtain ⟨N, hN⟩ : ∃ N, h * 4294967296 + l = N := ⟨_, rfl⟩
  have hor : bits .or .u64 ((h : Int) * 4294967296) (l : Int) = (N : Int) := by
    have := u64_or_nat (h * 4294967296) l (by omega) (by omega)
    rw [show ((h : Int) * 4294967296) = ((h * 4294967296 : Nat) : Int) from by omega, this, ← hN]
    have h2 := Nat.shiftLeft_add_eq_or_of_lt (b := l) (i := 32) (by omega) h
    rw [Nat.shiftLeft_eq] at h2
    rw [← h2]
  have hq : N / y < 4294967296 := by
    rw [Nat.div_lt_iff_lt_mul (by omega)]
    omega
  have hr : N % y < y := Nat.mod_lt _ (by omega)
  have hdm := Nat.div_add_mod N y
  have hqi : ((N : Int) / (y : Int)) = ((N / y : Nat) : Int) := by simp
  have hri : ((N : Int) % (y : Int)) = ((N % y : Nat) : Int) := by simp
  have hy0 : 0 < (y : Int) := by omega
  have hb1 : ((y : Int) != 0) = true := by rw [bne_iff_ne]; omega
  have HN := Lib.hid hN
  have Hq := Lib.hid hqi
  have Hr := Lib.hid hri
  have HD := Lib.hid hdm
  have hN64 : N < 18446744073709551616 := by omega
  clear hN hqi hri hdm
  go_enter Tryd.func64, Tryd.ntmps64
  go_wp2_with fail
  go_quiet (fail)
  go_wp2_with fail
  go_ret2
  refine ⟨N / y, N % y, nq, ?_, ?_, rfl⟩
  · have hw : IntKind.u64.wrap ((N : Int) / (y : Int)) % 4294967296 = ((N / y : Nat) : Int) := by
      rw [Hq.out, IntKind.wrap_u64]
      generalize N / y = Z at hq
      omega
    rw [← Hr.out, ← hw]
    rfl
  · show _ ∧ _ ∧ _
    refine ⟨?_, hr, hq⟩
    rw [HN.out, Nat.mul_comm]
    exact HD.out.symm

namespace Nm
theorem val_drop (zs : List Nat) (i : Nat) (h : i < zs.length) : val (zs.drop i) = zs[i] + 4294967296 * val (zs.drop (i + 1)) := by
  rw [List.drop_eq_getElem_cons h]
  rfl
theorem div_step {rs zs : List Nat} {i x q r r' y : Nat} (h1 : i < rs.length) (h2 : i < zs.length) (hx : zs[i] = x) (h : val (rs.drop (i + 1)) * y + r = val (zs.drop (i + 1))) (hq : r * 4294967296 + x = q * y + r') :
    val ((rs.set i q).drop i) * y + r' = val (zs.drop i) := by
  rw [val_drop _ i (by simpa using h1), val_drop zs i h2, hx, ← h, List.drop_set_of_lt (by omega)]
  simp only [List.getElem_set_self, Nat.add_mul, Nat.mul_add, Nat.mul_assoc]
  omega
end Nm
set_option maxHeartbeats 400000 in
theorem divideByDigit_any (g off c y : Nat) (zs : List Nat) (w : World) (ho : Own w g off zs) (hzd : Nm.Dig zs) (hm : zs.length ≤ 1000) (hy0 : 0 < y) (hy : y < 4294967296) :
    Calls Tryd.prog 54 #[.slice (some ⟨g, off, none⟩) zs.length c, .int .u32 y] w fun e w' => ∃ (rs : List Nat) (r : Nat), e = .returned (.int .u32 r) ∧ Hid (rs.length = zs.length) ∧ Nm.Dig rs ∧ r < y ∧ Hid (Nm.val rs * y + r = Nm.val zs) ∧ Wr w w' g off rs := by
  obtain ⟨n, hn⟩ : ∃ n, zs.length = n := ⟨_, rfl⟩
  rw [hn]
  have Hn := Lib.hid hn
  rw [hn] at hm
  clear hn
  go_enter Tryd.func54, Tryd.ntmps54
  go_wp2_with fail
  go_loopw [5, 10] (fun r i wr => ∃ (k p : Nat) (rs : List Nat), k ≤ n ∧ i = .int .i64 k ∧ r = .int .u32 p ∧ p < y ∧ Hid (rs.length = n) ∧ Nm.Dig rs ∧ Hid (∀ j, j < n - k → rs[j]? = zs[j]?) ∧ Hid (Nm.val (rs.drop (n - k)) * y + p = Nm.val (zs.drop (n - k))) ∧ Wr w wr g off rs) (fun _ i _ => n - (intOf i).toNat)
  case atStart => exact ⟨0, 0, zs, Nat.zero_le _, rfl, rfl, hy0, Hn.out, hzd, fun _ _ => rfl, by show _ = _; rw [Nat.sub_zero, ← Hn.out, List.drop_length]; simp [Nm.val], Wr.refl ho⟩
  case round =>
    obtain ⟨k, p, rs, hk, rfl, rfl, hp, hl, hrd, hrest, hv, hw⟩ := hrel
    by_cases hlt : k < n
    · obtain ⟨i, hi⟩ : ∃ i, n = i + 1 + k := ⟨n - 1 - k, by omega⟩
      have hir : i < rs.length := by rw [hl.out]; omega
      have hiz : i < zs.length := by rw [Hn.out]; omega
      have c1 := hw.own.1 i hir
      have f1 := hw.own.2 i hir
      obtain ⟨x, hx⟩ : ∃ x, rs[i] = x := ⟨_, rfl⟩
      rw [hx] at c1
      have hxlt : x < 4294967296 := by rw [← hx]; exact hrd.at_ hir
      have hzk : zs[i] = x := by
        have := hrest.out i (by omega)
        rw [List.getElem?_eq_getElem hir, List.getElem?_eq_getElem hiz] at this
        injection this with this
        rw [← this, hx]
      have Hzk := Lib.hid hzk
      have hv' := hv.out
      rw [show n - k = i + 1 from by omega] at hv'
      have Hv := Lib.hid hv'
      have Hi := Lib.hid hi
      have ix := fun V => index32 V g off n c i ((n : Int) - 1 - (k : Int)) (by omega) (by omega)
      have hin : i < n := by omega
      have hplt : p < 4294967296 := by omega
      clear hx hzk hv' hi
      go_wp2_with fail
      refine (div32_any p x y _ hp hxlt hy).mono ?_
      rintro e w2 ⟨q, r, nd, rfl, hq, rfl⟩
      have hw2 := (hw.drewN nd).set i hir q
      have hr := hq.out.2.1
      have hqlt := hq.out.2.2
      go_wp2_with fail
      go_roundw
      case rel =>
        refine ⟨k + 1, r, rs.set i q, by omega, by go_num, rfl, hr, ?_, hrd.set i hqlt, ?_, ?_, hw2⟩
        · show _ = _
          rw [List.length_set]; exact hl.out
        · intro j hj
          rw [List.getElem?_set_ne (by have := Hi.out; omega)]
          exact hrest.out j (by omega)
        · show _ = _
          rw [show n - (k + 1) = i from by have := Hi.out; omega]
          exact Nm.div_step hir hiz Hzk.out Hv.out hq.out.1
      case measure => simp [intOf]; omega
    · go_wp2_with fail
      go_ret
      refine ⟨rs, p, rfl, hl, hrd, hp, ?_, hw⟩
      have h1 := hv.out
      rw [show n - k = 0 from by omega, List.drop_zero, List.drop_zero] at h1
      exact h1
end Go.Proofs.YtaiceebhifecbaaDoor

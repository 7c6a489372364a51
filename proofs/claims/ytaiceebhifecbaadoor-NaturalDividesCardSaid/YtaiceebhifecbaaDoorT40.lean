/-
  Contracts of LeadingZeros32 and subtractTimes. Conditions: slices of at most 1000 digits; the row that is written lies outside the other.
-/
import Derived.Test.YtaiceebhifecbaaDoorT31
namespace Go.Proofs.YtaiceebhifecbaaDoor
open Go.RowKit
set_option maxHeartbeats 400000 in
theorem zeros32_any (x : Nat) (w : World) (hx : x < 4294967296) :
    Calls Tryd.prog 69 #[.int .u32 x] w fun e w' => e = .returned (.int .i64 ((32 - Nm.blen x : Nat) : Int)) ∧ w = w' := by
  have hb := Nm.blen_lt (x := x) (k := 32) (by omega)
  go_enter Tryd.func69, Tryd.ntmps69
  go_wp2_with fail
  refine (len32_any x _ hx).mono ?_
  rintro e w1 ⟨rfl, rfl⟩
  go_wp2_with fail
  go_ret
  exact ⟨ret_int (by omega), rfl⟩
namespace Nm
theorem sub_step {rs zs ys : List Nat} {k x D f p c o s o' : Nat} (h1 : k < rs.length) (h2 : k < zs.length) (h3 : k < ys.length) (hx : zs[k] = x) (hD : ys[k] = D) (hp : D * f = p)
    (hv : val (rs.take k) + f * val (ys.take k) = val (zs.take k) + 4294967296 ^ k * (c + o)) (hs : s + (c + p) % 4294967296 + o = x + 4294967296 * o') :
    val ((rs.set k s).take (k + 1)) + f * val (ys.take (k + 1)) = val (zs.take (k + 1)) + 4294967296 ^ (k + 1) * ((c + p) / 4294967296 + o') := by
  have e1 := val_take_succ (rs.set k s) k (by simpa using h1)
  rw [take_set_other] at e1
  simp only [List.getElem_set_self] at e1
  have e2 := val_take_succ zs k h2
  have e3 := val_take_succ ys k h3
  rw [e1, e2, e3, hx, hD, Nat.pow_succ, Nat.mul_assoc]
  have e4 : s + p + (c + o) = x + 4294967296 * ((c + p) / 4294967296 + o') := by omega
  have e5 := congrArg (fun t => 4294967296 ^ k * t) e4
  have e6 : f * (val (ys.take k) + 4294967296 ^ k * D) = f * val (ys.take k) + 4294967296 ^ k * p := by
    rw [Nat.mul_add, ← hp, Nat.mul_left_comm, Nat.mul_comm f D]
  rw [e6]
  simp only [Nat.mul_add] at e5 hv ⊢
  omega
theorem sub_last {rs zs ys : List Nat} {n x f c o s o' : Nat} (h1 : rs.length = n + 1) (h2 : zs.length = n + 1) (h3 : ys.length = n) (hx : zs[n]'(by omega) = x)
    (hv : val (rs.take n) + f * val (ys.take n) = val (zs.take n) + 4294967296 ^ n * (c + o)) (hs : s + c + o = x + 4294967296 * o') :
    val (rs.set n s) + f * val ys = val zs + 4294967296 ^ (n + 1) * o' := by
  have e1 := val_take_succ (rs.set n s) n (by simp; omega)
  rw [take_set_other, List.take_of_length_le (by simp; omega)] at e1
  simp only [List.getElem_set_self] at e1
  have e2 := val_take_succ zs n (by omega)
  rw [List.take_of_length_le (by omega)] at e2
  rw [List.take_of_length_le (by omega : ys.length ≤ n)] at hv
  rw [e1, e2, hx, Nat.pow_succ, Nat.mul_assoc]
  have e5 := congrArg (fun t => 4294967296 ^ n * t) hs
  simp only [Nat.mul_add] at e5 hv ⊢
  omega
end Nm
set_option maxHeartbeats 1000000 in
theorem subtractTimes_any (g off n c d f : Nat) (B : Option Addr) (zs ys : List Nat) (w : World) (ho : Own w g off zs) (hy : Rd w B ys) (hfar : Off g B ys) (hzd : Nm.Dig zs) (hyd : Nm.Dig ys) (hl0 : zs.length = n + 1) (hyl : ys.length = n) (hm : n ≤ 1000) (hf : f < 4294967296) :
    Calls Tryd.prog 77 #[.slice (some ⟨g, off, none⟩) (n + 1) c, .slice B n d, .int .u32 f] w fun e w' => ∃ (rs : List Nat) (o : Nat), e = .returned (.int .u32 o) ∧ Hid (rs.length = n + 1) ∧ Nm.Dig rs ∧ o ≤ 1 ∧ Hid (Nm.val rs + f * Nm.val ys = Nm.val zs + 4294967296 ^ (n + 1) * o) ∧ Wr w w' g off rs := by
  have HL := Lib.hid hl0
  have HY := Lib.hid hyl
  clear hl0 hyl
  go_enter Tryd.func77, Tryd.ntmps77
  go_wp2_with fail
  go_loopw [7, 8, 13] (fun cv bv iv wr => ∃ (k c o : Nat) (rs : List Nat), k ≤ n ∧ iv = .int .i64 k ∧ cv = .int .u64 c ∧ c < 4294967296 ∧ bv = .int .u32 o ∧ o ≤ 1 ∧ Hid (rs.length = n + 1) ∧ Nm.Dig rs ∧ Hid (∀ j, k ≤ j → rs[j]? = zs[j]?) ∧ Hid (Nm.val (rs.take k) + f * Nm.val (ys.take k) = Nm.val (zs.take k) + 4294967296 ^ k * (c + o)) ∧ Wr w wr g off rs) (fun _ _ i _ => n - (intOf i).toNat)
  case atStart => exact ⟨0, 0, 0, zs, Nat.zero_le _, rfl, rfl, by omega, rfl, Nat.zero_le _, HL.out, hzd, fun _ _ => rfl, by show _ = _; simp [Nm.val], Wr.refl ho⟩
  case round =>
    obtain ⟨k, cc, o, rs, hk, rfl, rfl, hcc, rfl, hco, hl, hrd, hrest, hv, hw⟩ := hrel
    have hkr : k < rs.length := by rw [hl.out]; omega
    have hkz : k < zs.length := by rw [HL.out]; omega
    have c1 := hw.own.1 k hkr
    have f1 := hw.own.2 k hkr
    obtain ⟨x, hx⟩ : ∃ x, rs[k] = x := ⟨_, rfl⟩
    rw [hx] at c1
    have hxlt : x < 4294967296 := by rw [← hx]; exact hrd.at_ hkr
    have hzk : zs[k] = x := by
      have := hrest.out k (Nat.le_refl _)
      rw [List.getElem?_eq_getElem hkr, List.getElem?_eq_getElem hkz] at this
      injection this with this
      rw [← this, hx]
    have Hzk := Lib.hid hzk
    clear hx hzk
    by_cases hlt : k < n
    · have hky : k < ys.length := by rw [HY.out]; exact hlt
      obtain ⟨g', off', hB, hr⟩ := (hy.wr hw hfar).at_ hky
      have c2 := hr k hky
      obtain ⟨D, hD⟩ : ∃ D, ys[k] = D := ⟨_, rfl⟩
      rw [hD] at c2
      have hDlt : D < 4294967296 := by rw [← hD]; exact hyd.at_ hky
      have HD := Lib.hid hD
      have hple := prod_le hDlt hf
      obtain ⟨p, hp⟩ : ∃ p, D * f = p := ⟨_, rfl⟩
      rw [hp] at hple
      have hpi : (D : Int) * (f : Int) = (p : Int) := by rw [← hp]; simp
      have HP := Lib.hid hp
      subst hB
      clear hr hD hp
      go_wp2_with fail
      have hmod : (((cc : Int) + (p : Int)) % 4294967296) = (((cc + p) % 4294967296 : Nat) : Int) := by omega
      rw [hmod]
      refine (sub32_any x ((cc + p) % 4294967296) o _ hxlt (by omega) hco).mono ?_
      rintro e w2 ⟨s, o', rfl, hs, rfl⟩
      have hstep := Nm.sub_step hkr hkz hky Hzk.out HD.out HP.out hv.out hs.out.1
      have Hstep := Lib.hid hstep
      have hwset := hw.set k hkr s
      have ho1 := hs.out.2.2
      clear hstep hmod
      go_wp2_with fail
      have hdiv : (((cc : Int) + (p : Int)) / 4294967296) = (((cc + p) / 4294967296 : Nat) : Int) := by omega
      go_roundw
      case rel =>
        refine ⟨k + 1, (cc + p) / 4294967296, o', rs.set k s, by omega, by go_num, by rw [hdiv], by omega, rfl, ho1, ?_, hrd.set k hs.out.2.1, ?_, Hstep, hwset⟩
        · show _ = _
          rw [List.length_set]; exact hl.out
        · intro j hj
          rw [List.getElem?_set_ne (by omega)]
          exact hrest.out j (by omega)
      case measure => simp [intOf]; omega
    · have hkn : k = n := by omega
      subst hkn
      go_wp2_with fail
      refine (sub32_any x cc o _ hxlt hcc hco).mono ?_
      rintro e w2 ⟨s, o', rfl, hs, rfl⟩
      have hlast := Nm.sub_last hl.out HL.out HY.out Hzk.out hv.out hs.out.1
      have Hlast := Lib.hid hlast
      have hwset := hw.set k hkr s
      have ho1 := hs.out.2.2
      clear hlast
      go_wp2_with fail
      go_ret
      refine ⟨rs.set k s, o', rfl, ?_, hrd.set k hs.out.2.1, ho1, Hlast, hwset⟩
      show _ = _
      rw [List.length_set]; exact hl.out
end Go.Proofs.YtaiceebhifecbaaDoor

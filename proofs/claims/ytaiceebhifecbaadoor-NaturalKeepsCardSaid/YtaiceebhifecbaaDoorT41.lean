/-
  Contract of estimate: the digit of the quotient, or one more. Conditions: a divisor of 2 to 1000 digits whose leading digit is at least 2^31; the part's leading digits are less than the divisor. Also: Contracts of LeadingZeros32 and subtractTimes. Conditions: slices of at most 1000 digits; the row that is written lies outside the other.
-/
import Derived.Test.YtaiceebhifecbaaDoorT31
namespace Go.Proofs.YtaiceebhifecbaaDoor
open Go.RowKit
set_option maxHeartbeats 400000 in
theorem zeros32_any (x : Nat) (w : World) (hx : x < 4294967296) :
    Calls Tryd.prog 69 #[.int .u32 x] w fun e w' => e = .returned (.int .i64 ((32 - Nm.blen x : Nat) : Int)) ∧ w = w' := by
  have hb := Nm.blen_lt (x := x) (k := 32) (by omega)
  go_enter Tryd.func69, Tryd.ntmps69
  go_wp2_with fail
  refine (len32_any x _ hx).mono ?_
  rintro e w1 ⟨rfl, rfl⟩
  go_wp2_with fail
  go_ret
  exact ⟨ret_int (by omega), rfl⟩
namespace Nm
theorem sub_step {rs zs ys : List Nat} {k x D f p c o s o' : Nat} (h1 : k < rs.length) (h2 : k < zs.length) (h3 : k < ys.length) (hx : zs[k] = x) (hD : ys[k] = D) (hp : D * f = p)
    (hv : val (rs.take k) + f * val (ys.take k) = val (zs.take k) + 4294967296 ^ k * (c + o)) (hs : s + (c + p) % 4294967296 + o = x + 4294967296 * o') :
    val ((rs.set k s).take (k + 1)) + f * val (ys.take (k + 1)) = val (zs.take (k + 1)) + 4294967296 ^ (k + 1) * ((c + p) / 4294967296 + o') := by
  have e1 := val_take_succ (rs.set k s) k (by simpa using h1)
  rw [take_set_other] at e1
  simp only [List.getElem_set_self] at e1
  have e2 := val_take_succ zs k h2
  have e3 := val_take_succ ys k h3
  rw [e1, e2, e3, hx, hD, Nat.pow_succ, Nat.mul_assoc]
  have e4 : s + p + (c + o) = x + 4294967296 * ((c + p) / 4294967296 + o') := by omega
  have e5 := congrArg (fun t => 4294967296 ^ k * t) e4
  have e6 : f * (val (ys.take k) + 4294967296 ^ k * D) = f * val (ys.take k) + 4294967296 ^ k * p := by
    rw [Nat.mul_add, ← hp, Nat.mul_left_comm, Nat.mul_comm f D]
  rw [e6]
  simp only [Nat.mul_add] at e5 hv ⊢
  omega
theorem sub_last {rs zs ys : List Nat} {n x f c o s o' : Nat} (h1 : rs.length = n + 1) (h2 : zs.length = n + 1) (h3 : ys.length = n) (hx : zs[n]'(by omega) = x)
    (hv : val (rs.take n) + f * val (ys.take n) = val (zs.take n) + 4294967296 ^ n * (c + o)) (hs : s + c + o = x + 4294967296 * o') :
    val (rs.set n s) + f * val ys = val zs + 4294967296 ^ (n + 1) * o' := by
  have e1 := val_take_succ (rs.set n s) n (by simp; omega)
  rw [take_set_other, List.take_of_length_le (by simp; omega)] at e1
  simp only [List.getElem_set_self] at e1
  have e2 := val_take_succ zs n (by omega)
  rw [List.take_of_length_le (by omega)] at e2
  rw [List.take_of_length_le (by omega : ys.length ≤ n)] at hv
  rw [e1, e2, hx, Nat.pow_succ, Nat.mul_assoc]
  have e5 := congrArg (fun t => 4294967296 ^ n * t) hs
  simp only [Nat.mul_add] at e5 hv ⊢
  omega
end Nm
set_option maxHeartbeats 1000000 in
theorem subtractTimes_any (g off n c d f : Nat) (B : Option Addr) (zs ys : List Nat) (w : World) (ho : Own w g off zs) (hy : Rd w B ys) (hfar : Off g B ys) (hzd : Nm.Dig zs) (hyd : Nm.Dig ys) (hl0 : zs.length = n + 1) (hyl : ys.length = n) (hm : n ≤ 1000) (hf : f < 4294967296) :
    Calls Tryd.prog 77 #[.slice (some ⟨g, off, none⟩) (n + 1) c, .slice B n d, .int .u32 f] w fun e w' => ∃ (rs : List Nat) (o : Nat), e = .returned (.int .u32 o) ∧ Hid (rs.length = n + 1) ∧ Nm.Dig rs ∧ o ≤ 1 ∧ Hid (Nm.val rs + f * Nm.val ys = Nm.val zs + 4294967296 ^ (n + 1) * o) ∧ Wr w w' g off rs := by
  have HL := Lib.hid hl0
  have HY := Lib.hid hyl
  clear hl0 hyl
  go_enter Tryd.func77, Tryd.ntmps77
  go_wp2_with fail
  go_loopw [7, 8, 13] (fun cv bv iv wr => ∃ (k c o : Nat) (rs : List Nat), k ≤ n ∧ iv = .int .i64 k ∧ cv = .int .u64 c ∧ c < 4294967296 ∧ bv = .int .u32 o ∧ o ≤ 1 ∧ Hid (rs.length = n + 1) ∧ Nm.Dig rs ∧ Hid (∀ j, k ≤ j → rs[j]? = zs[j]?) ∧ Hid (Nm.val (rs.take k) + f * Nm.val (ys.take k) = Nm.val (zs.take k) + 4294967296 ^ k * (c + o)) ∧ Wr w wr g off rs) (fun _ _ i _ => n - (intOf i).toNat)
  case atStart => exact ⟨0, 0, 0, zs, Nat.zero_le _, rfl, rfl, by omega, rfl, Nat.zero_le _, HL.out, hzd, fun _ _ => rfl, by show _ = _; simp [Nm.val], Wr.refl ho⟩
  case round =>
    obtain ⟨k, cc, o, rs, hk, rfl, rfl, hcc, rfl, hco, hl, hrd, hrest, hv, hw⟩ := hrel
    have hkr : k < rs.length := by rw [hl.out]; omega
    have hkz : k < zs.length := by rw [HL.out]; omega
    have c1 := hw.own.1 k hkr
    have f1 := hw.own.2 k hkr
    obtain ⟨x, hx⟩ : ∃ x, rs[k] = x := ⟨_, rfl⟩
    rw [hx] at c1
    have hxlt : x < 4294967296 := by rw [← hx]; exact hrd.at_ hkr
    have hzk : zs[k] = x := by
      have := hrest.out k (Nat.le_refl _)
      rw [List.getElem?_eq_getElem hkr, List.getElem?_eq_getElem hkz] at this
      injection this with this
      rw [← this, hx]
    have Hzk := Lib.hid hzk
    clear hx hzk
    by_cases hlt : k < n
    · have hky : k < ys.length := by rw [HY.out]; exact hlt
      obtain ⟨g', off', hB, hr⟩ := (hy.wr hw hfar).at_ hky
      have c2 := hr k hky
      obtain ⟨D, hD⟩ : ∃ D, ys[k] = D := ⟨_, rfl⟩
      rw [hD] at c2
      have hDlt : D < 4294967296 := by rw [← hD]; exact hyd.at_ hky
      have HD := Lib.hid hD
      have hple := prod_le hDlt hf
      obtain ⟨p, hp⟩ : ∃ p, D * f = p := ⟨_, rfl⟩
      rw [hp] at hple
      have hpi : (D : Int) * (f : Int) = (p : Int) := by rw [← hp]; simp
      have HP := Lib.hid hp
      subst hB
      clear hr hD hp
      go_wp2_with fail
      have hmod : (((cc : Int) + (p : Int)) % 4294967296) = (((cc + p) % 4294967296 : Nat) : Int) := by omega
      rw [hmod]
      refine (sub32_any x ((cc + p) % 4294967296) o _ hxlt (by omega) hco).mono ?_
      rintro e w2 ⟨s, o', rfl, hs, rfl⟩
      have hstep := Nm.sub_step hkr hkz hky Hzk.out HD.out HP.out hv.out hs.out.1
      have Hstep := Lib.hid hstep
      have hwset := hw.set k hkr s
      have ho1 := hs.out.2.2
      clear hstep hmod
      go_wp2_with fail
      have hdiv : (((cc : Int) + (p : Int)) / 4294967296) = (((cc + p) / 4294967296 : Nat) : Int) := by omega
      go_roundw
      case rel =>
        refine ⟨k + 1, (cc + p) / 4294967296, o', rs.set k s, by omega, by go_num, by rw [hdiv], by omega, rfl, ho1, ?_, hrd.set k hs.out.2.1, ?_, Hstep, hwset⟩
        · show _ = _
          rw [List.length_set]; exact hl.out
        · intro j hj
          rw [List.getElem?_set_ne (by omega)]
          exact hrest.out j (by omega)
      case measure => simp [intOf]; omega
    · have hkn : k = n := by omega
      subst hkn
      go_wp2_with fail
      refine (sub32_any x cc o _ hxlt hcc hco).mono ?_
      rintro e w2 ⟨s, o', rfl, hs, rfl⟩
      have hlast := Nm.sub_last hl.out HL.out HY.out Hzk.out hv.out hs.out.1
      have Hlast := Lib.hid hlast
      have hwset := hw.set k hkr s
      have ho1 := hs.out.2.2
      clear hlast
      go_wp2_with fail
      go_ret
      refine ⟨rs.set k s, o', rfl, ?_, hrd.set k hs.out.2.1, ho1, Hlast, hwset⟩
      show _ = _
      rw [List.length_set]; exact hl.out
end Go.Proofs.YtaiceebhifecbaaDoor
namespace Go.Proofs.YtaiceebhifecbaaDoor
open Go.RowKit
namespace Nm
theorem est_up {U V P U3 V2 ul vl Q : Nat} (hU : U = U3 * P + ul) (hul : ul < P) (hV : V = V2 * P + vl) (hQ : Q * V ≤ U) : Q * V2 ≤ U3 := by
  rcases Nat.lt_or_ge U3 (Q * V2) with h | h
  · exfalso
    have h1 := Nat.mul_le_mul_right P (Nat.succ_le_of_lt h)
    have h2 : Q * (V2 * P) ≤ Q * V := Nat.mul_le_mul_left Q (by omega)
    rw [← Nat.mul_assoc] at h2
    rw [Nat.succ_mul] at h1
    omega
  · exact h
theorem est_le {U V P U3 V2 ul vl Q q : Nat} (hU : U = U3 * P + ul) (hV : V = V2 * P + vl) (hvl : vl < P) (hq : q * V2 ≤ U3) (hlt : U < (Q + 1) * V) (hb : q ≤ V2) : q ≤ Q + 1 := by
  rcases Nat.lt_or_ge (Q + 1) q with h | h
  · exfalso
    obtain ⟨t, rfl⟩ : ∃ t, q = t + 1 := ⟨q - 1, by omega⟩
    have h1 : (Q + 1) * V ≤ t * V := Nat.mul_le_mul_right V (by omega)
    have h2 : t * V ≤ t * ((V2 + 1) * P) := Nat.mul_le_mul_left t (by rw [Nat.succ_mul]; omega)
    have h3 := Nat.mul_le_mul_right P hq
    have h4 : t * ((V2 + 1) * P) = t * V2 * P + t * P := by rw [← Nat.mul_assoc, Nat.mul_succ, Nat.add_mul]
    have h5 : (t + 1) * V2 * P = t * V2 * P + V2 * P := by rw [Nat.succ_mul, Nat.add_mul]
    have h6 : t * P ≤ V2 * P := Nat.mul_le_mul_right P (by omega)
    omega
  · exact h
theorem est_lead {U V P a b e L N ul vl : Nat} (hU : U = ((a * 4294967296 + b) * 4294967296 + e) * P + ul) (hV : V = (L * 4294967296 + N) * P + vl) (hvl : vl < P) (hN : N < 4294967296) (h : U < 4294967296 * V) : a ≤ L := by
  rcases Nat.lt_or_ge L a with h1 | h1
  · exfalso
    have h2 : 4294967296 * V < 4294967296 * ((L * 4294967296 + N + 1) * P) := by
      have : V < (L * 4294967296 + N + 1) * P := by rw [hV, Nat.succ_mul]; omega
      omega
    have h3 : (4294967296 * (L * 4294967296 + N + 1)) * P ≤ ((a * 4294967296 + b) * 4294967296 + e) * P := Nat.mul_le_mul_right P (by omega)
    rw [Nat.mul_assoc] at h3
    omega
  · exact h1
theorem est_init {T L N e Q : Nat} (hL : 0 < L) (he : e < 4294967296) (h : Q * (L * 4294967296 + N) ≤ T * 4294967296 + e) : Q ≤ T / L := by
  rw [Nat.le_div_iff_mul_le hL]
  have h1 : Q * (L * 4294967296) ≤ Q * (L * 4294967296 + N) := Nat.mul_le_mul_left Q (by omega)
  rw [← Nat.mul_assoc] at h1
  omega
theorem est_more {T L N e Q q r : Nat} (h : Q * (L * 4294967296 + N) ≤ T * 4294967296 + e) (hr : q * L + r = T) (hq : r * 4294967296 + e < q * N) : Q < q := by
  rcases Nat.lt_or_ge Q q with h1 | h1
  · exact h1
  · exfalso
    have h2 : q * (L * 4294967296 + N) ≤ Q * (L * 4294967296 + N) := Nat.mul_le_mul_right _ h1
    rw [Nat.mul_add, ← Nat.mul_assoc] at h2
    omega
theorem est_done {T L N e q r : Nat} (hr : q * L + r = T) (hq : q * N ≤ r * 4294967296 + e) : q * (L * 4294967296 + N) ≤ T * 4294967296 + e := by
  rw [Nat.mul_add, ← Nat.mul_assoc]
  omega
theorem est_big {T L N e q r : Nat} (hr : q * L + r = T) (hr2 : 4294967296 ≤ r) (hq : q ≤ 4294967295) (hN : N < 4294967296) : q * (L * 4294967296 + N) ≤ T * 4294967296 + e := by
  have h1 : q * N ≤ 4294967295 * 4294967295 := Nat.mul_le_mul hq (by omega)
  rw [Nat.mul_add, ← Nat.mul_assoc]
  omega
theorem est_small {T L a b q r : Nat} (hr : q * L + r = T) (hT : T = a * 4294967296 + b) (ha : a ≤ L) (hb : b < 4294967296) (hr2 : 4294967296 ≤ r) : q ≤ 4294967295 := by
  rcases Nat.lt_or_ge 4294967295 q with h | h
  · exfalso
    have h1 : 4294967296 * L ≤ q * L := Nat.mul_le_mul_right L (by omega)
    omega
  · exact h
theorem est_start {T L a b : Nat} (hT : T = a * 4294967296 + b) (ha : a ≤ L) (hb : b < 4294967296) (hL : 2147483648 ≤ L) : T / L ≤ 4294967297 := by
  have : T / L < 4294967298 := by
    rw [Nat.div_lt_iff_lt_mul (by omega)]
    omega
  omega
theorem two_top (zs : List Nat) (n : Nat) (hl : zs.length = n + 2) : val zs = (zs[n + 1]'(by omega) * 4294967296 + zs[n]'(by omega)) * 4294967296 ^ n + val (zs.take n) := by
  have h1 := val_take_succ zs n (by omega)
  have h2 := val_take_succ zs (n + 1) (by omega)
  rw [List.take_of_length_le (by omega)] at h2
  rw [h2, h1]
  generalize zs[n + 1]'(by omega) = x
  generalize zs[n]'(by omega) = y
  generalize val (zs.take n) = z
  rw [Nat.pow_succ]
  generalize 4294967296 ^ n = P
  have e1 : (x * 4294967296 + y) * P = P * 4294967296 * x + P * y := by
    rw [Nat.add_mul, Nat.mul_comm y P, Nat.mul_comm (x * 4294967296) P, Nat.mul_comm x, Nat.mul_assoc]
  omega
theorem three_top (zs : List Nat) (n : Nat) (hl : zs.length = n + 3) : val zs = ((zs[n + 2]'(by omega) * 4294967296 + zs[n + 1]'(by omega)) * 4294967296 + zs[n]'(by omega)) * 4294967296 ^ n + val (zs.take n) := by
  have h1 := val_take_succ zs n (by omega)
  have h2 : val zs = (zs[n + 2]'(by omega) * 4294967296 + zs[n + 1]'(by omega)) * 4294967296 ^ (n + 1) + val (zs.take (n + 1)) := two_top zs (n + 1) (by omega)
  rw [h2, h1]
  obtain ⟨x, hx⟩ : ∃ x, zs[n + 2]'(by omega) * 4294967296 + zs[n + 1]'(by omega) = x := ⟨_, rfl⟩
  rw [hx]
  generalize zs[n]'(by omega) = y
  generalize val (zs.take n) = z
  rw [Nat.pow_succ]
  generalize 4294967296 ^ n = P
  have e1 : (x * 4294967296 + y) * P = x * (P * 4294967296) + P * y := by
    rw [Nat.add_mul, Nat.mul_comm y P, Nat.mul_assoc, Nat.mul_comm P 4294967296]
  omega
end Nm
end Go.Proofs.YtaiceebhifecbaaDoor

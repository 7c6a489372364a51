/-
  Contracts of addTimes and Mul. Conditions: slices of at most 400 digits; the row that is written lies outside the other.
-/
import Derived.Test.YtaiceebhifecbaaDoorT7
namespace Go.Proofs.YtaiceebhifecbaaDoor
open Go.RowKit
theorem prod_le {D f : Nat} (hD : D < 4294967296) (hf : f < 4294967296) : D * f ≤ 18446744065119617025 := by
  have h1 : D * f ≤ 4294967295 * 4294967295 := Nat.mul_le_mul (by omega) (by omega)
  omega
set_option maxHeartbeats 400000 in
theorem addTimes_any (g off c : Nat) (B : Option Addr) (d f : Nat) (zs ys : List Nat) (w : World) (ho : Own w g off zs) (hy : Rd w B ys) (hfar : Off g B ys) (hzd : Nm.Dig zs) (hyd : Nm.Dig ys) (hl0 : zs.length = ys.length) (hm : ys.length ≤ 1000) (hf : f < 4294967296) :
    Calls Tryd.prog 46 #[.slice (some ⟨g, off, none⟩) ys.length c, .slice B ys.length d, .int .u32 f] w fun e w' => ∃ (rs : List Nat) (o : Nat), e = .returned (.int .u32 o) ∧ Hid (rs.length = ys.length) ∧ Nm.Dig rs ∧ o < 4294967296 ∧ Hid (Nm.val rs + 4294967296 ^ ys.length * o = Nm.val zs + Nm.val ys * f) ∧ Wr w w' g off rs := by
  have HL := Lib.hid hl0
  clear hl0
  go_enter Tryd.func46, Tryd.ntmps46
  go_wp2_with fail
  go_loopw [7, 12] (fun cy i wr => ∃ (k o : Nat) (rs : List Nat), k ≤ ys.length ∧ i = .int .i64 k ∧ cy = .int .u64 o ∧ o < 4294967296 ∧ Hid (rs.length = ys.length) ∧ Nm.Dig rs ∧ Hid (∀ j, k ≤ j → rs[j]? = zs[j]?) ∧ Hid (Nm.val (rs.take k) + 4294967296 ^ k * o = Nm.val (zs.take k) + Nm.val (ys.take k) * f) ∧ Wr w wr g off rs) (fun _ i _ => ys.length - (intOf i).toNat)
  case atStart => exact ⟨0, 0, zs, Nat.zero_le _, rfl, rfl, by omega, HL.out, hzd, fun _ _ => rfl, by show _ = _; simp [Nm.val], Wr.refl ho⟩
  case round =>
    obtain ⟨k, o, rs, hk, rfl, rfl, hco, hl, hrd, hrest, hv, hw⟩ := hrel
    by_cases hlt : k < ys.length
    · have hkr : k < rs.length := by rw [hl.out]; exact hlt
      have hkz : k < zs.length := by rw [HL.out]; exact hlt
      have c1 := hw.own.1 k hkr
      have f1 := hw.own.2 k hkr
      obtain ⟨x, hx⟩ : ∃ x, rs[k] = x := ⟨_, rfl⟩
      rw [hx] at c1
      have hxlt : x < 4294967296 := by rw [← hx]; exact hrd.at_ hkr
      have hzk : zs[k] = x := by
        have := hrest.out k (Nat.le_refl _)
        rw [List.getElem?_eq_getElem hkr, List.getElem?_eq_getElem hkz] at this
        injection this with this
        rw [← this, hx]
      have Hzk := Lib.hid hzk
      clear hx hzk
      obtain ⟨g', off', hB, hr⟩ := (hy.wr hw hfar).at_ hlt
      have c2 := hr k hlt
      obtain ⟨D, hD⟩ : ∃ D, ys[k] = D := ⟨_, rfl⟩
      rw [hD] at c2
      have hDlt : D < 4294967296 := by rw [← hD]; exact hyd.at_ hlt
      have HD := Lib.hid hD
      have hple := prod_le hDlt hf
      obtain ⟨p, hp⟩ : ∃ p, D * f = p := ⟨_, rfl⟩
      rw [hp] at hple
      have hpi : (D : Int) * (f : Int) = (p : Int) := by rw [← hp]; simp
      have HP := Lib.hid hp
      have hsum : ∀ (s o' : Nat), s + 4294967296 * o' = o + (p + x) →
          Hid (Nm.val ((rs.set k s).take (k + 1)) + 4294967296 ^ (k + 1) * o' = Nm.val (zs.take (k + 1)) + Nm.val (ys.take (k + 1)) * f) := by
        intro s o' h2
        show _ = _
        have e1 := Nm.val_take_succ (rs.set k s) k (by simpa using hkr)
        rw [take_set_other] at e1
        have e2 := Nm.val_take_succ zs k hkz
        rw [Hzk.out] at e2
        have e3 := Nm.val_take_succ ys k hlt
        rw [HD.out] at e3
        have e4 := hv.out
        have e5 := congrArg (fun t => 4294967296 ^ k * t) h2
        simp only [Nat.mul_add] at e5
        rw [e1, e2, e3, Nat.pow_succ, Nat.mul_assoc, Nat.add_mul, Nat.mul_assoc _ D f, HP.out]
        simp only [List.getElem_set_self]
        omega
      have Hsum := Lib.hid hsum
      have hwset := fun s => hw.set k hkr s
      have Hws := Lib.hid hwset
      subst hB
      clear hr hD hp hsum hwset
      go_wp2_with fail
      have hmod : (((o : Int) + ((p : Int) + (x : Int))) % 4294967296) = (((o + (p + x)) % 4294967296 : Nat) : Int) := by omega
      have hdiv : (((o : Int) + ((p : Int) + (x : Int))) / 4294967296) = (((o + (p + x)) / 4294967296 : Nat) : Int) := by omega
      rw [hmod, hdiv]
      refine ⟨⟨k + 1, (o + (p + x)) / 4294967296, rs.set k ((o + (p + x)) % 4294967296), by omega, by go_num, rfl, by omega, ?_, hrd.set k (by omega), ?_, Hsum.out _ _ (by omega), Hws.out _⟩, by simp [intOf]; omega⟩
      · show _ = _
        rw [List.length_set]; exact hl.out
      · intro j hj
        rw [List.getElem?_set_ne (by omega)]
        exact hrest.out j (by omega)
    · go_wp2_with fail
      go_ret
      refine ⟨rs, o, rfl, hl, hrd, hco, ?_, hw⟩
      have hkk : k = ys.length := by omega
      have h1 := hv.out
      rw [hkk, List.take_of_length_le (Nat.le_of_eq hl.out), List.take_of_length_le (Nat.le_of_eq HL.out), List.take_of_length_le (Nat.le_refl _)] at h1
      exact h1
end Go.Proofs.YtaiceebhifecbaaDoor

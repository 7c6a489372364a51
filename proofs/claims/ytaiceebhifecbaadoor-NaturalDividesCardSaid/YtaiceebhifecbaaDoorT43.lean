/-
  Contract of divideStep: one digit of the quotient. Conditions: as those of estimate; the row that is written lies outside the divisor.
-/
import Derived.Test.YtaiceebhifecbaaDoorT42
namespace Go.Proofs.YtaiceebhifecbaaDoor
open Go.RowKit
theorem Wr.trans {w w1 w2 : World} {g off : Nat} {zs rs : List Nat} (h : Wr w w1 g off zs) (k : Wr w1 w2 g off rs) (hl : zs.length = rs.length) : Wr w w2 g off rs :=
  ⟨⟨k.grown.os.trans h.grown.os, k.grown.tape.trans h.grown.tape, k.grown.output.trans h.grown.output, Nat.le_trans h.grown.size k.grown.size, fun i hi hne => (k.grown.block i (by have := h.size; omega) hne).trans (h.grown.block i hi hne)⟩,
    k.size.trans h.size, k.own, fun o ho => (k.rest o ho).trans (h.rest o (by rw [hl]; exact ho)), fun o => (k.soft o).trans (h.soft o)⟩
theorem addTo_m {g off n m c d : Nat} {B : Option Addr} {zs ys : List Nat} {w : World} (ho : Own w g off zs) (hy : Rd w B ys) (hf : Off g B ys) (hzd : Nm.Dig zs) (hyd : Nm.Dig ys) (hl : zs.length = n) (hyl : ys.length = m) (hm : n ≤ 1000) (hn : m ≤ 1000) :
    Calls Tryd.prog 45 #[.slice (some ⟨g, off, none⟩) n c, .slice B m d] w fun e w' => ∃ (rs : List Nat) (o : Nat), e = .returned (.tuple #[]) ∧ rs.length = n ∧ Nm.Dig rs ∧ o ≤ 1 ∧ Hid (Nm.val rs + 4294967296 ^ n * o = Nm.val zs + Nm.val (ys.take n)) ∧ Wr w w' g off rs := by
  subst hl hyl
  exact addTo_any g off c B d zs ys w ho hy hf hzd hyd hm hn
namespace Nm
theorem step_zero {U V Q q R : Nat} (hV : 0 < V) (hQ : U / V = Q) (h1 : Q ≤ q) (h : R + q * V = U) : q = Q ∧ R = U % V := by
  have h2 := Nat.div_add_mod U V
  have h3 := Nat.mod_lt U hV
  rw [hQ] at h2
  have h4 : q = Q := by
    rcases Nat.lt_or_ge Q q with h5 | h5
    · exfalso
      have h6 : (Q + 1) * V ≤ q * V := Nat.mul_le_mul_right V h5
      rw [Nat.succ_mul, Nat.mul_comm] at h6
      omega
    · omega
  subst h4
  rw [Nat.mul_comm] at h2
  exact ⟨rfl, by omega⟩
theorem step_one {U V Q q R R2 P o2 : Nat} (hV : 0 < V) (hQ : U / V = Q) (h1 : Q ≤ q) (h2 : q ≤ Q + 1) (h : R + q * V = U + P) (hR : R < P) (hR2 : R2 < P) (ho2 : o2 ≤ 1) (h5 : R2 + P * o2 = R + V) : q = Q + 1 ∧ R2 = U % V := by
  have h3 := Nat.div_add_mod U V
  have h4 := Nat.mod_lt U hV
  rw [hQ, Nat.mul_comm] at h3
  have h6 : q = Q + 1 := by
    rcases Nat.lt_or_ge Q q with h7 | h7
    · omega
    · exfalso
      have h8 : q = Q := by omega
      subst h8
      omega
  subst h6
  rw [Nat.succ_mul] at h
  refine ⟨rfl, ?_⟩
  rcases Nat.eq_zero_or_pos o2 with h7 | h7
  · subst h7
    omega
  · have h8 : o2 = 1 := by omega
    subst h8
    omega
end Nm
set_option maxRecDepth 20000 in
set_option maxHeartbeats 1000000 in
theorem divideStep_any (g off c d m : Nat) (B : Option Addr) (zs ys : List Nat) (w : World) (ho : Own w g off zs) (hy : Rd w B ys) (hf : Off g B ys) (hzd : Nm.Dig zs) (hyd : Nm.Dig ys) (hl : zs.length = m + 3) (hyl : ys.length = m + 2) (hm : m ≤ 900) (htop : 2147483648 ≤ ys[m + 1]'(by omega)) (hlt : Nm.val zs < 4294967296 * Nm.val ys) :
    Calls Tryd.prog 71 #[.slice (some ⟨g, off, none⟩) (m + 3) c, .slice B (m + 2) d] w fun e w' => ∃ (q : Nat) (rs : List Nat), e = .returned (.int .u32 q) ∧ Hid (q = Nm.val zs / Nm.val ys ∧ q < 4294967296) ∧ Hid (rs.length = m + 3) ∧ Nm.Dig rs ∧ Hid (Nm.val rs = Nm.val zs % Nm.val ys) ∧ Wr w w' g off rs := by
  have hV0 : 0 < Nm.val ys := by
    rcases Nat.eq_zero_or_pos (Nm.val ys) with h | h
    · rw [h] at hlt; omega
    · exact h
  have hVP : Nm.val ys ≤ 4294967296 ^ (m + 3) := by
    have := Nm.val_lt hyd
    rw [hyl] at this
    exact Nat.le_trans (Nat.le_of_lt this) (Nat.pow_le_pow_right (by omega) (by omega))
  have hest := estimate_any g off c d m B zs ys w ho.1 hy hzd hyd hl hyl (by omega) htop hlt
  have Hest := Lib.hid hest
  have HV0 := Lib.hid hV0
  have HVP := Lib.hid hVP
  have Hl := Lib.hid hl
  have Hyl := Lib.hid hyl
  clear hest hV0 hVP hl hyl htop hlt
  go_enter Tryd.func71, Tryd.ntmps71
  go_wp2_with fail
  refine Hest.out.mono ?_
  rintro e w1 ⟨q, nd, rfl, hq, rfl⟩
  go_wp2_with fail
  refine (subtractTimes_any g off (m + 2) c d q B zs ys (w.drewN nd) (show Own (w.drewN nd) g off zs from ho) (show Rd (w.drewN nd) B ys from hy) hf hzd hyd Hl.out Hyl.out (by omega) hq.out.2.2).mono ?_
  rintro e w2 ⟨rs, o, rfl, hrl, hrd, hol, hv, hw⟩
  have hw2 : Wr w w2 g off rs := ((Wr.refl ho).drewN nd).trans hw (by rw [Hl.out, hrl.out])
  rcases Nat.eq_zero_or_pos o with h0 | h0
  · subst h0
    have hfin := Nm.step_zero HV0.out rfl hq.out.1 (by have := hv.out; rw [Nat.mul_zero, Nat.add_zero] at this; exact this)
    have Hf := Lib.hid hfin
    clear hfin
    go_wp2_with fail
    go_ret
    exact ⟨q, rs, rfl, ⟨Hf.out.1, hq.out.2.2⟩, hrl, hrd, Hf.out.2, hw2⟩
  · have ho1 : o = 1 := by omega
    subst ho1
    go_wp2_with fail
    refine (addTo_m hw2.own (hy.wr hw2 hf) hf hrd hyd hrl.out Hyl.out (by omega) (by omega)).mono ?_
    rintro e w3 ⟨rs2, o2, rfl, hrl2, hrd2, ho2, hv2, hw3⟩
    have hfin : q = Nm.val zs / Nm.val ys + 1 ∧ Nm.val rs2 = Nm.val zs % Nm.val ys := by
      have h1 := Nm.val_lt hrd
      have h2 := Nm.val_lt hrd2
      rw [hrl.out] at h1
      rw [hrl2] at h2
      have h3 := hv2.out
      rw [List.take_of_length_le (by rw [Hyl.out]; omega)] at h3
      have h4 := hv.out
      rw [Nat.mul_one] at h4
      exact Nm.step_one HV0.out rfl hq.out.1 hq.out.2.1 h4 h1 h2 ho2 h3
    have Hf := Lib.hid hfin
    have hqi : 1 ≤ q := by rw [hfin.1]; exact Nat.le_add_left _ _
    clear hfin
    go_wp2_with fail
    go_ret
    refine ⟨q - 1, rs2, ret_int ?_, ⟨Nat.sub_eq_of_eq_add Hf.out.1, by have := hq.out.2.2; omega⟩, hrl2, hrd2, Hf.out.2, hw2.trans hw3 (by rw [hrl.out, hrl2])⟩
    have := hq.out.2.2
    omega
end Go.Proofs.YtaiceebhifecbaaDoor

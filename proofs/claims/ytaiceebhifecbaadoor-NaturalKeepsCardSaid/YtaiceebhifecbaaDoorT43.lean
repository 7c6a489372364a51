/-
  Contract of divideStep: one digit of the quotient. Conditions: as those of estimate; the row that is written lies outside the divisor. Also: Contract of estimate: the digit of the quotient, or one more. Conditions: a divisor of 2 to 1000 digits whose leading digit is at least 2^31; the part's leading digits are less than the divisor.
-/
import Derived.Test.YtaiceebhifecbaaDoorT41
namespace Go.Proofs.YtaiceebhifecbaaDoor
open Go.RowKit
theorem or_low (h l : Nat) (hh : h < 4294967296) (hl : l < 4294967296) : bits .or .u64 ((h : Int) * 4294967296) (l : Int) = ((h * 4294967296 + l : Nat) : Int) := by
  have := u64_or_nat (h * 4294967296) l (by omega) (by omega)
  rw [show ((h : Int) * 4294967296) = ((h * 4294967296 : Nat) : Int) from by omega, this]
  have h2 := Nat.shiftLeft_add_eq_or_of_lt (b := l) (i := 32) (by omega) h
  rw [Nat.shiftLeft_eq] at h2
  rw [← h2]
set_option maxRecDepth 20000 in
set_option maxHeartbeats 1000000 in
theorem estimate_any (g off c d m : Nat) (B : Option Addr) (zs ys : List Nat) (w : World) (hx : Row w g off zs) (hy : Rd w B ys) (hzd : Nm.Dig zs) (hyd : Nm.Dig ys) (hl : zs.length = m + 3) (hyl : ys.length = m + 2) (hm : m ≤ 1000) (htop : 2147483648 ≤ ys[m + 1]'(by omega)) (hlt : Nm.val zs < 4294967296 * Nm.val ys) :
    Calls Tryd.prog 76 #[.slice (some ⟨g, off, none⟩) (m + 3) c, .slice B (m + 2) d] w fun e w' => ∃ q n : Nat, e = .returned (.int .u32 q) ∧ Hid (Nm.val zs / Nm.val ys ≤ q ∧ q ≤ Nm.val zs / Nm.val ys + 1 ∧ q < 4294967296) ∧ w' = w.drewN n := by
  obtain ⟨g', off', rfl, hr⟩ := hy.at_ (i := m + 1) (by omega)
  have hU := Nm.three_top zs m hl
  have hV := Nm.two_top ys m hyl
  have hul : Nm.val (zs.take m) < 4294967296 ^ m := by have := Nm.val_lt (hzd.take m); rwa [List.length_take, Nat.min_eq_left (by omega)] at this
  have hvl : Nm.val (ys.take m) < 4294967296 ^ m := by have := Nm.val_lt (hyd.take m); rwa [List.length_take, Nat.min_eq_left (by omega)] at this
  have ca := hx (m + 2) (by omega)
  have cb := hx (m + 1) (by omega)
  have ce := hx m (by omega)
  have cL := hr (m + 1) (by omega)
  have cN := hr m (by omega)
  have la := hzd.at_ (i := m + 2) (by omega)
  have lb := hzd.at_ (i := m + 1) (by omega)
  have le := hzd.at_ (i := m) (by omega)
  have lL := hyd.at_ (i := m + 1) (by omega)
  have lN := hyd.at_ (i := m) (by omega)
  obtain ⟨a, ha⟩ : ∃ a, zs[m + 2]'(by omega) = a := ⟨_, rfl⟩
  obtain ⟨b, hb⟩ : ∃ b, zs[m + 1]'(by omega) = b := ⟨_, rfl⟩
  obtain ⟨e, he⟩ : ∃ e, zs[m]'(by omega) = e := ⟨_, rfl⟩
  obtain ⟨L, hL⟩ : ∃ L, ys[m + 1]'(by omega) = L := ⟨_, rfl⟩
  obtain ⟨N, hN⟩ : ∃ N, ys[m]'(by omega) = N := ⟨_, rfl⟩
  rw [ha] at hU ca la
  rw [hb] at hU cb lb
  rw [he] at hU ce le
  rw [hL] at hV cL lL htop
  rw [hN] at hV cN lN
  obtain ⟨V, hVV⟩ : ∃ V, Nm.val ys = V := ⟨_, rfl⟩
  obtain ⟨U, hUU⟩ : ∃ U, Nm.val zs = U := ⟨_, rfl⟩
  rw [hVV, hUU]
  rw [hVV] at hV hlt
  rw [hUU] at hU hlt
  have hLa := Nm.est_lead hU hV hvl lN hlt
  obtain ⟨T, hT⟩ : ∃ T, a * 4294967296 + b = T := ⟨_, rfl⟩
  rw [hT] at hU
  have hV0 : 0 < V := by
    rcases Nat.eq_zero_or_pos V with h | h
    · subst h; omega
    · exact h
  obtain ⟨Q, hQ⟩ : ∃ Q, U / V = Q := ⟨_, rfl⟩
  have hQ1 : Q * V ≤ U := by rw [← hQ]; exact Nat.div_mul_le_self U V
  have hQ2 : U < (Q + 1) * V := by
    have h1 := Nat.div_add_mod U V
    have h2 := Nat.mod_lt U hV0
    rw [hQ] at h1
    rw [Nat.succ_mul, Nat.mul_comm]
    omega
  have hQb : Q ≤ 4294967295 := by
    have : Q < 4294967296 := by rw [← hQ, Nat.div_lt_iff_lt_mul hV0]; exact hlt
    omega
  rw [hQ]
  have hup := Nm.est_up hU hul hV hQ1
  have hor := or_low a b la lb
  rw [hT] at hor
  have hst := Nm.est_start hT.symm hLa lb htop
  have hin := Nm.est_init (by omega : 0 < L) le hup
  have hdm := Nat.div_add_mod T L
  have hrl : T % L < L := Nat.mod_lt _ (by omega)
  have hTdiv : (T : Int) / (L : Int) = ((T / L : Nat) : Int) := by simp
  have hTmod : (T : Int) % (L : Int) = ((T % L : Nat) : Int) := by simp
  obtain ⟨q0, hq0⟩ : ∃ q0, T / L = q0 := ⟨_, rfl⟩
  obtain ⟨r0, hr0⟩ : ∃ r0, T % L = r0 := ⟨_, rfl⟩
  rw [hq0] at hst hin hdm hTdiv
  rw [hr0] at hdm hrl hTmod
  rw [Nat.mul_comm] at hdm
  have hL0 : ((L : Int) != 0) = true := by rw [bne_iff_ne]; omega
  have HU := Lib.hid hU
  have HV := Lib.hid hV
  have Hvl := Lib.hid hvl
  have HLa := Lib.hid hLa
  have HT := Lib.hid hT
  have HQ2 := Lib.hid hQ2
  have Hup := Lib.hid hup
  have Hin := Lib.hid hin
  have Hdm := Lib.hid hdm
  have Htop := Lib.hid htop
  have HQb := Lib.hid hQb
  have Hdone : Hid (∀ q, q ≤ 4294967295 → q * (L * 4294967296 + N) ≤ T * 4294967296 + e → q ≤ Q + 1) := fun q h1 h2 => Nm.est_le hU hV hvl h2 hQ2 (by omega)
  have HlL : Hid (L ≤ 4294967295) := by show L ≤ 4294967295; omega
  clear hx hy hr hzd hyd hl hyl hU hV hul hvl ha hb he hL hN hVV hUU hlt hLa hT hV0 hQ hQ1 hQ2 hup hin hdm hq0 hr0 htop hQb
  go_enter Tryd.func76, Tryd.ntmps76
  go_wp2_with fail
  go_quiet (fail)
  go_wp2_with fail
  go_quiet (fail)
  go_wp2_with fail
  go_quiet (fail)
  go_wp2_with fail
  go_loop [9, 10] (fun qv rv => ∃ q r : Nat, qv = .int .u64 (q : Int) ∧ rv = .int .u64 (r : Int) ∧ q ≤ 4294967297 ∧ r ≤ 8589934591 ∧ Hid (q * L + r = T) ∧ Hid (Q ≤ q)) (fun q _ => (intOf q).toNat)
  case atStart => exact ⟨q0, r0, rfl, by rw [hTmod], hst, by have := HlL.out; omega, Hdm, Hin⟩
  case round =>
    obtain ⟨q, r, rfl, rfl, hq, hr, hqr, hQq⟩ := hrel
    by_cases h1 : r ≤ 4294967295
    · by_cases h2 : q ≤ 4294967295
      · have hple : q * N ≤ 18446744065119617025 := by
          have := Nat.mul_le_mul (show q ≤ 4294967295 from h2) (show N ≤ 4294967295 by omega)
          omega
        obtain ⟨p, hp⟩ : ∃ p, q * N = p := ⟨_, rfl⟩
        obtain ⟨S, hS⟩ : ∃ S, r * 4294967296 + e = S := ⟨_, rfl⟩
        have hpi : (q : Int) * (N : Int) = (p : Int) := by rw [← hp]; simp
        have hor2 := or_low r e (by omega) le
        rw [hp] at hple
        rw [hS] at hor2
        have hp0 := Lib.hid hp
        have hS0 := Lib.hid hS
        clear hp hS
        by_cases h3 : S < p
        · have hmore := Nm.est_more Hup.out hqr.out (by rw [hp0.out, hS0.out]; exact h3)
          have Hmore := Lib.hid hmore
          have hq1 : 1 ≤ q := by omega
          have hqi : (q : Int) - 1 = ((q - 1 : Nat) : Int) := by omega
          have hstep : (q - 1) * L + (r + L) = T := by
            have h5 := hqr.out
            obtain ⟨t, rfl⟩ : ∃ t, q = t + 1 := ⟨q - 1, by omega⟩
            rw [Nat.succ_mul] at h5
            rw [Nat.add_sub_cancel]
            omega
          have Hstep := Lib.hid hstep
          have hL1 := HlL.out
          have Hqi := Lib.hid hqi
          clear hmore hstep hqi
          go_wp2_with fail
          refine ⟨⟨q - 1, by omega, r + L, by omega, by omega, by omega, Hstep, ?_⟩, by simp [intOf]; omega⟩
          show _ ≤ _
          have := Hmore.out
          omega
        · have hfin := Hdone.out q h2 (Nm.est_done hqr.out (by rw [hp0.out, hS0.out]; omega))
          have Hfin := Lib.hid hfin
          clear hfin
          go_wp2_with fail
          go_ret
          exact ⟨q, ret_int rfl, ⟨hQq.out, Hfin.out, by omega⟩, _, rfl⟩
      · have hstep : (q - 1) * L + (r + L) = T := by
          have h5 := hqr.out
          obtain ⟨t, rfl⟩ : ∃ t, q = t + 1 := ⟨q - 1, by omega⟩
          rw [Nat.succ_mul] at h5
          rw [Nat.add_sub_cancel]
          omega
        have Hmore : Hid (Q < q) := by show Q < q; have := HQb.out; omega
        have Hstep := Lib.hid hstep
        have hq1 : 1 ≤ q := by omega
        have hL1 := HlL.out
        have h2' : 4294967296 ≤ q := by omega
        clear hstep h2
        go_wp2_with fail
        refine ⟨⟨q - 1, by omega, r + L, by omega, by omega, by omega, Hstep, ?_⟩, by simp [intOf]; omega⟩
        show _ ≤ _
        have := Hmore.out
        omega
    · have h2 := Nm.est_small hqr.out HT.out.symm HLa.out lb (by omega)
      have hfin := Hdone.out q h2 (Nm.est_big hqr.out (by omega) h2 lN)
      have Hfin := Lib.hid hfin
      clear hfin
      go_wp2_with fail
      go_ret
      exact ⟨q, ret_int rfl, ⟨hQq.out, Hfin.out, by omega⟩, _, rfl⟩
end Go.Proofs.YtaiceebhifecbaaDoor
namespace Go.Proofs.YtaiceebhifecbaaDoor
open Go.RowKit
theorem Wr.trans {w w1 w2 : World} {g off : Nat} {zs rs : List Nat} (h : Wr w w1 g off zs) (k : Wr w1 w2 g off rs) (hl : zs.length = rs.length) : Wr w w2 g off rs :=
  ⟨⟨k.grown.os.trans h.grown.os, k.grown.tape.trans h.grown.tape, k.grown.output.trans h.grown.output, Nat.le_trans h.grown.size k.grown.size, fun i hi hne => (k.grown.block i (by have := h.size; omega) hne).trans (h.grown.block i hi hne)⟩,
    k.size.trans h.size, k.own, fun o ho => (k.rest o ho).trans (h.rest o (by rw [hl]; exact ho)), fun o => (k.soft o).trans (h.soft o)⟩
theorem addTo_m {g off n m c d : Nat} {B : Option Addr} {zs ys : List Nat} {w : World} (ho : Own w g off zs) (hy : Rd w B ys) (hf : Off g B ys) (hzd : Nm.Dig zs) (hyd : Nm.Dig ys) (hl : zs.length = n) (hyl : ys.length = m) (hm : n ≤ 1000) (hn : m ≤ 1000) :
    Calls Tryd.prog 45 #[.slice (some ⟨g, off, none⟩) n c, .slice B m d] w fun e w' => ∃ (rs : List Nat) (o : Nat), e = .returned (.tuple #[]) ∧ rs.length = n ∧ Nm.Dig rs ∧ o ≤ 1 ∧ Hid (Nm.val rs + 4294967296 ^ n * o = Nm.val zs + Nm.val (ys.take n)) ∧ Wr w w' g off rs := by
  subst hl hyl
  exact addTo_any g off c B d zs ys w ho hy hf hzd hyd hm hn
namespace Nm
theorem step_zero {U V Q q R : Nat} (hV : 0 < V) (hQ : U / V = Q) (h1 : Q ≤ q) (h : R + q * V = U) : q = Q ∧ R = U % V := by
  have h2 := Nat.div_add_mod U V
  have h3 := Nat.mod_lt U hV
  rw [hQ] at h2
  have h4 : q = Q := by
    rcases Nat.lt_or_ge Q q with h5 | h5
    · exfalso
      have h6 : (Q + 1) * V ≤ q * V := Nat.mul_le_mul_right V h5
      rw [Nat.succ_mul, Nat.mul_comm] at h6
      omega
    · omega
  subst h4
  rw [Nat.mul_comm] at h2
  exact ⟨rfl, by omega⟩
theorem step_one {U V Q q R R2 P o2 : Nat} (hV : 0 < V) (hQ : U / V = Q) (h1 : Q ≤ q) (h2 : q ≤ Q + 1) (h : R + q * V = U + P) (hR : R < P) (hR2 : R2 < P) (ho2 : o2 ≤ 1) (h5 : R2 + P * o2 = R + V) : q = Q + 1 ∧ R2 = U % V := by
  have h3 := Nat.div_add_mod U V
  have h4 := Nat.mod_lt U hV
  rw [hQ, Nat.mul_comm] at h3
  have h6 : q = Q + 1 := by
    rcases Nat.lt_or_ge Q q with h7 | h7
    · omega
    · exfalso
      have h8 : q = Q := by omega
      subst h8
      omega
  subst h6
  rw [Nat.succ_mul] at h
  refine ⟨rfl, ?_⟩
  rcases Nat.eq_zero_or_pos o2 with h7 | h7
  · subst h7
    omega
  · have h8 : o2 = 1 := by omega
    subst h8
    omega
end Nm
set_option maxRecDepth 20000 in
set_option maxHeartbeats 1000000 in
theorem divideStep_any (g off c d m : Nat) (B : Option Addr) (zs ys : List Nat) (w : World) (ho : Own w g off zs) (hy : Rd w B ys) (hf : Off g B ys) (hzd : Nm.Dig zs) (hyd : Nm.Dig ys) (hl : zs.length = m + 3) (hyl : ys.length = m + 2) (hm : m ≤ 900) (htop : 2147483648 ≤ ys[m + 1]'(by omega)) (hlt : Nm.val zs < 4294967296 * Nm.val ys) :
    Calls Tryd.prog 71 #[.slice (some ⟨g, off, none⟩) (m + 3) c, .slice B (m + 2) d] w fun e w' => ∃ (q : Nat) (rs : List Nat), e = .returned (.int .u32 q) ∧ Hid (q = Nm.val zs / Nm.val ys ∧ q < 4294967296) ∧ Hid (rs.length = m + 3) ∧ Nm.Dig rs ∧ Hid (Nm.val rs = Nm.val zs % Nm.val ys) ∧ Wr w w' g off rs := by
  have hV0 : 0 < Nm.val ys := by
    rcases Nat.eq_zero_or_pos (Nm.val ys) with h | h
    · rw [h] at hlt; omega
    · exact h
  have hVP : Nm.val ys ≤ 4294967296 ^ (m + 3) := by
    have := Nm.val_lt hyd
    rw [hyl] at this
    exact Nat.le_trans (Nat.le_of_lt this) (Nat.pow_le_pow_right (by omega) (by omega))
  have hest := estimate_any g off c d m B zs ys w ho.1 hy hzd hyd hl hyl (by omega) htop hlt
  have Hest := Lib.hid hest
  have HV0 := Lib.hid hV0
  have HVP := Lib.hid hVP
  have Hl := Lib.hid hl
  have Hyl := Lib.hid hyl
  clear hest hV0 hVP hl hyl htop hlt
  go_enter Tryd.func71, Tryd.ntmps71
  go_wp2_with fail
  refine Hest.out.mono ?_
  rintro e w1 ⟨q, nd, rfl, hq, rfl⟩
  go_wp2_with fail
  refine (subtractTimes_any g off (m + 2) c d q B zs ys (w.drewN nd) (show Own (w.drewN nd) g off zs from ho) (show Rd (w.drewN nd) B ys from hy) hf hzd hyd Hl.out Hyl.out (by omega) hq.out.2.2).mono ?_
  rintro e w2 ⟨rs, o, rfl, hrl, hrd, hol, hv, hw⟩
  have hw2 : Wr w w2 g off rs := ((Wr.refl ho).drewN nd).trans hw (by rw [Hl.out, hrl.out])
  rcases Nat.eq_zero_or_pos o with h0 | h0
  · subst h0
    have hfin := Nm.step_zero HV0.out rfl hq.out.1 (by have := hv.out; rw [Nat.mul_zero, Nat.add_zero] at this; exact this)
    have Hf := Lib.hid hfin
    clear hfin
    go_wp2_with fail
    go_ret
    exact ⟨q, rs, rfl, ⟨Hf.out.1, hq.out.2.2⟩, hrl, hrd, Hf.out.2, hw2⟩
  · have ho1 : o = 1 := by omega
    subst ho1
    go_wp2_with fail
    refine (addTo_m hw2.own (hy.wr hw2 hf) hf hrd hyd hrl.out Hyl.out (by omega) (by omega)).mono ?_
    rintro e w3 ⟨rs2, o2, rfl, hrl2, hrd2, ho2, hv2, hw3⟩
    have hfin : q = Nm.val zs / Nm.val ys + 1 ∧ Nm.val rs2 = Nm.val zs % Nm.val ys := by
      have h1 := Nm.val_lt hrd
      have h2 := Nm.val_lt hrd2
      rw [hrl.out] at h1
      rw [hrl2] at h2
      have h3 := hv2.out
      rw [List.take_of_length_le (by rw [Hyl.out]; omega)] at h3
      have h4 := hv.out
      rw [Nat.mul_one] at h4
      exact Nm.step_one HV0.out rfl hq.out.1 hq.out.2.1 h4 h1 h2 ho2 h3
    have Hf := Lib.hid hfin
    have hqi : 1 ≤ q := by rw [hfin.1]; exact Nat.le_add_left _ _
    clear hfin
    go_wp2_with fail
    go_ret
    refine ⟨q - 1, rs2, ret_int ?_, ⟨Nat.sub_eq_of_eq_add Hf.out.1, by have := hq.out.2.2; omega⟩, hrl2, hrd2, Hf.out.2, hw2.trans hw3 (by rw [hrl.out, hrl2])⟩
    have := hq.out.2.2
    omega
end Go.Proofs.YtaiceebhifecbaaDoor

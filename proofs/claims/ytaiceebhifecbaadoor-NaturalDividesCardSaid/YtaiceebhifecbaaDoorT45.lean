/-
  Contract of shiftDown. Conditions: slices of at most 1000 digits, a shift below 32.
-/
import Derived.Test.YtaiceebhifecbaaDoorT44
namespace Go.Proofs.YtaiceebhifecbaaDoor
open Go.RowKit
theorem down_or {d s r : Nat} (hs : s < 32) (hd : d < 4294967296) (hr : r < 2 ^ s) : bits .or .u32 ((d : Int) / 2 ^ s) ((r * 2 ^ (32 - s) : Nat) : Int) = ((d / 2 ^ s + r * 2 ^ (32 - s) : Nat) : Int) ∧ d / 2 ^ s + r * 2 ^ (32 - s) < 4294967296 := by
  have hp := pow_split hs
  have h1 : d / 2 ^ s < 2 ^ (32 - s) := Nat.div_lt_of_lt_mul (by rw [Nat.mul_comm, ← hp]; exact hd)
  have h3 : (r + 1) * 2 ^ (32 - s) ≤ 2 ^ s * 2 ^ (32 - s) := Nat.mul_le_mul_right _ hr
  rw [Nat.mul_comm (2 ^ s), ← hp, Nat.succ_mul] at h3
  have h6 := Nat.shiftLeft_add_eq_or_of_lt h1 r
  rw [Nat.shiftLeft_eq] at h6
  have hlt : d / 2 ^ s + r * 2 ^ (32 - s) < 4294967296 := by
    generalize d / 2 ^ s = D at h1
    generalize 2 ^ (32 - s) = P at h1 h3
    generalize r * P = R at h3
    omega
  have hl2 : d / 2 ^ s < 4294967296 := Nat.lt_of_le_of_lt (Nat.le_add_right _ _) hlt
  have hl3 : r * 2 ^ (32 - s) < 4294967296 := Nat.lt_of_le_of_lt (Nat.le_add_left _ _) hlt
  refine ⟨?_, hlt⟩
  rw [show ((d : Int) / 2 ^ s) = ((d / 2 ^ s : Nat) : Int) from by simp, u32_or_nat _ _ hl2 hl3, Nat.or_comm, ← h6, Nat.add_comm]
theorem down_high {d s : Nat} (hs : s < 32) : d * 2 ^ (32 - s) % 4294967296 = d % 2 ^ s * 2 ^ (32 - s) := by
  have hp := pow_split hs
  rw [hp, Nat.mul_comm (2 ^ (32 - s)) (2 ^ s), Nat.mul_mod_mul_right]
theorem down_val {d s Z : Nat} (hs : s < 32) : (d + 4294967296 * Z) / 2 ^ s = d / 2 ^ s + Z % 2 ^ s * 2 ^ (32 - s) + 4294967296 * (Z / 2 ^ s) ∧ (d + 4294967296 * Z) % 2 ^ s = d % 2 ^ s := by
  have hp := pow_split hs
  have h0 : 0 < 2 ^ s := Nat.pow_pos (by omega)
  have h1 : 4294967296 * Z = 2 ^ s * (2 ^ (32 - s) * Z) := by rw [← Nat.mul_assoc, Nat.mul_comm (2 ^ s), ← hp]
  have h2 := Nat.div_add_mod Z (2 ^ s)
  have h3 : 2 ^ (32 - s) * Z = Z % 2 ^ s * 2 ^ (32 - s) + 4294967296 * (Z / 2 ^ s) := by
    have h4 := congrArg (fun t => 2 ^ (32 - s) * t) h2
    simp only [Nat.mul_add] at h4
    rw [← Nat.mul_assoc, ← hp, Nat.mul_comm (2 ^ (32 - s)) (Z % 2 ^ s)] at h4
    omega
  refine ⟨?_, ?_⟩
  · rw [h1, Nat.add_mul_div_left _ _ h0, h3, Nat.add_assoc]
  · rw [h1, Nat.add_mul_mod_self_left]
set_option maxRecDepth 20000 in
set_option maxHeartbeats 1000000 in
theorem shiftDown_any (A : Option Addr) (n c s : Nat) (zs : List Nat) (w : World) (h : Rd w A zs) (hzd : Nm.Dig zs) (hl : zs.length = n) (hm : n ≤ 1000) (hs : s < 32) :
    Calls Tryd.prog 72 #[.slice A n c, .int .i64 (s : Int)] w fun e w' => ∃ (A' : Option Addr) (c' : Nat) (rs : List Nat), e = .returned (.slice A' n c') ∧ n ≤ c' ∧ Hid (rs.length = n) ∧ Nm.Dig rs ∧ Hid (Nm.val rs = Nm.val zs / 2 ^ s) ∧ Fr w.heap.size w' A' rs ∧ Below w.heap.size w w' := by
  have hmk := fun W => make32 n n (Nat.le_refl _) (by omega) (n : Int) (n : Int) rfl rfl W
  have Hl := Lib.hid hl
  clear hl
  go_enter Tryd.func72, Tryd.ntmps72
  go_wp2_with fail
  go_loopw [6, 14] (fun hv iv wr => ∃ (k r : Nat) (qs : List Nat), k ≤ n ∧ iv = .int .i64 (k : Int) ∧ hv = .int .u32 ((r * 2 ^ (32 - s) : Nat) : Int) ∧ Hid (r = Nm.val (zs.drop (n - k)) % 2 ^ s) ∧ Hid (qs.length = n) ∧ Nm.Dig qs ∧ Hid (Nm.val (qs.drop (n - k)) = Nm.val (zs.drop (n - k)) / 2 ^ s) ∧ Own wr w.heap.size 0 qs ∧ Below w.heap.size w wr) (fun _ i _ => n - (intOf i).toNat)
  case atStart =>
    refine ⟨0, 0, List.replicate n 0, Nat.zero_le _, rfl, by simp, ?_, by show _ = _; simp, Nm.dig_replicate _, ?_, own_made w n, one _ _⟩
    · show _ = _
      rw [Nat.sub_zero, List.drop_of_length_le (by rw [Hl.out]; exact Nat.le_refl _)]
      simp [Nm.val]
    · show _ = _
      rw [Nat.sub_zero, List.drop_of_length_le (by simp), List.drop_of_length_le (by rw [Hl.out]; exact Nat.le_refl _)]
      simp [Nm.val]
  case round =>
    obtain ⟨k, r, qs, hk, rfl, rfl, hr, hql, hqd, hqv, hown, hb⟩ := hrel
    by_cases hlt : k < n
    · obtain ⟨i, hi⟩ : ∃ i, n = i + 1 + k := ⟨n - 1 - k, by omega⟩
      have hiz : i < zs.length := by rw [Hl.out]; omega
      have hiq : i < qs.length := by rw [hql.out]; omega
      obtain ⟨g, off, hA, hcell⟩ := h.at_ hiz
      have hg := hcell.lt (by omega)
      have hgne : ¬ g = w.heap.size := by omega
      have c1 := ((seen hb).1 g (off + i) hg).trans (hcell i hiz)
      obtain ⟨d, hd⟩ : ∃ d, zs[i] = d := ⟨_, rfl⟩
      rw [hd] at c1
      have hdlt : d < 4294967296 := by rw [← hd]; exact hzd.at_ hiz
      have c2 := hown.1 i hiq
      have f2 := hown.2 i hiq
      rw [Nat.zero_add] at c2 f2
      have hr2 := hr.out
      have hqv2 := hqv.out
      rw [show n - k = i + 1 from by omega] at hr2 hqv2
      have hrlt : r < 2 ^ s := by rw [hr2]; exact Nat.mod_lt _ (Nat.pow_pos (by omega))
      obtain ⟨hor, hz32⟩ := down_or hs hdlt hrlt
      obtain ⟨z, hz⟩ : ∃ z, d / 2 ^ s + r * 2 ^ (32 - s) = z := ⟨_, rfl⟩
      rw [hz] at hor hz32
      obtain ⟨hh, hhe⟩ : ∃ hh, r * 2 ^ (32 - s) = hh := ⟨_, rfl⟩
      rw [hhe] at hor ⊢
      have hdv := down_val (d := d) (Z := Nm.val (zs.drop (i + 1))) hs
      rw [← hr2, ← hqv2, hz] at hdv
      have hdz : Nm.val (zs.drop i) = d + 4294967296 * Nm.val (zs.drop (i + 1)) := by rw [Nm.val_drop zs i hiz, hd]
      rw [← hdz] at hdv
      have hdq : Nm.val ((qs.set i z).drop i) = z + 4294967296 * Nm.val (qs.drop (i + 1)) := by
        rw [List.drop_eq_getElem_cons (by simpa using hiq), List.getElem_set_self, List.drop_set_of_lt (by omega)]
        rfl
      have hhigh := down_high (d := d) hs
      have Hi := Lib.hid hi
      have Hdv := Lib.hid hdv
      have Hdq := Lib.hid hdq
      have Hhigh := Lib.hid hhigh
      have Hz32 := Lib.hid hz32
      have ix := fun V => index32 V w.heap.size 0 n n i ((n : Int) - 1 - (k : Int)) (by omega) (by omega)
      have iy := fun V => index32 V g off n c i ((n : Int) - 1 - (k : Int)) (by omega) (by omega)
      subst hA
      clear hcell hd hr2 hqv2 hrlt hz hhe hdv hdz hdq hhigh hi hz32
      go_wp2_with fail
      have hii : n - (k + 1) = i := by have := Hi.out; omega
      refine ⟨⟨k + 1, d % 2 ^ s, qs.set i z, by omega, by go_num, by rw [← Hhigh.out]; simp, ?_, ?_, hqd.set _ Hz32.out, ?_, ?_, hb.setCell (Nat.le_refl _) _⟩, by simp [intOf]; omega⟩
      · show _ = _
        rw [hii]
        exact Hdv.out.2.symm
      · show _ = _
        rw [List.length_set]; exact hql.out
      · show _ = _
        rw [hii, Hdq.out]
        exact Hdv.out.1.symm
      · have := hown.set i z
        rwa [Nat.zero_add] at this
    · have hkn : k = n := by omega
      subst hkn
      have hfin : Nm.val qs = Nm.val zs / 2 ^ s := by
        have h1 := hqv.out
        rw [Nat.sub_self, List.drop_zero, List.drop_zero] at h1
        exact h1
      have Hf := Lib.hid hfin
      clear hfin
      go_wp2_with fail
      go_ret
      exact ⟨some ⟨w.heap.size, 0, none⟩, k, qs, rfl, Nat.le_refl _, hql, hqd, Hf, .inr ⟨_, _, rfl, Nat.le_refl _, hown⟩, hb⟩
end Go.Proofs.YtaiceebhifecbaaDoor

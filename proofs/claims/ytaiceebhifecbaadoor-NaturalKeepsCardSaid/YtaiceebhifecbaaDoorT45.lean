/-
  Contract of shiftDown. Conditions: slices of at most 1000 digits, a shift below 32. Also: Contracts of shiftUp and shiftDown. Conditions: slices of at most 1000 digits, a shift below 32.
-/
import Derived.Test.YtaiceebhifecbaaDoorT43
namespace Go.Proofs.YtaiceebhifecbaaDoor
open Go.RowKit
theorem pow_split {s : Nat} (hs : s < 32) : 4294967296 = 2 ^ (32 - s) * 2 ^ s := by
  rw [← Nat.pow_add, show 32 - s + s = 32 from by omega]
theorem up_or {D s l : Nat} (hs : s < 32) (hl : l < 2 ^ s) : bits .or .u32 ((D : Int) * 2 ^ s % 4294967296) (l : Int) = ((D * 2 ^ s % 4294967296 + l : Nat) : Int) ∧ D * 2 ^ s % 4294967296 + l < 4294967296 := by
  have hp := pow_split hs
  have h1 : D * 2 ^ s % 4294967296 = D % 2 ^ (32 - s) * 2 ^ s := by rw [hp, Nat.mul_mod_mul_right]
  have h2 : D % 2 ^ (32 - s) < 2 ^ (32 - s) := Nat.mod_lt _ (Nat.pow_pos (by omega))
  have h3 : (D % 2 ^ (32 - s) + 1) * 2 ^ s ≤ 2 ^ (32 - s) * 2 ^ s := Nat.mul_le_mul_right _ h2
  rw [← hp, Nat.succ_mul] at h3
  have h4 : D * 2 ^ s % 4294967296 < 4294967296 := Nat.mod_lt _ (by decide)
  have h5 : l < 4294967296 := by omega
  have h6 := Nat.shiftLeft_add_eq_or_of_lt hl (D % 2 ^ (32 - s))
  rw [Nat.shiftLeft_eq] at h6
  refine ⟨?_, by rw [h1]; omega⟩
  rw [show ((D : Int) * 2 ^ s % 4294967296) = ((D * 2 ^ s % 4294967296 : Nat) : Int) from by simp, u32_or_nat _ _ h4 h5, h1, ← h6]
/-- The loop of shiftUp: k digits are shifted. -/
def UpRel (BB n s : Nat) (zs : List Nat) (w : World) (ov lv iv : Value) (wr : World) : Prop :=
  ∃ (k l : Nat) (rs : List Nat) (v : Value), k ≤ n ∧ ov = v ∧ Ow BB wr v rs ∧ Hid (rs.length = k) ∧ lv = .int .u32 (l : Int) ∧ Hid (l < 2 ^ s) ∧ iv = .int .i64 (k : Int) ∧ Nm.Dig rs ∧ Hid (Nm.val rs + 4294967296 ^ k * l = Nm.val (zs.take k) * 2 ^ s) ∧ Below BB w wr ∧ BB ≤ wr.heap.size
set_option maxRecDepth 20000 in
set_option maxHeartbeats 1000000 in
theorem shiftUp_any (A : Option Addr) (n c s : Nat) (zs : List Nat) (w : World) (h : Rd w A zs) (hzd : Nm.Dig zs) (hl : zs.length = n) (hm : n ≤ 1000) (hs : s < 32) :
    Calls Tryd.prog 70 #[.slice A n c, .int .i64 (s : Int)] w fun e w' => ∃ (A' : Option Addr) (c' : Nat) (rs : List Nat), e = .returned (.slice A' (n + 1) c') ∧ n + 1 ≤ c' ∧ Hid (rs.length = n + 1) ∧ Nm.Dig rs ∧ Hid (Nm.val rs = Nm.val zs * 2 ^ s) ∧ Fr w.heap.size w' A' rs ∧ Below w.heap.size w w' := by
  have hmk := fun W => make32 0 (n + 1) (Nat.zero_le _) (by omega) 0 ((n : Int) + 1) rfl (by omega) W
  have Hl := Lib.hid hl
  clear hl
  go_enter Tryd.func70, Tryd.ntmps70
  go_wp2_with fail
  go_loopw [5, 6, 15] (fun ov lv iv wr => UpRel w.heap.size n s zs w ov lv iv wr) (fun _ _ i _ => n - (intOf i).toNat)
  case atStart =>
    refine ⟨0, 0, [], _, Nat.zero_le _, rfl, ?_, rfl, rfl, Nat.pow_pos (by omega), rfl, Nm.Dig.nil, by show _ = _; simp [Nm.val], one _ _, by simp⟩
    refine ⟨by simp [dcells], .inr ⟨w.heap.size, n + 1, _, rfl, Nat.le_refl _, (MapKept.heap_alloc w _).1, Nat.zero_le _, by simp only [maxLen]; omega, ?_, by simp [dcells]⟩⟩
    have h1 := toList_madeCells_one (Value.int .u32 0) (n + 1)
    have h2 := congrArg List.length h1
    simpa using h2
  case round =>
    obtain ⟨k, l, rs, v, hk, hv, how, hrl, rfl, hls, rfl, hrd, hval, hbj, hBj⟩ := hrel
    obtain rfl := hv.symm
    by_cases hlt : k < n
    · have hkz : k < zs.length := by rw [Hl.out]; exact hlt
      obtain ⟨g, off, hA, hr⟩ := (h.below hbj).at_ hkz
      have c1 := hr k hkz
      obtain ⟨D, hD⟩ : ∃ D, zs[k] = D := ⟨_, rfl⟩
      rw [hD] at c1
      have hor := up_or (D := D) hs hls.out
      obtain ⟨z, hz⟩ : ∃ z, D * 2 ^ s % 4294967296 + l = z := ⟨_, rfl⟩
      rw [hz] at hor
      obtain ⟨hor, hz32⟩ := hor
      have Hz := Lib.hid hz
      have Hz32 := Lib.hid hz32
      subst hA
      have HD := Lib.hid hD
      clear hr hz hz32 hD
      go_wp2_with (at_builtin
                   refine wpList_push rfl (.tmp 19) (.tmp 25) rfl w.heap.size v rs z _ 1 rfl rfl (how.other (one _ _)) (by exact digit_cell _ z) (by rw [hrl.out]; omega) (by simp; omega) ?_
                   intro v4 w4 hown4 hg4 hat4)
      have hb4 := hbj.grown (grown_alloc hg4) hBj (fun k' hk' => (World.ownsRow.lt how k' hk').1)
      have hmul := pow_split hs
      have hDlt : D < 2 ^ (32 - s) * 2 ^ s := by rw [← hmul, ← HD.out]; exact hzd.at_ hkz
      have hstep : Hid (Nm.val (rs ++ [z]) + 4294967296 ^ (k + 1) * (D / 2 ^ (32 - s)) = Nm.val (zs.take (k + 1)) * 2 ^ s) := by
        show _ = _
        have e1 := hval.out
        have e2 : D * 2 ^ s % 4294967296 + 4294967296 * (D / 2 ^ (32 - s)) = D * 2 ^ s := by
          have h1 := Nat.mod_add_div (D * 2 ^ s) 4294967296
          have h2 : D * 2 ^ s / 4294967296 = D / 2 ^ (32 - s) := by rw [hmul]; exact Nat.mul_div_mul_right _ _ (Nat.pow_pos (by omega))
          rw [h2] at h1
          exact h1
        have e3 : z + 4294967296 * (D / 2 ^ (32 - s)) = D * 2 ^ s + l := by rw [← Hz.out]; omega
        have e4 := congrArg (fun t => 4294967296 ^ k * t) e3
        simp only [Nat.mul_add] at e4
        have e5 : Nm.val [z] = z := by simp [Nm.val]
        rw [Nm.val_append, e5, hrl.out, Nm.val_take_succ zs k hkz, HD.out, Nat.pow_succ, Nat.mul_assoc, Nat.add_mul, Nat.mul_assoc]
        omega
      refine ⟨⟨k + 1, D / 2 ^ (32 - s), rs ++ [z], v4, by omega, rfl, hown4, ?_, by simp, ?_, by go_num, hrd.append (Nm.Dig.mk Hz32.out Nm.Dig.nil), hstep, hb4, Nat.le_trans hBj (grown_alloc hg4).size⟩, by simp [intOf]; omega⟩
      · show _ = _
        rw [List.length_append, hrl.out]; rfl
      · show _ < _
        exact Nat.div_lt_of_lt_mul hDlt
    · have hkn : k = n := by omega
      subst hkn
      have hl32 : l < 4294967296 := by
        have h1 := hls.out
        have h2 : 2 ^ s ≤ 2 ^ 32 := Nat.pow_le_pow_right (by omega) (by omega)
        omega
      have Hl32 := Lib.hid hl32
      clear hl32
      go_wp2_with (at_builtin
                   refine wpList_push rfl (.tmp 32) (.tmp 34) rfl w.heap.size v rs l _ 1 rfl rfl (how.other (one _ _)) (by exact digit_cell _ l) (by rw [hrl.out]; omega) (by simp; omega) ?_
                   intro v4 w4 hown4 hg4 hat4)
      have hb4 := hbj.grown (grown_alloc hg4) hBj (fun k' hk' => (World.ownsRow.lt how k' hk').1)
      obtain ⟨A', c', hve, hcc, hfr⟩ := hown4.slice
      have hlen : (rs ++ [l]).length = k + 1 := by rw [List.length_append, hrl.out]; rfl
      rw [hlen] at hve hcc
      subst hve
      go_ret
      refine ⟨A', c', rfl, hcc, rs ++ [l], hlen, hrd.append (Nm.Dig.mk Hl32.out Nm.Dig.nil), ?_, hfr, hb4⟩
      show _ = _
      have e1 := hval.out
      have e5 : Nm.val [l] = l := by simp [Nm.val]
      rw [List.take_of_length_le (by rw [Hl.out]; exact Nat.le_refl _)] at e1
      rw [Nm.val_append, e5, hrl.out]
      exact e1
end Go.Proofs.YtaiceebhifecbaaDoor
namespace Go.Proofs.YtaiceebhifecbaaDoor
open Go.RowKit
theorem down_or {d s r : Nat} (hs : s < 32) (hd : d < 4294967296) (hr : r < 2 ^ s) : bits .or .u32 ((d : Int) / 2 ^ s) ((r * 2 ^ (32 - s) : Nat) : Int) = ((d / 2 ^ s + r * 2 ^ (32 - s) : Nat) : Int) ∧ d / 2 ^ s + r * 2 ^ (32 - s) < 4294967296 := by
  have hp := pow_split hs
  have h1 : d / 2 ^ s < 2 ^ (32 - s) := Nat.div_lt_of_lt_mul (by rw [Nat.mul_comm, ← hp]; exact hd)
  have h3 : (r + 1) * 2 ^ (32 - s) ≤ 2 ^ s * 2 ^ (32 - s) := Nat.mul_le_mul_right _ hr
  rw [Nat.mul_comm (2 ^ s), ← hp, Nat.succ_mul] at h3
  have h6 := Nat.shiftLeft_add_eq_or_of_lt h1 r
  rw [Nat.shiftLeft_eq] at h6
  have hlt : d / 2 ^ s + r * 2 ^ (32 - s) < 4294967296 := by
    generalize d / 2 ^ s = D at h1
    generalize 2 ^ (32 - s) = P at h1 h3
    generalize r * P = R at h3
    omega
  have hl2 : d / 2 ^ s < 4294967296 := Nat.lt_of_le_of_lt (Nat.le_add_right _ _) hlt
  have hl3 : r * 2 ^ (32 - s) < 4294967296 := Nat.lt_of_le_of_lt (Nat.le_add_left _ _) hlt
  refine ⟨?_, hlt⟩
  rw [show ((d : Int) / 2 ^ s) = ((d / 2 ^ s : Nat) : Int) from by simp, u32_or_nat _ _ hl2 hl3, Nat.or_comm, ← h6, Nat.add_comm]
theorem down_high {d s : Nat} (hs : s < 32) : d * 2 ^ (32 - s) % 4294967296 = d % 2 ^ s * 2 ^ (32 - s) := by
  have hp := pow_split hs
  rw [hp, Nat.mul_comm (2 ^ (32 - s)) (2 ^ s), Nat.mul_mod_mul_right]
theorem down_val {d s Z : Nat} (hs : s < 32) : (d + 4294967296 * Z) / 2 ^ s = d / 2 ^ s + Z % 2 ^ s * 2 ^ (32 - s) + 4294967296 * (Z / 2 ^ s) ∧ (d + 4294967296 * Z) % 2 ^ s = d % 2 ^ s := by
  have hp := pow_split hs
  have h0 : 0 < 2 ^ s := Nat.pow_pos (by omega)
  have h1 : 4294967296 * Z = 2 ^ s * (2 ^ (32 - s) * Z) := by rw [← Nat.mul_assoc, Nat.mul_comm (2 ^ s), ← hp]
  have h2 := Nat.div_add_mod Z (2 ^ s)
  have h3 : 2 ^ (32 - s) * Z = Z % 2 ^ s * 2 ^ (32 - s) + 4294967296 * (Z / 2 ^ s) := by
    have h4 := congrArg (fun t => 2 ^ (32 - s) * t) h2
    simp only [Nat.mul_add] at h4
    rw [← Nat.mul_assoc, ← hp, Nat.mul_comm (2 ^ (32 - s)) (Z % 2 ^ s)] at h4
    omega
  refine ⟨?_, ?_⟩
  · rw [h1, Nat.add_mul_div_left _ _ h0, h3, Nat.add_assoc]
  · rw [h1, Nat.add_mul_mod_self_left]
set_option maxRecDepth 20000 in
set_option maxHeartbeats 1000000 in
theorem shiftDown_any (A : Option Addr) (n c s : Nat) (zs : List Nat) (w : World) (h : Rd w A zs) (hzd : Nm.Dig zs) (hl : zs.length = n) (hm : n ≤ 1000) (hs : s < 32) :
    Calls Tryd.prog 72 #[.slice A n c, .int .i64 (s : Int)] w fun e w' => ∃ (A' : Option Addr) (c' : Nat) (rs : List Nat), e = .returned (.slice A' n c') ∧ n ≤ c' ∧ Hid (rs.length = n) ∧ Nm.Dig rs ∧ Hid (Nm.val rs = Nm.val zs / 2 ^ s) ∧ Fr w.heap.size w' A' rs ∧ Below w.heap.size w w' := by
  have hmk := fun W => make32 n n (Nat.le_refl _) (by omega) (n : Int) (n : Int) rfl rfl W
  have Hl := Lib.hid hl
  clear hl
  go_enter Tryd.func72, Tryd.ntmps72
  go_wp2_with fail
  go_loopw [6, 14] (fun hv iv wr => ∃ (k r : Nat) (qs : List Nat), k ≤ n ∧ iv = .int .i64 (k : Int) ∧ hv = .int .u32 ((r * 2 ^ (32 - s) : Nat) : Int) ∧ Hid (r = Nm.val (zs.drop (n - k)) % 2 ^ s) ∧ Hid (qs.length = n) ∧ Nm.Dig qs ∧ Hid (Nm.val (qs.drop (n - k)) = Nm.val (zs.drop (n - k)) / 2 ^ s) ∧ Own wr w.heap.size 0 qs ∧ Below w.heap.size w wr) (fun _ i _ => n - (intOf i).toNat)
  case atStart =>
    refine ⟨0, 0, List.replicate n 0, Nat.zero_le _, rfl, by simp, ?_, by show _ = _; simp, Nm.dig_replicate _, ?_, own_made w n, one _ _⟩
    · show _ = _
      rw [Nat.sub_zero, List.drop_of_length_le (by rw [Hl.out]; exact Nat.le_refl _)]
      simp [Nm.val]
    · show _ = _
      rw [Nat.sub_zero, List.drop_of_length_le (by simp), List.drop_of_length_le (by rw [Hl.out]; exact Nat.le_refl _)]
      simp [Nm.val]
  case round =>
    obtain ⟨k, r, qs, hk, rfl, rfl, hr, hql, hqd, hqv, hown, hb⟩ := hrel
    by_cases hlt : k < n
    · obtain ⟨i, hi⟩ : ∃ i, n = i + 1 + k := ⟨n - 1 - k, by omega⟩
      have hiz : i < zs.length := by rw [Hl.out]; omega
      have hiq : i < qs.length := by rw [hql.out]; omega
      obtain ⟨g, off, hA, hcell⟩ := h.at_ hiz
      have hg := hcell.lt (by omega)
      have hgne : ¬ g = w.heap.size := by omega
      have c1 := ((seen hb).1 g (off + i) hg).trans (hcell i hiz)
      obtain ⟨d, hd⟩ : ∃ d, zs[i] = d := ⟨_, rfl⟩
      rw [hd] at c1
      have hdlt : d < 4294967296 := by rw [← hd]; exact hzd.at_ hiz
      have c2 := hown.1 i hiq
      have f2 := hown.2 i hiq
      rw [Nat.zero_add] at c2 f2
      have hr2 := hr.out
      have hqv2 := hqv.out
      rw [show n - k = i + 1 from by omega] at hr2 hqv2
      have hrlt : r < 2 ^ s := by rw [hr2]; exact Nat.mod_lt _ (Nat.pow_pos (by omega))
      obtain ⟨hor, hz32⟩ := down_or hs hdlt hrlt
      obtain ⟨z, hz⟩ : ∃ z, d / 2 ^ s + r * 2 ^ (32 - s) = z := ⟨_, rfl⟩
      rw [hz] at hor hz32
      obtain ⟨hh, hhe⟩ : ∃ hh, r * 2 ^ (32 - s) = hh := ⟨_, rfl⟩
      rw [hhe] at hor ⊢
      have hdv := down_val (d := d) (Z := Nm.val (zs.drop (i + 1))) hs
      rw [← hr2, ← hqv2, hz] at hdv
      have hdz : Nm.val (zs.drop i) = d + 4294967296 * Nm.val (zs.drop (i + 1)) := by rw [Nm.val_drop zs i hiz, hd]
      rw [← hdz] at hdv
      have hdq : Nm.val ((qs.set i z).drop i) = z + 4294967296 * Nm.val (qs.drop (i + 1)) := by
        rw [List.drop_eq_getElem_cons (by simpa using hiq), List.getElem_set_self, List.drop_set_of_lt (by omega)]
        rfl
      have hhigh := down_high (d := d) hs
      have Hi := Lib.hid hi
      have Hdv := Lib.hid hdv
      have Hdq := Lib.hid hdq
      have Hhigh := Lib.hid hhigh
      have Hz32 := Lib.hid hz32
      have ix := fun V => index32 V w.heap.size 0 n n i ((n : Int) - 1 - (k : Int)) (by omega) (by omega)
      have iy := fun V => index32 V g off n c i ((n : Int) - 1 - (k : Int)) (by omega) (by omega)
      subst hA
      clear hcell hd hr2 hqv2 hrlt hz hhe hdv hdz hdq hhigh hi hz32
      go_wp2_with fail
      have hii : n - (k + 1) = i := by have := Hi.out; omega
      refine ⟨⟨k + 1, d % 2 ^ s, qs.set i z, by omega, by go_num, by rw [← Hhigh.out]; simp, ?_, ?_, hqd.set _ Hz32.out, ?_, ?_, hb.setCell (Nat.le_refl _) _⟩, by simp [intOf]; omega⟩
      · show _ = _
        rw [hii]
        exact Hdv.out.2.symm
      · show _ = _
        rw [List.length_set]; exact hql.out
      · show _ = _
        rw [hii, Hdq.out]
        exact Hdv.out.1.symm
      · have := hown.set i z
        rwa [Nat.zero_add] at this
    · have hkn : k = n := by omega
      subst hkn
      have hfin : Nm.val qs = Nm.val zs / 2 ^ s := by
        have h1 := hqv.out
        rw [Nat.sub_self, List.drop_zero, List.drop_zero] at h1
        exact h1
      have Hf := Lib.hid hfin
      clear hfin
      go_wp2_with fail
      go_ret
      exact ⟨some ⟨w.heap.size, 0, none⟩, k, qs, rfl, Nat.le_refl _, hql, hqd, Hf, .inr ⟨_, _, rfl, Nat.le_refl _, hown⟩, hb⟩
end Go.Proofs.YtaiceebhifecbaaDoor

/-
  Contracts of shiftUp and shiftDown. Conditions: slices of at most 1000 digits, a shift below 32.
-/
import Derived.Test.YtaiceebhifecbaaDoorT43
namespace Go.Proofs.YtaiceebhifecbaaDoor
open Go.RowKit
theorem pow_split {s : Nat} (hs : s < 32) : 4294967296 = 2 ^ (32 - s) * 2 ^ s := by
  rw [← Nat.pow_add, show 32 - s + s = 32 from by omega]
theorem up_or {D s l : Nat} (hs : s < 32) (hl : l < 2 ^ s) : bits .or .u32 ((D : Int) * 2 ^ s % 4294967296) (l : Int) = ((D * 2 ^ s % 4294967296 + l : Nat) : Int) ∧ D * 2 ^ s % 4294967296 + l < 4294967296 := by
  have hp := pow_split hs
  have h1 : D * 2 ^ s % 4294967296 = D % 2 ^ (32 - s) * 2 ^ s := by rw [hp, Nat.mul_mod_mul_right]
  have h2 : D % 2 ^ (32 - s) < 2 ^ (32 - s) := Nat.mod_lt _ (Nat.pow_pos (by omega))
  have h3 : (D % 2 ^ (32 - s) + 1) * 2 ^ s ≤ 2 ^ (32 - s) * 2 ^ s := Nat.mul_le_mul_right _ h2
  rw [← hp, Nat.succ_mul] at h3
  have h4 : D * 2 ^ s % 4294967296 < 4294967296 := Nat.mod_lt _ (by decide)
  have h5 : l < 4294967296 := by omega
  have h6 := Nat.shiftLeft_add_eq_or_of_lt hl (D % 2 ^ (32 - s))
  rw [Nat.shiftLeft_eq] at h6
  refine ⟨?_, by rw [h1]; omega⟩
  rw [show ((D : Int) * 2 ^ s % 4294967296) = ((D * 2 ^ s % 4294967296 : Nat) : Int) from by simp, u32_or_nat _ _ h4 h5, h1, ← h6]
/-- The loop of shiftUp: k digits are shifted. -/
def UpRel (BB n s : Nat) (zs : List Nat) (w : World) (ov lv iv : Value) (wr : World) : Prop :=
  ∃ (k l : Nat) (rs : List Nat) (v : Value), k ≤ n ∧ ov = v ∧ Ow BB wr v rs ∧ Hid (rs.length = k) ∧ lv = .int .u32 (l : Int) ∧ Hid (l < 2 ^ s) ∧ iv = .int .i64 (k : Int) ∧ Nm.Dig rs ∧ Hid (Nm.val rs + 4294967296 ^ k * l = Nm.val (zs.take k) * 2 ^ s) ∧ Below BB w wr ∧ BB ≤ wr.heap.size
set_option maxRecDepth 20000 in
set_option maxHeartbeats 1000000 in
theorem shiftUp_any (A : Option Addr) (n c s : Nat) (zs : List Nat) (w : World) (h : Rd w A zs) (hzd : Nm.Dig zs) (hl : zs.length = n) (hm : n ≤ 1000) (hs : s < 32) :
    Calls Tryd.prog 70 #[.slice A n c, .int .i64 (s : Int)] w fun e w' => ∃ (A' : Option Addr) (c' : Nat) (rs : List Nat), e = .returned (.slice A' (n + 1) c') ∧ n + 1 ≤ c' ∧ Hid (rs.length = n + 1) ∧ Nm.Dig rs ∧ Hid (Nm.val rs = Nm.val zs * 2 ^ s) ∧ Fr w.heap.size w' A' rs ∧ Below w.heap.size w w' := by
  have hmk := fun W => make32 0 (n + 1) (Nat.zero_le _) (by omega) 0 ((n : Int) + 1) rfl (by omega) W
  have Hl := Lib.hid hl
  clear hl
  go_enter Tryd.func70, Tryd.ntmps70
  go_wp2_with fail
  go_loopw [5, 6, 15] (fun ov lv iv wr => UpRel w.heap.size n s zs w ov lv iv wr) (fun _ _ i _ => n - (intOf i).toNat)
  case atStart =>
    refine ⟨0, 0, [], _, Nat.zero_le _, rfl, ?_, rfl, rfl, Nat.pow_pos (by omega), rfl, Nm.Dig.nil, by show _ = _; simp [Nm.val], one _ _, by simp⟩
    refine ⟨by simp [dcells], .inr ⟨w.heap.size, n + 1, _, rfl, Nat.le_refl _, (MapKept.heap_alloc w _).1, Nat.zero_le _, by simp only [maxLen]; omega, ?_, by simp [dcells]⟩⟩
    have h1 := toList_madeCells_one (Value.int .u32 0) (n + 1)
    have h2 := congrArg List.length h1
    simpa using h2
  case round =>
    obtain ⟨k, l, rs, v, hk, hv, how, hrl, rfl, hls, rfl, hrd, hval, hbj, hBj⟩ := hrel
    obtain rfl := hv.symm
    by_cases hlt : k < n
    · have hkz : k < zs.length := by rw [Hl.out]; exact hlt
      obtain ⟨g, off, hA, hr⟩ := (h.below hbj).at_ hkz
      have c1 := hr k hkz
      obtain ⟨D, hD⟩ : ∃ D, zs[k] = D := ⟨_, rfl⟩
      rw [hD] at c1
      have hor := up_or (D := D) hs hls.out
      obtain ⟨z, hz⟩ : ∃ z, D * 2 ^ s % 4294967296 + l = z := ⟨_, rfl⟩
      rw [hz] at hor
      obtain ⟨hor, hz32⟩ := hor
      have Hz := Lib.hid hz
      have Hz32 := Lib.hid hz32
      subst hA
      have HD := Lib.hid hD
      clear hr hz hz32 hD
      go_wp2_with (at_builtin
                   refine wpList_push rfl (.tmp 19) (.tmp 25) rfl w.heap.size v rs z _ 1 rfl rfl (how.other (one _ _)) (by exact digit_cell _ z) (by rw [hrl.out]; omega) (by simp; omega) ?_
                   intro v4 w4 hown4 hg4 hat4)
      have hb4 := hbj.grown (grown_alloc hg4) hBj (fun k' hk' => (World.ownsRow.lt how k' hk').1)
      have hmul := pow_split hs
      have hDlt : D < 2 ^ (32 - s) * 2 ^ s := by rw [← hmul, ← HD.out]; exact hzd.at_ hkz
      have hstep : Hid (Nm.val (rs ++ [z]) + 4294967296 ^ (k + 1) * (D / 2 ^ (32 - s)) = Nm.val (zs.take (k + 1)) * 2 ^ s) := by
        show _ = _
        have e1 := hval.out
        have e2 : D * 2 ^ s % 4294967296 + 4294967296 * (D / 2 ^ (32 - s)) = D * 2 ^ s := by
          have h1 := Nat.mod_add_div (D * 2 ^ s) 4294967296
          have h2 : D * 2 ^ s / 4294967296 = D / 2 ^ (32 - s) := by rw [hmul]; exact Nat.mul_div_mul_right _ _ (Nat.pow_pos (by omega))
          rw [h2] at h1
          exact h1
        have e3 : z + 4294967296 * (D / 2 ^ (32 - s)) = D * 2 ^ s + l := by rw [← Hz.out]; omega
        have e4 := congrArg (fun t => 4294967296 ^ k * t) e3
        simp only [Nat.mul_add] at e4
        have e5 : Nm.val [z] = z := by simp [Nm.val]
        rw [Nm.val_append, e5, hrl.out, Nm.val_take_succ zs k hkz, HD.out, Nat.pow_succ, Nat.mul_assoc, Nat.add_mul, Nat.mul_assoc]
        omega
      refine ⟨⟨k + 1, D / 2 ^ (32 - s), rs ++ [z], v4, by omega, rfl, hown4, ?_, by simp, ?_, by go_num, hrd.append (Nm.Dig.mk Hz32.out Nm.Dig.nil), hstep, hb4, Nat.le_trans hBj (grown_alloc hg4).size⟩, by simp [intOf]; omega⟩
      · show _ = _
        rw [List.length_append, hrl.out]; rfl
      · show _ < _
        exact Nat.div_lt_of_lt_mul hDlt
    · have hkn : k = n := by omega
      subst hkn
      have hl32 : l < 4294967296 := by
        have h1 := hls.out
        have h2 : 2 ^ s ≤ 2 ^ 32 := Nat.pow_le_pow_right (by omega) (by omega)
        omega
      have Hl32 := Lib.hid hl32
      clear hl32
      go_wp2_with (at_builtin
                   refine wpList_push rfl (.tmp 32) (.tmp 34) rfl w.heap.size v rs l _ 1 rfl rfl (how.other (one _ _)) (by exact digit_cell _ l) (by rw [hrl.out]; omega) (by simp; omega) ?_
                   intro v4 w4 hown4 hg4 hat4)
      have hb4 := hbj.grown (grown_alloc hg4) hBj (fun k' hk' => (World.ownsRow.lt how k' hk').1)
      obtain ⟨A', c', hve, hcc, hfr⟩ := hown4.slice
      have hlen : (rs ++ [l]).length = k + 1 := by rw [List.length_append, hrl.out]; rfl
      rw [hlen] at hve hcc
      subst hve
      go_ret
      refine ⟨A', c', rfl, hcc, rs ++ [l], hlen, hrd.append (Nm.Dig.mk Hl32.out Nm.Dig.nil), ?_, hfr, hb4⟩
      show _ = _
      have e1 := hval.out
      have e5 : Nm.val [l] = l := by simp [Nm.val]
      rw [List.take_of_length_le (by rw [Hl.out]; exact Nat.le_refl _)] at e1
      rw [Nm.val_append, e5, hrl.out]
      exact e1
end Go.Proofs.YtaiceebhifecbaaDoor

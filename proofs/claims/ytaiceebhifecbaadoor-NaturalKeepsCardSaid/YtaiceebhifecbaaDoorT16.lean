/-
  Contracts of group and timesGroupPlus. Conditions: at most 9 decimal digits; slices of at most 400 digits.
-/
import Derived.Test.YtaiceebhifecbaaDoorT15
import Derived.Deep.RegionHeld3
import Derived.BigRegion
import Derived.Deep.RegionLaw
import Derived.Deep.RegionWith
namespace Go.Proofs.YtaiceebhifecbaaDoor
open Go.RowKit
namespace Nm
/-- The number of decimal digits, told by their bytes. -/
def dval (l : List Nat) : Nat := l.foldl (fun a c => 10 * a + (c - 48)) 0
theorem dval_snoc (l : List Nat) (c : Nat) : dval (l ++ [c]) = 10 * dval l + (c - 48) := by simp [dval]
theorem dfold (m : List Nat) (a : Nat) : m.foldl (fun a c => 10 * a + (c - 48)) a = 10 ^ m.length * a + m.foldl (fun a c => 10 * a + (c - 48)) 0 := by
  induction m generalizing a with
  | nil => simp
  | cons c m ih =>
    simp only [List.foldl_cons, List.length_cons, Nat.pow_succ]
    rw [ih (10 * a + (c - 48)), ih (10 * 0 + (c - 48)), Nat.mul_add, ← Nat.mul_assoc]
    simp only [Nat.mul_zero, Nat.zero_add]
    omega
theorem dval_append (l m : List Nat) : dval (l ++ m) = 10 ^ m.length * dval l + dval m := by
  simp only [dval, List.foldl_append]
  exact dfold m _
theorem alldec.take {l : List Nat} (h : alldec l) (k : Nat) : alldec (l.take k) := fun c hc => h c (List.mem_of_mem_take hc)
theorem alldec.drop {l : List Nat} (h : alldec l) (k : Nat) : alldec (l.drop k) := fun c hc => h c (List.mem_of_mem_drop hc)
theorem dval_lt (l : List Nat) (h : alldec l) : dval l < 10 ^ l.length := by
  induction l with
  | nil => simp [dval]
  | cons c l ih =>
    have h1 := h c (by simp)
    have h2 := ih (fun x hx => h x (by simp [hx]))
    have h3 := dval_append [c] l
    have h4 : dval [c] = c - 48 := by simp [dval]
    rw [List.singleton_append, h4] at h3
    rw [h3, List.length_cons, Nat.pow_succ]
    have h5 : 10 ^ l.length * (c - 48) ≤ 10 ^ l.length * 9 := Nat.mul_le_mul_left _ (by omega)
    omega
theorem dval_take_succ (l : List Nat) (k : Nat) (c : Nat) (h : l[k]? = some c) : dval (l.take (k + 1)) = 10 * dval (l.take k) + (c - 48) := by
  obtain ⟨hk, hc⟩ := List.getElem?_eq_some_iff.1 h
  rw [List.take_succ_eq_append_getElem hk, dval_snoc, hc]
end Nm
set_option maxHeartbeats 400000 in
theorem group_any (s : ByteArray) (w : World) (hs : s.size ≤ 9) (hd : Nm.alldec (Bt s)) :
    Calls Tryd.prog 52 #[.string s] w fun e w' => e = .returned (.int .u32 (Nm.dval (Bt s))) ∧ w = w' := by
  have hl := Bt_length s
  have Hl := Lib.hid hl
  clear hl
  go_enter Tryd.func52, Tryd.ntmps52
  go_wp2_with fail
  go_loop [3, 7] (fun n i => ∃ k d : Nat, k ≤ s.size ∧ i = .int .i64 k ∧ n = .int .u32 d ∧ Hid (d = Nm.dval ((Bt s).take k))) (fun _ i => s.size - (intOf i).toNat)
  case atStart => exact ⟨0, 0, Nat.zero_le _, rfl, rfl, rfl⟩
  case round =>
    obtain ⟨k, d, hk, rfl, rfl, hdk⟩ := hrel
    by_cases hlt : k < s.size
    · have hat := Bt_at s k hlt
      obtain ⟨c, hc⟩ : ∃ c : Nat, s[k].toNat = c := ⟨_, rfl⟩
      rw [hc] at hat
      have hcd := hd c (List.mem_of_getElem? hat)
      have hsn := Nm.dval_take_succ (Bt s) k c hat
      have hb : d < 100000000 := by
        have h1 := Nm.dval_lt _ (hd.take k)
        rw [← hdk.out, List.length_take, Nat.min_eq_left (by have := Hl.out; omega)] at h1
        have h2 : 10 ^ k ≤ 10 ^ 8 := Nat.pow_le_pow_right (by omega) (by omega)
        omega
      have Hsn := Lib.hid hsn
      have hc1 : 48 ≤ (c : Int) := by omega
      have hc2 : (c : Int) ≤ 57 := by omega
      have hb2 : (d : Int) < 100000000 := by omega
      clear hat hsn hcd
      go_wp2_with fail
      refine ⟨⟨k + 1, 10 * d + (c - 48), by omega, by go_num, ?_, ?_⟩, by simp [intOf]; omega⟩
      · congr 1; omega
      · show _ = _
        rw [Hsn.out, ← hdk.out]
    · have hkk : k = s.size := by omega
      have hfin : d = Nm.dval (Bt s) := by
        rw [hdk.out, hkk, List.take_of_length_le (by have := Hl.out; omega)]
      have Hf := Lib.hid hfin
      clear hkk hfin
      go_wp2_with fail
      go_ret
      exact ⟨ret_int (by rw [← Hf.out]), rfl⟩
theorem addTimes_big (g off n c : Nat) (B : Option Addr) (zs ys : List Nat) (w : World) (ho : Own w g off zs) (hy : Rd w B ys) (hfar : Off g B ys) (hzd : Nm.Dig zs) (hyd : Nm.Dig ys) (hl0 : zs.length = n) (hyl : ys.length = n) (hm : n ≤ 1000) :
    Calls Tryd.prog 46 #[.slice (some ⟨g, off, none⟩) n c, .slice B n n, .int .u32 1000000000] w fun e w' => ∃ (rs : List Nat) (o : Nat), e = .returned (.int .u32 o) ∧ Hid (rs.length = n) ∧ Nm.Dig rs ∧ o < 4294967296 ∧ Hid (Nm.val rs + 4294967296 ^ n * o = Nm.val zs + Nm.val ys * 1000000000) ∧ Wr w w' g off rs := by
  have h := addTimes_n g off n c B n n 1000000000 zs ys w ho hy hfar hzd hyd hl0 hyl rfl hm (by omega)
  rwa [show (((1000000000 : Nat) : Int)) = 1000000000 from rfl] at h
theorem slice_to (g off N C j : Nat) (b : Int) (hb : b = (j : Int)) (h2 : j ≤ C) (h3 : 0 < C) (W : World) :
    (Instr.sliceAt 22 (.slice (some ⟨g, off, none⟩) N C) none (some (.int .i64 b)) none).run Tryd.prog W = .ok (.slice (some ⟨g, off, none⟩) j C) W := by
  obtain ⟨t, ht, _, hs, _⟩ := info35_parts
  subst hb
  have hu : Tryd.prog.underlying 22 = some (.slice (Tryd.prog.elem 22)) := by kernel_rfl
  have he : Tryd.prog.elem 22 = 35 := by kernel_rfl
  rw [run_sliceAt_slice (h := hu), run_slice_h (ht := hu) (h0 := by omega) (h2 := by omega), he]
  simp [sliced, sizeOf, typeInfo, ht, hs, Addr.add_lit, show C ≠ 0 from by omega]
theorem plus_lim {n x o r z p : Nat} {rs ps : List Nat} (h1 : Nm.val (ps.take n) + 4294967296 ^ n * x = r) (h2 : Nm.val rs + 4294967296 ^ n * o = Nm.val (ps.take n) + z * 1000000000) (hz : z < 4294967296 ^ n) (hr : r < 1000000000) (hp : p = x + o) :
    Nm.val rs + 4294967296 ^ n * p = z * 1000000000 + r ∧ p < 1000000000 := by
  subst hp
  rw [Nat.mul_add]
  have hpos : 0 < 4294967296 ^ n := Nat.pow_pos (by omega)
  have h3 : Nm.val rs + (4294967296 ^ n * x + 4294967296 ^ n * o) = z * 1000000000 + r := by omega
  refine ⟨h3, ?_⟩
  rcases Nat.lt_or_ge (x + o) 1000000000 with h | h
  · exact h
  · have h4 : 4294967296 ^ n * 1000000000 ≤ 4294967296 ^ n * (x + o) := Nat.mul_le_mul_left _ h
    rw [Nat.mul_add] at h4
    omega
theorem set_last {rs ps : List Nat} {n p : Nat} (hr : rs.length = n) (hp : ps.length = n + 1) : Nm.val ((rs ++ ps.drop n).set n p) = Nm.val rs + 4294967296 ^ n * p := by
  rw [List.set_append_right _ _ (by omega), hr, Nat.sub_self, Nm.val_append, hr]
  obtain ⟨x, hx⟩ : ∃ x, ps.drop n = [x] := List.length_eq_one_iff.1 (by simp; omega)
  rw [hx]
  simp [Nm.val]
set_option maxHeartbeats 400000 in
theorem timesGroupPlus_any (A : Option Addr) (n r : Nat) (zs : List Nat) (w : World) (hz : Rd w A zs) (hzd : Nm.Dig zs) (hzl : zs.length = n) (hn : n ≤ 400) (hr : r < 1000000000) :
    Calls Tryd.prog 51 #[.slice A n n, .int .u32 r] w fun e w' => ∃ (A' : Option Addr) (rs : List Nat), e = .returned (.slice A' (n + 1) (n + 1)) ∧ Hid (rs.length = n + 1) ∧ Nm.Dig rs ∧ Hid (Nm.val rs = Nm.val zs * 1000000000 + r) ∧ Fr w.heap.size w' A' rs ∧ Below w.heap.size w w' := by
  have hmk := fun W => make32 (n + 1) (n + 1) (Nat.le_refl _) (by omega) ((n : Int) + 1) ((n : Int) + 1) (by omega) (by omega) W
  have HZl := Lib.hid hzl
  clear hzl
  have hm0 : (madeCells #[Value.int IntKind.u32 0] (n + 1))[0]? = some (Value.int IntKind.u32 0) := by
    have h1 := toList_madeCells_one (Value.int .u32 0) (n + 1)
    rw [← Array.getElem?_toList, h1, List.getElem?_replicate, if_pos (by omega)]
  have hown : Own (w.alloc (Obj.cells ((madeCells #[Value.int IntKind.u32 0] (n + 1)).setIfInBounds 0 (Value.int IntKind.u32 (r : Int))) 35)) w.heap.size 0 (r :: List.replicate n 0) :=
    Row.new w 35 _ _ fun i hi => by
      have h1 := toList_madeCells_one (Value.int .u32 0) (n + 1)
      have hi' : i < n + 1 := by simpa using hi
      rw [Array.getElem?_setIfInBounds]
      cases i with
      | zero => simp [size_madeCells]
      | succ i =>
        rw [if_neg (by omega), ← Array.getElem?_toList, h1, List.getElem?_replicate, if_pos hi']
        simp
  have hbel : Below w.heap.size w (w.alloc (Obj.cells ((madeCells #[Value.int IntKind.u32 0] (n + 1)).setIfInBounds 0 (Value.int IntKind.u32 (r : Int))) 35)) := one _ _
  have hsz : (w.alloc (Obj.cells ((madeCells #[Value.int IntKind.u32 0] (n + 1)).setIfInBounds 0 (Value.int IntKind.u32 (r : Int))) 35)).heap.size = w.heap.size + 1 := by simp
  go_enter Tryd.func51, Tryd.ntmps51
  go_wp2_with fail
  generalize (w.alloc (Obj.cells ((madeCells #[Value.int IntKind.u32 0] (n + 1)).setIfInBounds 0 (Value.int IntKind.u32 (r : Int))) 35)) = W at *
  obtain ⟨ps, hps⟩ : ∃ ps, r :: List.replicate n 0 = ps := ⟨_, rfl⟩
  rw [hps] at hown
  have hpl : ps.length = n + 1 := by rw [← hps]; simp
  have hpd : Nm.Dig ps := by rw [← hps]; exact Nm.Dig.mk (by omega) (Nm.dig_replicate n)
  have hpv : Nm.val ps = r := by rw [← hps]; simp only [Nm.val]; rw [Nm.val_replicate]; omega
  have hnp : n < ps.length := by omega
  obtain ⟨x, hx⟩ : ∃ x, ps[n] = x := ⟨_, rfl⟩
  have c1 := hown.1 n hnp
  have f1 := hown.2 n hnp
  rw [hx, Nat.zero_add] at c1
  rw [Nat.zero_add] at f1
  have hxlt : x < 4294967296 := by rw [← hx]; exact hpd.at_ hnp
  have hps2 : Nm.val (ps.take n) + 4294967296 ^ n * x = r := by
    have h1 := Nm.val_take_succ ps n hnp
    rw [List.take_of_length_le (by omega), hpv, hx] at h1
    exact h1.symm
  have Hps := Lib.hid hps2
  have Hpl := Lib.hid hpl
  clear hps hpl hpv hx hps2 hmk hm0
  have hzW := hz.below hbel
  have hpart : Own W w.heap.size 0 (ps.take n) := by have := hown.part 0 n; simpa using this
  have ix := fun V => index32 V w.heap.size 0 (n + 1) (n + 1) n (n : Int) rfl (by omega)
  have sl := fun V => slice_to w.heap.size 0 (n + 1) (n + 1) n (n : Int) rfl (by omega) (by omega) V
  have hzlt : Nm.val zs < 4294967296 ^ n := by have := Nm.val_lt hzd; rwa [HZl.out] at this
  go_region_with ((go_at_call 46; refine (addTimes_big w.heap.size 0 n (n + 1) A (ps.take n) zs W.drew hpart hzW (hz.offOf (Nat.le_refl _)) (hpd.take n) hzd (by have := Hpl.out; simp; omega) HZl.out (by omega)).mono ?_; rintro e w2 ⟨rs, o, rfl, hrl, hrd, ho1, hv, hwr⟩; have c2 : w2.cell? ⟨w.heap.size, n, none⟩ = some (.int .u32 (x : Int)) := (hwr.rest n (.inr (by rw [hrl.out]; omega))).trans c1; have f2 : w2.frozen? ⟨w.heap.size, n, none⟩ = false := (hwr.soft n).trans f1; have hlim := (plus_lim Hps.out hv.out hzlt hr rfl).2))
  all_goals
    have hf2 := plus_lim Hps.out hv.out hzlt hr rfl
    have hown2 : Own w2 w.heap.size 0 (rs ++ ps.drop n) := by
      have := hown.splice (k := 0) (w' := w2) (rs := rs) (by rw [Nat.zero_add]; exact ⟨⟨hwr.grown.os, hwr.grown.tape, hwr.grown.output, hwr.grown.size, hwr.grown.block⟩, hwr.size, hwr.own, hwr.rest, hwr.soft⟩) (by rw [hrl.out, Hpl.out]; omega)
      simpa [hrl.out] using this
    have hset := hown2.set n (x + o)
    have hwrap : IntKind.u32.wrap ((x : Int) + (o : Int)) = ((x + o : Nat) : Int) := by rw [IntKind.wrap_u32]; omega
    rw [Nat.zero_add] at hset
    have hb2 : Below w.heap.size w w2 := hwr.below (below_drewN hbel 1) (Nat.le_refl _) (by show _ ≤ W.heap.size; omega)
    have hF := Lib.hid (And.intro hf2 (And.intro hset hb2))
    clear hf2 hown2 hset
    go_wp2_with fail
    go_ret
    refine ⟨some ⟨w.heap.size, 0, none⟩, (rs ++ ps.drop n).set n (x + o), rfl, ?_, ?_, ?_, .inr ⟨_, _, rfl, Nat.le_refl _, ?_⟩, ?_⟩
    · show _ = _
      have := hrl.out; have := Hpl.out
      simp; omega
    · exact (hrd.append (hpd.drop n)).set _ (by omega)
    · show _ = _
      rw [set_last hrl.out Hpl.out]
      exact hF.out.1.1
    · rw [hwrap]
      exact hF.out.2.1
    · exact hF.out.2.2.setCell (Nat.le_refl _) _
end Go.Proofs.YtaiceebhifecbaaDoor

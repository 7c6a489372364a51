/-
  The law of validity: it returns true. No conditions.
-/
import Derived.Test.YtaiceebhifecbaaDoorOb3
namespace Go.Proofs.YtaiceebhifecbaaDoor
open Go.RowKit
theorem c_valid (xs : List Nat) (b : Bool) (hb : decide (Nm.tlen xs = xs.length) = b) : ∀ v w, (Fact.num xs).holds v w → Calls Tryd.prog 26 #[v] w (Ret (Fact.eq (.bool b)) w) := by
  rintro v w ⟨A, c, rfl, h⟩
  subst hb
  exact (valid_any A c xs w h.rd h.cap (by have := h.small; omega)).mono fun e w' ⟨he, hb⟩ => ⟨_, he, hb, rfl⟩
theorem c_refValid (xs : List Nat) (b : Bool) (hb : decide (Nm.tlen xs = xs.length) = b) : ∀ v w, (Fact.num xs).holds v w → Calls Tryd.prog 27 #[v] w (Ret (Fact.eq (.bool b)) w) := by
  rintro v w ⟨A, c, rfl, h⟩
  subst hb
  exact (refValid_any A c xs w h.rd (by have := h.small; omega)).mono fun e w' ⟨he, hb⟩ => ⟨_, he, hb, rfl⟩
/-- What is known of the slots of the last region. -/
def validF (b : Bool) (r : Nat) (xs zs : List Nat) (t : Nat) : Fact := (([(1, Fact.eq (.int .u64 (r : Int))), (2, Fact.var xs), (4, Fact.eq (.bool true)), (5, Fact.var zs), (6, Fact.eq (.int .u64 (r : Int))), (34, Fact.num xs), (35, Fact.eq (.bool b)), (36, Fact.num xs), (37, Fact.eq (.bool b)), (38, Fact.eq (.bool true)), (39, Fact.eq (.bool true)), (40, Fact.num zs), (41, Fact.eq (.bool true)), (42, Fact.eq (.bool true)), (43, Fact.eq (.bool true)), (44, Fact.num zs), (45, Fact.eq (.bool true)), (46, Fact.eq (.bool true)), (47, Fact.eq (.bool true)), (48, Fact.eq (.int .u64 (r : Int))), (49, Fact.eq (.int .u64 (r : Int))), (50, Fact.eq (.bool true)), (51, Fact.eq (.bool true)), (52, Fact.eq (.bool true)), (53, Fact.eq (.bool true)), (54, Fact.eq (.bool true))] : List (Nat × Fact)).lookup t).getD Fact.any
set_option maxRecDepth 100000 in
set_option maxHeartbeats 1000000 in
theorem valid_law (A : Option Addr) (a : Nat) (xs : List Nat) (v : Nat) (w : World) (hx : Rd w A xs) (cx : xs.length ≤ a) (dx : Nm.Dig xs) (hv : v < 18446744073709551616) :
    Calls Tryd.prog 4 #[nt A (xs.length) a, .int .u64 (v : Int)] w fun e w' => e = .returned (.bool true) ∧ Below w.heap.size w w' := by
  go_enter Tryd.func4, Tryd.ntmps4
  by_cases h12 : 12 < xs.length
  · go_wp2_with fail
    refine (awake_any _).mono ?_
    rintro e wa ⟨rfl, hsa⟩
    go_wp2_with fail
    exact bodyPost_ret (v := .bool true) (by first | rfl | kernel_rfl) rfl ⟨rfl, up (one _ _) hsa⟩
  have vx : Arg _ w.heap.size A (xs.length) a xs := Arg.at_ (c := a) (n := (xs.length)) (w := w) hx (by simp)
  have hb := one w (Obj.cells #[Value.slice A (xs.length) a] 24)
  obtain ⟨zs, hz⟩ : ∃ zs, Nm.nat v = zs := ⟨_, rfl⟩
  have hzl : zs.length ≤ 2 := by rw [← hz]; exact Nm.nat_len hv
  go_wp2_with fail
  refine (of_n v zs hv hz).mono ?_
  rintro e w1 ⟨B, c, rfl, hc, hf, hs⟩
  have vx := vx.below hs
  have hb := up hb hs
  have nn := hf.num hc (hz ▸ Nm.dig_nat v) (by omega)
  clear hc hf hs
  have vx := vx.below (one _ (Obj.cells #[Value.slice B zs.length c] 24))
  have vn := Var.new nn
  have vx2 : Var _ _ _ _ _ _ := ⟨vx.lt, vx.cell, vx.rd, rfl, cx, dx, by omega⟩
  have hb := hb.alloc hb.size (Obj.cells #[Value.slice B zs.length c] 24)
  have rd := nn.rd.below (one _ (Obj.cells #[Value.slice B zs.length c] 24))
  clear nn
  have kvx := vx.cell
  have kvn := vn.cell
  have hzv : Nm.val zs = v := by rw [← hz, Nm.val_nat]
  have hzd : Nm.Dig zs := hz ▸ Nm.dig_nat v
  have Hz := Lib.hid hzv
  have hzt : Nm.tlen zs = zs.length := by rw [← hz, Nm.tlen_nat]
  have Ht := Lib.hid hzt
  clear hzv hzt hz
  go_wp2_with fail
  go_loop [6, 7] (fun bk i => ∃ k r : Nat, k ≤ zs.length ∧ i = .int .i64 ((k : Int) - 1) ∧ bk = .int .u64 (r : Int) ∧ Hid (r = Nm.val (zs.drop k))) (fun _ i => (intOf i + 1).toNat)
  case atStart => exact ⟨zs.length, 0, Nat.le_refl _, rfl, rfl, by rw [List.drop_length]; rfl⟩
  case round =>
    obtain ⟨k, r, hk, rfl, rfl, hr⟩ := hrel
    rcases Nat.eq_zero_or_pos k with h0 | h0
    · subst h0
      have hrv : r = v := by have h1 := hr.out; rw [List.drop_zero] at h1; rw [h1, Hz.out]
      subst hrv
      clear hr
      go_wp2_with fail
      rename_i hK _
      obtain ⟨b, hbx⟩ : ∃ b, decide (Nm.tlen xs = xs.length) = b := ⟨_, rfl⟩
      refine wp_region_stable (by kernel_rfl) (validF b r xs zs) [1, 2, 5, 6] 55 rfl (by kernel_rfl) ?_ ?_ ?_
      · intro t ht
        simp only [List.mem_cons, List.not_mem_nil, or_false] at ht
        rcases ht with rfl | rfl | rfl | rfl
        · rfl
        · exact ⟨_, _, _, rfl, vx2⟩
        · exact ⟨_, _, _, rfl, vn⟩
        · rfl
      · refine List.forall_mem_cons.2 ⟨ob_load 2 34 xs rfl rfl (by first | exact .inl rfl | exact .inr ⟨_, _, _, rfl, rfl, by kernel_rfl, by decide, rfl⟩) (by kernel_rfl) rfl rfl, ?_⟩
        refine List.forall_mem_cons.2 ⟨ob_call1 26 34 35 _ rfl rfl (by first | exact .inl rfl | exact .inr ⟨_, _, _, rfl, rfl, by kernel_rfl, by decide, rfl⟩) (by kernel_rfl) (by kernel_rfl) (c_valid xs b hbx), ?_⟩
        refine List.forall_mem_cons.2 ⟨ob_load 2 36 xs rfl rfl (by first | exact .inl rfl | exact .inr ⟨_, _, _, rfl, rfl, by kernel_rfl, by decide, rfl⟩) (by kernel_rfl) rfl rfl, ?_⟩
        refine List.forall_mem_cons.2 ⟨ob_call1 27 36 37 _ rfl rfl (by first | exact .inl rfl | exact .inr ⟨_, _, _, rfl, rfl, by kernel_rfl, by decide, rfl⟩) (by kernel_rfl) (by kernel_rfl) (c_refValid xs b hbx), ?_⟩
        refine List.forall_mem_cons.2 ⟨ob_two 35 37 38 _ _ (.bool true) rfl (by first | exact .inl rfl | exact .inr ⟨_, _, _, rfl, rfl, by kernel_rfl, by decide, rfl⟩) (by kernel_rfl) (by kernel_rfl) rfl rfl rfl (fun a w h1 h2 => (go_eql_bool _ _ a w 35 37 _ rfl h1 h2).trans (by rw [beq_self_eq_true])), ?_⟩
        refine List.forall_mem_cons.2 ⟨ob_copy 38 39 (.inl rfl) rfl (by first | exact .inl rfl | exact .inr ⟨_, _, _, rfl, rfl, by kernel_rfl, by decide, rfl⟩) (by kernel_rfl) rfl, ?_⟩
        refine List.forall_mem_cons.2 ⟨ob_load 5 40 zs rfl rfl (by first | exact .inl rfl | exact .inr ⟨_, _, _, rfl, rfl, by kernel_rfl, by decide, rfl⟩) (by kernel_rfl) rfl rfl, ?_⟩
        refine List.forall_mem_cons.2 ⟨ob_call1 26 40 41 _ rfl rfl (by first | exact .inl rfl | exact .inr ⟨_, _, _, rfl, rfl, by kernel_rfl, by decide, rfl⟩) (by kernel_rfl) (by kernel_rfl) (c_valid zs true (decide_eq_true Ht.out)), ?_⟩
        refine List.forall_mem_cons.2 ⟨ob_pick 39 41 42 _ rfl rfl (by first | exact .inl rfl | exact .inr ⟨_, _, _, rfl, rfl, by kernel_rfl, by decide, rfl⟩) (by kernel_rfl) (by kernel_rfl) rfl rfl, ?_⟩
        refine List.forall_mem_cons.2 ⟨ob_copy 42 43 (.inl rfl) rfl (by first | exact .inl rfl | exact .inr ⟨_, _, _, rfl, rfl, by kernel_rfl, by decide, rfl⟩) (by kernel_rfl) rfl, ?_⟩
        refine List.forall_mem_cons.2 ⟨ob_load 5 44 zs rfl rfl (by first | exact .inl rfl | exact .inr ⟨_, _, _, rfl, rfl, by kernel_rfl, by decide, rfl⟩) (by kernel_rfl) rfl rfl, ?_⟩
        refine List.forall_mem_cons.2 ⟨ob_call1 27 44 45 _ rfl rfl (by first | exact .inl rfl | exact .inr ⟨_, _, _, rfl, rfl, by kernel_rfl, by decide, rfl⟩) (by kernel_rfl) (by kernel_rfl) (c_refValid zs true (decide_eq_true Ht.out)), ?_⟩
        refine List.forall_mem_cons.2 ⟨ob_pick 43 45 46 _ rfl rfl (by first | exact .inl rfl | exact .inr ⟨_, _, _, rfl, rfl, by kernel_rfl, by decide, rfl⟩) (by kernel_rfl) (by kernel_rfl) rfl rfl, ?_⟩
        refine List.forall_mem_cons.2 ⟨ob_copy 46 47 (.inl rfl) rfl (by first | exact .inl rfl | exact .inr ⟨_, _, _, rfl, rfl, by kernel_rfl, by decide, rfl⟩) (by kernel_rfl) rfl, ?_⟩
        refine List.forall_mem_cons.2 ⟨ob_copy 6 48 (.inl rfl) rfl (by first | exact .inl rfl | exact .inr ⟨_, _, _, rfl, rfl, by kernel_rfl, by decide, rfl⟩) (by kernel_rfl) rfl, ?_⟩
        refine List.forall_mem_cons.2 ⟨ob_copy 1 49 (.inl rfl) rfl (by first | exact .inl rfl | exact .inr ⟨_, _, _, rfl, rfl, by kernel_rfl, by decide, rfl⟩) (by kernel_rfl) rfl, ?_⟩
        refine List.forall_mem_cons.2 ⟨ob_two 48 49 50 _ _ (.bool true) rfl (by first | exact .inl rfl | exact .inr ⟨_, _, _, rfl, rfl, by kernel_rfl, by decide, rfl⟩) (by kernel_rfl) (by kernel_rfl) rfl rfl rfl (fun a w h1 h2 => (go_eql_int _ _ a w 48 49 _ _ _ _ rfl h1 h2).trans (by rw [beq_self_eq_true])), ?_⟩
        refine List.forall_mem_cons.2 ⟨ob_pick 47 50 51 _ rfl rfl (by first | exact .inl rfl | exact .inr ⟨_, _, _, rfl, rfl, by kernel_rfl, by decide, rfl⟩) (by kernel_rfl) (by kernel_rfl) rfl rfl, ?_⟩
        refine List.forall_mem_cons.2 ⟨ob_copy 51 52 (.inl rfl) rfl (by first | exact .inl rfl | exact .inr ⟨_, _, _, rfl, rfl, by kernel_rfl, by decide, rfl⟩) (by kernel_rfl) rfl, ?_⟩
        refine List.forall_mem_cons.2 ⟨ob_call0 13 53 _ rfl rfl (by first | exact .inl rfl | exact .inr ⟨_, _, _, rfl, rfl, by kernel_rfl, by decide, rfl⟩) (by kernel_rfl) c_awake, ?_⟩
        refine List.forall_mem_cons.2 ⟨ob_pick 52 53 54 _ rfl rfl (by first | exact .inl rfl | exact .inr ⟨_, _, _, rfl, rfl, by kernel_rfl, by decide, rfl⟩) (by kernel_rfl) (by kernel_rfl) rfl rfl, ?_⟩
        refine List.forall_mem_cons.2 ⟨ob_copy 54 4 (.inr rfl) rfl (by first | exact .inl rfl | exact .inr ⟨_, _, _, rfl, rfl, by kernel_rfl, by decide, rfl⟩) (by kernel_rfl) rfl, ?_⟩
        exact fun _ h => absurd h List.not_mem_nil
      · intro a' w' hdef hsz hbs hall hoth hbel
        have hres : a'.tmps.getD 4 undef = .bool true := hall 21 4 rfl
        refine hK _ _ ?_
        apply wp_ret
        exact bodyPost_ret (v := .bool true) (by rw [results_tmp (t := 4) rfl, hres]) hdef ⟨rfl, up hb hbel⟩
    · obtain ⟨j, rfl⟩ : ∃ j, k = j + 1 := ⟨k - 1, by omega⟩
      obtain ⟨g, off, hA, hcell⟩ := rd.at_ (i := j) (by omega)
      subst hA
      have hck := hcell j (by omega)
      have hat : zs.drop j = zs[j] :: zs.drop (j + 1) := List.drop_eq_getElem_cons (by omega)
      have hstep : Nm.val (zs.drop j) = zs[j] + 4294967296 * r := by rw [hat, hr.out]; rfl
      have hle : zs[j] + 4294967296 * r < 18446744073709551616 := by
        rw [← hstep]
        have h1 := Nm.val_split zs j (by omega)
        have h2 : Nm.val (zs.drop j) ≤ 4294967296 ^ j * Nm.val (zs.drop j) := Nat.le_mul_of_pos_left _ (Nat.pow_pos (by omega))
        rw [Hz.out] at h1
        omega
      have hd := hzd.at_ (i := j) (by omega)
      obtain ⟨x, hx⟩ : ∃ x, zs[j] = x := ⟨_, rfl⟩
      rw [hx] at hck hstep hle hd
      have Hs := Lib.hid hstep
      clear hcell hat hstep hx
      have Hd := Lib.hid hd
      have Hl := Lib.hid hle
      obtain ⟨p, hp⟩ : ∃ p, r * 4294967296 = p := ⟨_, rfl⟩
      have hpi : (r : Int) * 4294967296 = (p : Int) := by rw [← hp]; simp
      have hp2 : p < 18446744073709551616 := by omega
      have hp3 : p + x < 18446744073709551616 := by omega
      have Hp := Lib.hid hp
      clear hp
      have hp4 : (p : Int) < 18446744073709551616 := by omega
      have hp5 : (p : Int) + x < 18446744073709551616 := by omega
      clear hp2 hp3
      clear hd hle hv hp4 hp5
      go_wp2_with fail
      have hw : IntKind.u64.wrap (IntKind.u64.wrap (p : Int) + IntKind.u64.wrap (x : Int)) = ((p + x : Nat) : Int) := by
        have h1 := Hl.out
        have h2 := Hp.out
        have h3 := Hs.out
        simp [IntKind.wrap, IntKind.signed, IntKind.bits]
        omega
      refine ⟨⟨j, p + x, by omega, rfl, by rw [hw], ?_⟩, by simp [intOf]⟩
      show _ = _
      rw [Hs.out, ← Hp.out]
      omega
end Go.Proofs.YtaiceebhifecbaaDoor

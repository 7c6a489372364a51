/-
  The law of the ring: it returns true. No conditions.
-/
import Derived.Test.YtaiceebhifecbaaDoorT22
namespace Go.Proofs.YtaiceebhifecbaaDoor
open Go.RowKit
/-- What is known of the slots of the last region. -/
def ringF (xs ys zs : List Nat) (t : Nat) : Fact := (([(3, Fact.var xs), (4, Fact.var ys), (5, Fact.var zs), (6, Fact.eq (.bool true)), (7, Fact.var (Nm.nat (Nm.val xs + Nm.val ys))), (8, Fact.var (Nm.nat (Nm.val xs * Nm.val ys))), (9, Fact.var xs), (10, Fact.eq (.bool true)), (37, Fact.num (Nm.nat (Nm.val xs + Nm.val ys))), (38, Fact.num ys), (39, Fact.num xs), (40, Fact.num (Nm.nat (Nm.val xs + Nm.val ys))), (41, Fact.eq (.bool true)), (42, Fact.eq (.bool true)), (43, Fact.num (Nm.nat (Nm.val xs * Nm.val ys))), (44, Fact.num ys), (45, Fact.num xs), (46, Fact.num (Nm.nat (Nm.val xs * Nm.val ys))), (47, Fact.eq (.bool true)), (48, Fact.eq (.bool true)), (49, Fact.eq (.bool true)), (50, Fact.num (Nm.nat (Nm.val xs + Nm.val ys))), (51, Fact.num zs), (52, Fact.num (Nm.nat (Nm.val xs + Nm.val ys + Nm.val zs))), (53, Fact.num xs), (54, Fact.num ys), (55, Fact.num zs), (56, Fact.num (Nm.nat (Nm.val ys + Nm.val zs))), (57, Fact.num (Nm.nat (Nm.val xs + Nm.val ys + Nm.val zs))), (58, Fact.eq (.bool true)), (59, Fact.eq (.bool true)), (60, Fact.eq (.bool true)), (61, Fact.num (Nm.nat (Nm.val xs * Nm.val ys))), (62, Fact.num zs), (63, Fact.num (Nm.nat (Nm.val xs * Nm.val ys * Nm.val zs))), (64, Fact.num xs), (65, Fact.num ys), (66, Fact.num zs), (67, Fact.num (Nm.nat (Nm.val ys * Nm.val zs))), (68, Fact.num (Nm.nat (Nm.val xs * Nm.val ys * Nm.val zs))), (69, Fact.eq (.bool true)), (70, Fact.eq (.bool true)), (71, Fact.eq (.bool true)), (72, Fact.num (Nm.nat (Nm.val xs + Nm.val ys))), (73, Fact.num zs), (74, Fact.num (Nm.nat (Nm.val xs * Nm.val zs + Nm.val ys * Nm.val zs))), (75, Fact.num xs), (76, Fact.num zs), (77, Fact.num (Nm.nat (Nm.val xs * Nm.val zs))), (78, Fact.num ys), (79, Fact.num zs), (80, Fact.num (Nm.nat (Nm.val ys * Nm.val zs))), (81, Fact.num (Nm.nat (Nm.val xs * Nm.val zs + Nm.val ys * Nm.val zs))), (82, Fact.eq (.bool true)), (83, Fact.eq (.bool true)), (84, Fact.eq (.bool true)), (85, Fact.num xs), (86, Fact.num xs), (87, Fact.eq (.bool true)), (88, Fact.eq (.bool true)), (89, Fact.eq (.bool true)), (90, Fact.eq (.bool true)), (91, Fact.eq (.bool true)), (92, Fact.eq (.bool true)), (93, Fact.eq (.bool true)), (94, Fact.eq (.bool true))] : List (Nat × Fact)).lookup t).getD Fact.any
set_option maxRecDepth 100000 in
set_option maxHeartbeats 1000000 in
theorem ring_any (A B C : Option Addr) (a b c : Nat) (xs ys zs : List Nat) (w : World) (hx : Rd w A xs) (hy : Rd w B ys) (hz : Rd w C zs) (cx : xs.length ≤ a) (cy : ys.length ≤ b) (cz : zs.length ≤ c) (dx : Nm.Dig xs) (dy : Nm.Dig ys) (dz : Nm.Dig zs) :
    Calls Tryd.prog 7 #[nt A (xs.length) a, nt B (ys.length) b, nt C (zs.length) c] w fun e w' => e = .returned (.bool true) ∧ Below w.heap.size w w' := by
  go_enter Tryd.func7, Tryd.ntmps7
  go_wp2_with fail
  have vx : Arg _ w.heap.size A (xs.length) a xs := Arg.at_ (c := a) (n := (xs.length)) (w := w) hx (by simp)
  have vy : Arg _ (w.heap.size + 1) B (ys.length) b ys := Arg.at_ (c := b) (n := (ys.length)) (w := (w.alloc (Obj.cells #[Value.slice A (xs.length) a] 24))) (hy.below (one _ (Obj.cells #[Value.slice A (xs.length) a] 24))) (by simp)
  have vx := vx.below (one _ (Obj.cells #[Value.slice B (ys.length) b] 24))
  have vz : Arg _ (w.heap.size + 1 + 1) C (zs.length) c zs := Arg.at_ (c := c) (n := (zs.length)) (w := ((w.alloc (Obj.cells #[Value.slice A (xs.length) a] 24)).alloc (Obj.cells #[Value.slice B (ys.length) b] 24))) ((hz.below (one _ (Obj.cells #[Value.slice A (xs.length) a] 24))).below (one _ (Obj.cells #[Value.slice B (ys.length) b] 24))) (by simp)
  have vx := vx.below (one _ (Obj.cells #[Value.slice C (zs.length) c] 24))
  have vy := vy.below (one _ (Obj.cells #[Value.slice C (zs.length) c] 24))
  have hb := (have h := (have h := one w (Obj.cells #[Value.slice A (xs.length) a] 24); h.alloc h.size (Obj.cells #[Value.slice B (ys.length) b] 24)); h.alloc h.size (Obj.cells #[Value.slice C (zs.length) c] 24))
  clear hx hy hz
  cases hfx : decide (xs.length ≤ 12 ∧ Nm.tlen xs = xs.length) with
  | false =>
    refine (few_is a vx.rd rfl hfx).mono ?_
    rintro e w1 ⟨rfl, hs1⟩
    have vx := vx.below hs1
    have vy := vy.below hs1
    have vz := vz.below hs1
    have hb := up hb hs1
    clear hs1
    have kvx := vx.cell
    have kvy := vy.cell
    have kvz := vz.cell
    go_wp2_with fail
    clear kvx kvy kvz
    refine (awake_any _).mono ?_
    rintro e wa ⟨rfl, hsa⟩
    go_wp2_with fail
    exact bodyPost_ret (v := .bool true) (by first | rfl | kernel_rfl) rfl ⟨rfl, up hb hsa⟩
  | true =>
    refine (few_is a vx.rd rfl hfx).mono ?_
    rintro e w1 ⟨rfl, hs1⟩
    have vx := vx.below hs1
    have vy := vy.below hs1
    have vz := vz.below hs1
    have hb := up hb hs1
    clear hs1
    have kvx := vx.cell
    have kvy := vy.cell
    have kvz := vz.cell
    go_wp2_with fail
    clear kvx kvy kvz
    cases hfy : decide (ys.length ≤ 12 ∧ Nm.tlen ys = ys.length) with
    | false =>
      refine (few_is b vy.rd rfl hfy).mono ?_
      rintro e w2 ⟨rfl, hs2⟩
      have vx := vx.below hs2
      have vy := vy.below hs2
      have vz := vz.below hs2
      have hb := up hb hs2
      clear hs2
      have kvx := vx.cell
      have kvy := vy.cell
      have kvz := vz.cell
      go_wp2_with fail
      clear kvx kvy kvz
      refine (awake_any _).mono ?_
      rintro e wa ⟨rfl, hsa⟩
      go_wp2_with fail
      exact bodyPost_ret (v := .bool true) (by first | rfl | kernel_rfl) rfl ⟨rfl, up hb hsa⟩
    | true =>
      refine (few_is b vy.rd rfl hfy).mono ?_
      rintro e w2 ⟨rfl, hs2⟩
      have vx := vx.below hs2
      have vy := vy.below hs2
      have vz := vz.below hs2
      have hb := up hb hs2
      clear hs2
      have kvx := vx.cell
      have kvy := vy.cell
      have kvz := vz.cell
      go_wp2_with fail
      clear kvx kvy kvz
      cases hfz : decide (zs.length ≤ 12 ∧ Nm.tlen zs = zs.length) with
      | false =>
        refine (few_is c vz.rd rfl hfz).mono ?_
        rintro e w3 ⟨rfl, hs3⟩
        have vx := vx.below hs3
        have vy := vy.below hs3
        have vz := vz.below hs3
        have hb := up hb hs3
        clear hs3
        have kvx := vx.cell
        have kvy := vy.cell
        have kvz := vz.cell
        go_wp2_with fail
        clear kvx kvy kvz
        refine (awake_any _).mono ?_
        rintro e wa ⟨rfl, hsa⟩
        go_wp2_with fail
        exact bodyPost_ret (v := .bool true) (by first | rfl | kernel_rfl) rfl ⟨rfl, up hb hsa⟩
      | true =>
        refine (few_is c vz.rd rfl hfz).mono ?_
        rintro e w3 ⟨rfl, hs3⟩
        have vx := vx.below hs3
        have vy := vy.below hs3
        have vz := vz.below hs3
        have hb := up hb hs3
        clear hs3
        have kvx := vx.cell
        have kvy := vy.cell
        have kvz := vz.cell
        go_wp2_with fail
        clear kvx kvy kvz
        have vx := vx.var rfl cx dx hfx
        have sx := Nm.Sz.val dx hfx
        have ex := Nm.canon dx hfx
        have vy := vy.var rfl cy dy hfy
        have sy := Nm.Sz.val dy hfy
        have ey := Nm.canon dy hfy
        have vz := vz.var rfl cz dz hfz
        have sz := Nm.Sz.val dz hfz
        have ez := Nm.canon dz hfz
        clear hfx cx dx
        clear hfy cy dy
        clear hfz cz dz
        refine (add_n vx.num vy.num (Nm.nat (Nm.val xs + Nm.val ys)) rfl).mono ?_
        rintro e w4 ⟨As, cs, rfl, hc, hf, hs⟩
        have vx := vx.below hs
        have vy := vy.below hs
        have vz := vz.below hs
        have hb := up hb hs
        have ns := hf.num hc (Nm.dig_nat _) ((sx.add sy (by decide)).len (by decide))
        clear hc hf hs
        have vx := vx.below (one _ (Obj.cells #[Value.slice As (Nm.nat (Nm.val xs + Nm.val ys)).length cs] 24))
        have vy := vy.below (one _ (Obj.cells #[Value.slice As (Nm.nat (Nm.val xs + Nm.val ys)).length cs] 24))
        have vz := vz.below (one _ (Obj.cells #[Value.slice As (Nm.nat (Nm.val xs + Nm.val ys)).length cs] 24))
        have vs := Var.new ns
        have hb := hb.alloc hb.size (Obj.cells #[Value.slice As (Nm.nat (Nm.val xs + Nm.val ys)).length cs] 24)
        clear ns
        have kvx := vx.cell
        have kvy := vy.cell
        have kvz := vz.cell
        have kvs := vs.cell
        go_wp2_with fail
        clear kvx kvy kvz kvs
        refine (mul_n vx.num vy.num (Nm.nat (Nm.val xs * Nm.val ys)) rfl).mono ?_
        rintro e w5 ⟨Ap, cp, rfl, hc, hf, hs⟩
        have vx := vx.below hs
        have vy := vy.below hs
        have vz := vz.below hs
        have vs := vs.below hs
        have hb := up hb hs
        have np := hf.num hc (Nm.dig_nat _) ((sx.mul sy).len (by decide))
        clear hc hf hs
        have vx := vx.below (one _ (Obj.cells #[Value.slice Ap (Nm.nat (Nm.val xs * Nm.val ys)).length cp] 24))
        have vy := vy.below (one _ (Obj.cells #[Value.slice Ap (Nm.nat (Nm.val xs * Nm.val ys)).length cp] 24))
        have vz := vz.below (one _ (Obj.cells #[Value.slice Ap (Nm.nat (Nm.val xs * Nm.val ys)).length cp] 24))
        have vs := vs.below (one _ (Obj.cells #[Value.slice Ap (Nm.nat (Nm.val xs * Nm.val ys)).length cp] 24))
        have vp := Var.new np
        have hb := hb.alloc hb.size (Obj.cells #[Value.slice Ap (Nm.nat (Nm.val xs * Nm.val ys)).length cp] 24)
        clear np
        have kvx := vx.cell
        have kvy := vy.cell
        have kvz := vz.cell
        have kvs := vs.cell
        have kvp := vp.cell
        go_wp2_with fail
        clear kvx kvy kvz kvs kvp
        refine (sub_n vs.num vy.num xs true (by rw [Nm.val_nat, Nat.add_sub_cancel, ex]) (by rw [Nm.val_nat]; exact decide_eq_true (Nat.le_add_left _ _))).mono ?_
        rintro e w6 ⟨Ad, cd, rfl, hc, hf, hs⟩
        have vx := vx.below hs
        have vy := vy.below hs
        have vz := vz.below hs
        have vs := vs.below hs
        have vp := vp.below hs
        have hb := up hb hs
        have nd := hf.num hc (ex ▸ Nm.dig_nat _) (by rw [← ex]; exact sx.len (by decide))
        clear hc hf hs
        have vx := vx.below (one _ (Obj.cells #[Value.slice Ad xs.length cd] 24))
        have vy := vy.below (one _ (Obj.cells #[Value.slice Ad xs.length cd] 24))
        have vz := vz.below (one _ (Obj.cells #[Value.slice Ad xs.length cd] 24))
        have vs := vs.below (one _ (Obj.cells #[Value.slice Ad xs.length cd] 24))
        have vp := vp.below (one _ (Obj.cells #[Value.slice Ad xs.length cd] 24))
        have vd := Var.new nd
        have hb := hb.alloc hb.size (Obj.cells #[Value.slice Ad xs.length cd] 24)
        clear nd
        have kvx := vx.cell
        have kvy := vy.cell
        have kvz := vz.cell
        have kvs := vs.cell
        have kvp := vp.cell
        have kvd := vd.cell
        go_wp2_with fail
        clear kvx kvy kvz kvs kvp kvd
        refine wp_region_stable (by kernel_rfl) (ringF xs ys zs) [3, 4, 5, 7, 8, 9, 10] 95 rfl (by kernel_rfl) ?_ ?_ ?_
        · intro t ht
          simp only [List.mem_cons, List.not_mem_nil, or_false] at ht
          rcases ht with rfl | rfl | rfl | rfl | rfl | rfl | rfl
          · exact ⟨_, _, _, rfl, vx⟩
          · exact ⟨_, _, _, rfl, vy⟩
          · exact ⟨_, _, _, rfl, vz⟩
          · exact ⟨_, _, _, rfl, vs⟩
          · exact ⟨_, _, _, rfl, vp⟩
          · exact ⟨_, _, _, rfl, vd⟩
          · rfl
        · refine List.forall_mem_cons.2 ⟨ob_load 7 37 (Nm.nat (Nm.val xs + Nm.val ys)) rfl rfl (by first | exact .inl rfl | exact .inr ⟨_, _, _, rfl, rfl, by kernel_rfl, by decide, rfl⟩) (by kernel_rfl) rfl rfl, ?_⟩
          refine List.forall_mem_cons.2 ⟨ob_load 4 38 ys rfl rfl (by first | exact .inl rfl | exact .inr ⟨_, _, _, rfl, rfl, by kernel_rfl, by decide, rfl⟩) (by kernel_rfl) rfl rfl, ?_⟩
          refine List.forall_mem_cons.2 ⟨ob_load 3 39 xs rfl rfl (by first | exact .inl rfl | exact .inr ⟨_, _, _, rfl, rfl, by kernel_rfl, by decide, rfl⟩) (by kernel_rfl) rfl rfl, ?_⟩
          refine List.forall_mem_cons.2 ⟨ob_call2 19 38 39 40 _ rfl rfl (by first | exact .inl rfl | exact .inr ⟨_, _, _, rfl, rfl, by kernel_rfl, by decide, rfl⟩) (by kernel_rfl) (by kernel_rfl) (by kernel_rfl) (c_add ys xs (Nm.nat (Nm.val xs + Nm.val ys)) (by rw [Nat.add_comm]) ((sx.add sy (by decide)).len (by decide))), ?_⟩
          refine List.forall_mem_cons.2 ⟨ob_call2 18 37 40 41 _ rfl rfl (by first | exact .inl rfl | exact .inr ⟨_, _, _, rfl, rfl, by kernel_rfl, by decide, rfl⟩) (by kernel_rfl) (by kernel_rfl) (by kernel_rfl) (c_same (Nm.nat (Nm.val xs + Nm.val ys)) (Nm.nat (Nm.val xs + Nm.val ys)) true (decide_eq_true rfl)), ?_⟩
          refine List.forall_mem_cons.2 ⟨ob_copy 41 42 (.inl rfl) rfl (by first | exact .inl rfl | exact .inr ⟨_, _, _, rfl, rfl, by kernel_rfl, by decide, rfl⟩) (by kernel_rfl) rfl, ?_⟩
          refine List.forall_mem_cons.2 ⟨ob_load 8 43 (Nm.nat (Nm.val xs * Nm.val ys)) rfl rfl (by first | exact .inl rfl | exact .inr ⟨_, _, _, rfl, rfl, by kernel_rfl, by decide, rfl⟩) (by kernel_rfl) rfl rfl, ?_⟩
          refine List.forall_mem_cons.2 ⟨ob_load 4 44 ys rfl rfl (by first | exact .inl rfl | exact .inr ⟨_, _, _, rfl, rfl, by kernel_rfl, by decide, rfl⟩) (by kernel_rfl) rfl rfl, ?_⟩
          refine List.forall_mem_cons.2 ⟨ob_load 3 45 xs rfl rfl (by first | exact .inl rfl | exact .inr ⟨_, _, _, rfl, rfl, by kernel_rfl, by decide, rfl⟩) (by kernel_rfl) rfl rfl, ?_⟩
          refine List.forall_mem_cons.2 ⟨ob_call2 21 44 45 46 _ rfl rfl (by first | exact .inl rfl | exact .inr ⟨_, _, _, rfl, rfl, by kernel_rfl, by decide, rfl⟩) (by kernel_rfl) (by kernel_rfl) (by kernel_rfl) (c_mul ys xs (Nm.nat (Nm.val xs * Nm.val ys)) (by rw [Nat.mul_comm]) ((sx.mul sy).len (by decide))), ?_⟩
          refine List.forall_mem_cons.2 ⟨ob_call2 18 43 46 47 _ rfl rfl (by first | exact .inl rfl | exact .inr ⟨_, _, _, rfl, rfl, by kernel_rfl, by decide, rfl⟩) (by kernel_rfl) (by kernel_rfl) (by kernel_rfl) (c_same (Nm.nat (Nm.val xs * Nm.val ys)) (Nm.nat (Nm.val xs * Nm.val ys)) true (decide_eq_true rfl)), ?_⟩
          refine List.forall_mem_cons.2 ⟨ob_pick 42 47 48 _ rfl rfl (by first | exact .inl rfl | exact .inr ⟨_, _, _, rfl, rfl, by kernel_rfl, by decide, rfl⟩) (by kernel_rfl) (by kernel_rfl) rfl rfl, ?_⟩
          refine List.forall_mem_cons.2 ⟨ob_copy 48 49 (.inl rfl) rfl (by first | exact .inl rfl | exact .inr ⟨_, _, _, rfl, rfl, by kernel_rfl, by decide, rfl⟩) (by kernel_rfl) rfl, ?_⟩
          refine List.forall_mem_cons.2 ⟨ob_load 7 50 (Nm.nat (Nm.val xs + Nm.val ys)) rfl rfl (by first | exact .inl rfl | exact .inr ⟨_, _, _, rfl, rfl, by kernel_rfl, by decide, rfl⟩) (by kernel_rfl) rfl rfl, ?_⟩
          refine List.forall_mem_cons.2 ⟨ob_load 5 51 zs rfl rfl (by first | exact .inl rfl | exact .inr ⟨_, _, _, rfl, rfl, by kernel_rfl, by decide, rfl⟩) (by kernel_rfl) rfl rfl, ?_⟩
          refine List.forall_mem_cons.2 ⟨ob_call2 19 50 51 52 _ rfl rfl (by first | exact .inl rfl | exact .inr ⟨_, _, _, rfl, rfl, by kernel_rfl, by decide, rfl⟩) (by kernel_rfl) (by kernel_rfl) (by kernel_rfl) (c_add (Nm.nat (Nm.val xs + Nm.val ys)) zs (Nm.nat (Nm.val xs + Nm.val ys + Nm.val zs)) (by rw [Nm.val_nat]) (((sx.add sy (by decide)).add sz (by decide)).len (by decide))), ?_⟩
          refine List.forall_mem_cons.2 ⟨ob_load 3 53 xs rfl rfl (by first | exact .inl rfl | exact .inr ⟨_, _, _, rfl, rfl, by kernel_rfl, by decide, rfl⟩) (by kernel_rfl) rfl rfl, ?_⟩
          refine List.forall_mem_cons.2 ⟨ob_load 4 54 ys rfl rfl (by first | exact .inl rfl | exact .inr ⟨_, _, _, rfl, rfl, by kernel_rfl, by decide, rfl⟩) (by kernel_rfl) rfl rfl, ?_⟩
          refine List.forall_mem_cons.2 ⟨ob_load 5 55 zs rfl rfl (by first | exact .inl rfl | exact .inr ⟨_, _, _, rfl, rfl, by kernel_rfl, by decide, rfl⟩) (by kernel_rfl) rfl rfl, ?_⟩
          refine List.forall_mem_cons.2 ⟨ob_call2 19 54 55 56 _ rfl rfl (by first | exact .inl rfl | exact .inr ⟨_, _, _, rfl, rfl, by kernel_rfl, by decide, rfl⟩) (by kernel_rfl) (by kernel_rfl) (by kernel_rfl) (c_add ys zs (Nm.nat (Nm.val ys + Nm.val zs)) rfl ((sy.add sz (by decide)).len (by decide))), ?_⟩
          refine List.forall_mem_cons.2 ⟨ob_call2 19 53 56 57 _ rfl rfl (by first | exact .inl rfl | exact .inr ⟨_, _, _, rfl, rfl, by kernel_rfl, by decide, rfl⟩) (by kernel_rfl) (by kernel_rfl) (by kernel_rfl) (c_add xs (Nm.nat (Nm.val ys + Nm.val zs)) (Nm.nat (Nm.val xs + Nm.val ys + Nm.val zs)) (by rw [Nm.val_nat, Nat.add_assoc]) (((sx.add sy (by decide)).add sz (by decide)).len (by decide))), ?_⟩
          refine List.forall_mem_cons.2 ⟨ob_call2 18 52 57 58 _ rfl rfl (by first | exact .inl rfl | exact .inr ⟨_, _, _, rfl, rfl, by kernel_rfl, by decide, rfl⟩) (by kernel_rfl) (by kernel_rfl) (by kernel_rfl) (c_same (Nm.nat (Nm.val xs + Nm.val ys + Nm.val zs)) (Nm.nat (Nm.val xs + Nm.val ys + Nm.val zs)) true (decide_eq_true rfl)), ?_⟩
          refine List.forall_mem_cons.2 ⟨ob_pick 49 58 59 _ rfl rfl (by first | exact .inl rfl | exact .inr ⟨_, _, _, rfl, rfl, by kernel_rfl, by decide, rfl⟩) (by kernel_rfl) (by kernel_rfl) rfl rfl, ?_⟩
          refine List.forall_mem_cons.2 ⟨ob_copy 59 60 (.inl rfl) rfl (by first | exact .inl rfl | exact .inr ⟨_, _, _, rfl, rfl, by kernel_rfl, by decide, rfl⟩) (by kernel_rfl) rfl, ?_⟩
          refine List.forall_mem_cons.2 ⟨ob_load 8 61 (Nm.nat (Nm.val xs * Nm.val ys)) rfl rfl (by first | exact .inl rfl | exact .inr ⟨_, _, _, rfl, rfl, by kernel_rfl, by decide, rfl⟩) (by kernel_rfl) rfl rfl, ?_⟩
          refine List.forall_mem_cons.2 ⟨ob_load 5 62 zs rfl rfl (by first | exact .inl rfl | exact .inr ⟨_, _, _, rfl, rfl, by kernel_rfl, by decide, rfl⟩) (by kernel_rfl) rfl rfl, ?_⟩
          refine List.forall_mem_cons.2 ⟨ob_call2 21 61 62 63 _ rfl rfl (by first | exact .inl rfl | exact .inr ⟨_, _, _, rfl, rfl, by kernel_rfl, by decide, rfl⟩) (by kernel_rfl) (by kernel_rfl) (by kernel_rfl) (c_mul (Nm.nat (Nm.val xs * Nm.val ys)) zs (Nm.nat (Nm.val xs * Nm.val ys * Nm.val zs)) (by rw [Nm.val_nat]) (((sx.mul sy).mul sz).len (by decide))), ?_⟩
          refine List.forall_mem_cons.2 ⟨ob_load 3 64 xs rfl rfl (by first | exact .inl rfl | exact .inr ⟨_, _, _, rfl, rfl, by kernel_rfl, by decide, rfl⟩) (by kernel_rfl) rfl rfl, ?_⟩
          refine List.forall_mem_cons.2 ⟨ob_load 4 65 ys rfl rfl (by first | exact .inl rfl | exact .inr ⟨_, _, _, rfl, rfl, by kernel_rfl, by decide, rfl⟩) (by kernel_rfl) rfl rfl, ?_⟩
          refine List.forall_mem_cons.2 ⟨ob_load 5 66 zs rfl rfl (by first | exact .inl rfl | exact .inr ⟨_, _, _, rfl, rfl, by kernel_rfl, by decide, rfl⟩) (by kernel_rfl) rfl rfl, ?_⟩
          refine List.forall_mem_cons.2 ⟨ob_call2 21 65 66 67 _ rfl rfl (by first | exact .inl rfl | exact .inr ⟨_, _, _, rfl, rfl, by kernel_rfl, by decide, rfl⟩) (by kernel_rfl) (by kernel_rfl) (by kernel_rfl) (c_mul ys zs (Nm.nat (Nm.val ys * Nm.val zs)) rfl ((sy.mul sz).len (by decide))), ?_⟩
          refine List.forall_mem_cons.2 ⟨ob_call2 21 64 67 68 _ rfl rfl (by first | exact .inl rfl | exact .inr ⟨_, _, _, rfl, rfl, by kernel_rfl, by decide, rfl⟩) (by kernel_rfl) (by kernel_rfl) (by kernel_rfl) (c_mul xs (Nm.nat (Nm.val ys * Nm.val zs)) (Nm.nat (Nm.val xs * Nm.val ys * Nm.val zs)) (by rw [Nm.val_nat, Nat.mul_assoc]) (((sx.mul sy).mul sz).len (by decide))), ?_⟩
          refine List.forall_mem_cons.2 ⟨ob_call2 18 63 68 69 _ rfl rfl (by first | exact .inl rfl | exact .inr ⟨_, _, _, rfl, rfl, by kernel_rfl, by decide, rfl⟩) (by kernel_rfl) (by kernel_rfl) (by kernel_rfl) (c_same (Nm.nat (Nm.val xs * Nm.val ys * Nm.val zs)) (Nm.nat (Nm.val xs * Nm.val ys * Nm.val zs)) true (decide_eq_true rfl)), ?_⟩
          refine List.forall_mem_cons.2 ⟨ob_pick 60 69 70 _ rfl rfl (by first | exact .inl rfl | exact .inr ⟨_, _, _, rfl, rfl, by kernel_rfl, by decide, rfl⟩) (by kernel_rfl) (by kernel_rfl) rfl rfl, ?_⟩
          refine List.forall_mem_cons.2 ⟨ob_copy 70 71 (.inl rfl) rfl (by first | exact .inl rfl | exact .inr ⟨_, _, _, rfl, rfl, by kernel_rfl, by decide, rfl⟩) (by kernel_rfl) rfl, ?_⟩
          refine List.forall_mem_cons.2 ⟨ob_load 7 72 (Nm.nat (Nm.val xs + Nm.val ys)) rfl rfl (by first | exact .inl rfl | exact .inr ⟨_, _, _, rfl, rfl, by kernel_rfl, by decide, rfl⟩) (by kernel_rfl) rfl rfl, ?_⟩
          refine List.forall_mem_cons.2 ⟨ob_load 5 73 zs rfl rfl (by first | exact .inl rfl | exact .inr ⟨_, _, _, rfl, rfl, by kernel_rfl, by decide, rfl⟩) (by kernel_rfl) rfl rfl, ?_⟩
          refine List.forall_mem_cons.2 ⟨ob_call2 21 72 73 74 _ rfl rfl (by first | exact .inl rfl | exact .inr ⟨_, _, _, rfl, rfl, by kernel_rfl, by decide, rfl⟩) (by kernel_rfl) (by kernel_rfl) (by kernel_rfl) (c_mul (Nm.nat (Nm.val xs + Nm.val ys)) zs (Nm.nat (Nm.val xs * Nm.val zs + Nm.val ys * Nm.val zs)) (by rw [Nm.val_nat, Nat.add_mul]) (((sx.mul sz).add (sy.mul sz) (by decide)).len (by decide))), ?_⟩
          refine List.forall_mem_cons.2 ⟨ob_load 3 75 xs rfl rfl (by first | exact .inl rfl | exact .inr ⟨_, _, _, rfl, rfl, by kernel_rfl, by decide, rfl⟩) (by kernel_rfl) rfl rfl, ?_⟩
          refine List.forall_mem_cons.2 ⟨ob_load 5 76 zs rfl rfl (by first | exact .inl rfl | exact .inr ⟨_, _, _, rfl, rfl, by kernel_rfl, by decide, rfl⟩) (by kernel_rfl) rfl rfl, ?_⟩
          refine List.forall_mem_cons.2 ⟨ob_call2 21 75 76 77 _ rfl rfl (by first | exact .inl rfl | exact .inr ⟨_, _, _, rfl, rfl, by kernel_rfl, by decide, rfl⟩) (by kernel_rfl) (by kernel_rfl) (by kernel_rfl) (c_mul xs zs (Nm.nat (Nm.val xs * Nm.val zs)) rfl ((sx.mul sz).len (by decide))), ?_⟩
          refine List.forall_mem_cons.2 ⟨ob_load 4 78 ys rfl rfl (by first | exact .inl rfl | exact .inr ⟨_, _, _, rfl, rfl, by kernel_rfl, by decide, rfl⟩) (by kernel_rfl) rfl rfl, ?_⟩
          refine List.forall_mem_cons.2 ⟨ob_load 5 79 zs rfl rfl (by first | exact .inl rfl | exact .inr ⟨_, _, _, rfl, rfl, by kernel_rfl, by decide, rfl⟩) (by kernel_rfl) rfl rfl, ?_⟩
          refine List.forall_mem_cons.2 ⟨ob_call2 21 78 79 80 _ rfl rfl (by first | exact .inl rfl | exact .inr ⟨_, _, _, rfl, rfl, by kernel_rfl, by decide, rfl⟩) (by kernel_rfl) (by kernel_rfl) (by kernel_rfl) (c_mul ys zs (Nm.nat (Nm.val ys * Nm.val zs)) rfl ((sy.mul sz).len (by decide))), ?_⟩
          refine List.forall_mem_cons.2 ⟨ob_call2 19 77 80 81 _ rfl rfl (by first | exact .inl rfl | exact .inr ⟨_, _, _, rfl, rfl, by kernel_rfl, by decide, rfl⟩) (by kernel_rfl) (by kernel_rfl) (by kernel_rfl) (c_add (Nm.nat (Nm.val xs * Nm.val zs)) (Nm.nat (Nm.val ys * Nm.val zs)) (Nm.nat (Nm.val xs * Nm.val zs + Nm.val ys * Nm.val zs)) (by rw [Nm.val_nat, Nm.val_nat]) (((sx.mul sz).add (sy.mul sz) (by decide)).len (by decide))), ?_⟩
          refine List.forall_mem_cons.2 ⟨ob_call2 18 74 81 82 _ rfl rfl (by first | exact .inl rfl | exact .inr ⟨_, _, _, rfl, rfl, by kernel_rfl, by decide, rfl⟩) (by kernel_rfl) (by kernel_rfl) (by kernel_rfl) (c_same (Nm.nat (Nm.val xs * Nm.val zs + Nm.val ys * Nm.val zs)) (Nm.nat (Nm.val xs * Nm.val zs + Nm.val ys * Nm.val zs)) true (decide_eq_true rfl)), ?_⟩
          refine List.forall_mem_cons.2 ⟨ob_pick 71 82 83 _ rfl rfl (by first | exact .inl rfl | exact .inr ⟨_, _, _, rfl, rfl, by kernel_rfl, by decide, rfl⟩) (by kernel_rfl) (by kernel_rfl) rfl rfl, ?_⟩
          refine List.forall_mem_cons.2 ⟨ob_copy 83 84 (.inl rfl) rfl (by first | exact .inl rfl | exact .inr ⟨_, _, _, rfl, rfl, by kernel_rfl, by decide, rfl⟩) (by kernel_rfl) rfl, ?_⟩
          refine List.forall_mem_cons.2 ⟨ob_load 9 85 xs rfl rfl (by first | exact .inl rfl | exact .inr ⟨_, _, _, rfl, rfl, by kernel_rfl, by decide, rfl⟩) (by kernel_rfl) rfl rfl, ?_⟩
          refine List.forall_mem_cons.2 ⟨ob_load 3 86 xs rfl rfl (by first | exact .inl rfl | exact .inr ⟨_, _, _, rfl, rfl, by kernel_rfl, by decide, rfl⟩) (by kernel_rfl) rfl rfl, ?_⟩
          refine List.forall_mem_cons.2 ⟨ob_call2 18 85 86 87 _ rfl rfl (by first | exact .inl rfl | exact .inr ⟨_, _, _, rfl, rfl, by kernel_rfl, by decide, rfl⟩) (by kernel_rfl) (by kernel_rfl) (by kernel_rfl) (c_same xs xs true (decide_eq_true rfl)), ?_⟩
          refine List.forall_mem_cons.2 ⟨ob_pick 84 87 88 _ rfl rfl (by first | exact .inl rfl | exact .inr ⟨_, _, _, rfl, rfl, by kernel_rfl, by decide, rfl⟩) (by kernel_rfl) (by kernel_rfl) rfl rfl, ?_⟩
          refine List.forall_mem_cons.2 ⟨ob_copy 88 89 (.inl rfl) rfl (by first | exact .inl rfl | exact .inr ⟨_, _, _, rfl, rfl, by kernel_rfl, by decide, rfl⟩) (by kernel_rfl) rfl, ?_⟩
          refine List.forall_mem_cons.2 ⟨ob_copy 10 90 (.inl rfl) rfl (by first | exact .inl rfl | exact .inr ⟨_, _, _, rfl, rfl, by kernel_rfl, by decide, rfl⟩) (by kernel_rfl) rfl, ?_⟩
          refine List.forall_mem_cons.2 ⟨ob_pick 89 90 91 _ rfl rfl (by first | exact .inl rfl | exact .inr ⟨_, _, _, rfl, rfl, by kernel_rfl, by decide, rfl⟩) (by kernel_rfl) (by kernel_rfl) rfl rfl, ?_⟩
          refine List.forall_mem_cons.2 ⟨ob_copy 91 92 (.inl rfl) rfl (by first | exact .inl rfl | exact .inr ⟨_, _, _, rfl, rfl, by kernel_rfl, by decide, rfl⟩) (by kernel_rfl) rfl, ?_⟩
          refine List.forall_mem_cons.2 ⟨ob_call0 13 93 _ rfl rfl (by first | exact .inl rfl | exact .inr ⟨_, _, _, rfl, rfl, by kernel_rfl, by decide, rfl⟩) (by kernel_rfl) c_awake, ?_⟩
          refine List.forall_mem_cons.2 ⟨ob_pick 92 93 94 _ rfl rfl (by first | exact .inl rfl | exact .inr ⟨_, _, _, rfl, rfl, by kernel_rfl, by decide, rfl⟩) (by kernel_rfl) (by kernel_rfl) rfl rfl, ?_⟩
          refine List.forall_mem_cons.2 ⟨ob_copy 94 6 (.inr rfl) rfl (by first | exact .inl rfl | exact .inr ⟨_, _, _, rfl, rfl, by kernel_rfl, by decide, rfl⟩) (by kernel_rfl) rfl, ?_⟩
          exact fun _ h => absurd h List.not_mem_nil
        · intro a' w' hdef hsz hbs hall hoth hbel
          have hres : a'.tmps.getD 6 undef = .bool true := hall 58 6 rfl
          rename_i hK
          refine hK _ _ ?_
          apply wp_ret
          exact bodyPost_ret (v := .bool true) (by rw [results_tmp (t := 6) rfl, hres]) hdef ⟨rfl, up hb hbel⟩
end Go.Proofs.YtaiceebhifecbaaDoor

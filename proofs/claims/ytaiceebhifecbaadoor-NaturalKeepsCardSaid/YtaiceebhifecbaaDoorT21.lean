/-
  Contract of awake: it returns true. No conditions.
-/
import Derived.Test.YtaiceebhifecbaaDoorOb2
namespace Go.Proofs.YtaiceebhifecbaaDoor
open Go.RowKit
theorem forall_append {α : Type} {p : α → Prop} {l m : List α} (h : ∀ x ∈ l, p x) (k : ∀ x ∈ m, p x) : ∀ x ∈ l.append m, p x := fun x hx => by
  rcases List.mem_append.1 hx with h1 | h1
  · exact h x h1
  · exact k x h1
theorem dl {zs : List Nat} (h : zs.all (fun z => decide (z < 4294967296)) = true) : Nm.Dig zs := fun z hz => by simpa using List.all_eq_true.1 h z hz
theorem dec_big : Nm.dec (Nm.val [0, 1]) = Bt ⟨#[52, 50, 57, 52, 57, 54, 55, 50, 57, 54]⟩ := by
  have hv : Nm.val [0, 1] = 4294967296 := by decide +kernel
  have hn : Nm.nd 4294967296 = 10 := nd_eq (k := 9) (by decide +kernel) (by decide +kernel)
  rw [hv]
  unfold Nm.dec
  rw [hn, if_neg (by decide)]
  decide +kernel
theorem c_of_lit : ∀ w, Calls Tryd.prog 25 #[.int .u64 4294967296] w (Ret (Fact.num [0, 1]) w) := fun w =>
  (of_lit w).mono fun e w' ⟨A', c', he, hc, hf, hb⟩ => ⟨_, he, hb, num_of_fr hf hc (dl (by decide +kernel)) (by decide)⟩
/-- What is known of the slots of the last region of awake. -/
def awF (t : Nat) : Fact := (([(0, Fact.eq (.bool true)), (1, Fact.var [4294967295]), (2, Fact.var [3]), (3, Fact.var [2]), (4, Fact.eq (.int .i64 0)), (6, Fact.eq (.int .i64 2)), (7, Fact.var [0, 0, 1]), (8, Fact.eq (.int .i64 0)), (9, Fact.var [4294967295]), (10, Fact.eq (.bool true)), (38, Fact.num [4294967295]), (39, Fact.row [1]), (40, Fact.num [1]), (41, Fact.num [0, 1]), (42, Fact.row [0, 1]), (43, Fact.num [0, 1]), (44, Fact.eq (.bool true)), (45, Fact.eq (.bool true)), (46, Fact.num [4294967295]), (47, Fact.num [4294967295]), (48, Fact.num [1, 4294967294]), (49, Fact.row [1, 4294967294]), (50, Fact.num [1, 4294967294]), (51, Fact.eq (.bool true)), (52, Fact.eq (.bool true)), (53, Fact.eq (.bool true)), (54, Fact.num [3]), (55, Fact.row [3]), (56, Fact.num [3]), (57, Fact.eq (.bool true)), (58, Fact.eq (.bool true)), (59, Fact.eq (.bool true)), (60, Fact.num [2]), (61, Fact.row [2]), (62, Fact.num [2]), (63, Fact.eq (.bool true)), (64, Fact.eq (.bool true)), (65, Fact.eq (.bool true)), (66, Fact.eq (.int .i64 0)), (67, Fact.eq (.bool true)), (68, Fact.eq (.bool true)), (69, Fact.eq (.bool true)), (70, Fact.eq (.int .i64 2)), (71, Fact.eq (.bool true)), (72, Fact.eq (.bool true)), (73, Fact.eq (.bool true)), (74, Fact.num [0, 0, 1]), (75, Fact.row [0, 0, 1]), (76, Fact.num [0, 0, 1]), (77, Fact.eq (.bool true)), (78, Fact.eq (.bool true)), (79, Fact.eq (.bool true)), (80, Fact.eq (.int .i64 0)), (81, Fact.eq (.bool true)), (82, Fact.eq (.bool true)), (83, Fact.eq (.bool true)), (84, Fact.num [4294967295]), (85, Fact.num [4294967295]), (86, Fact.eq (.bool true)), (87, Fact.eq (.bool true)), (88, Fact.eq (.bool true)), (89, Fact.eq (.bool true)), (90, Fact.eq (.bool true)), (91, Fact.eq (.bool true)), (92, Fact.row [84]), (93, Fact.num [84]), (94, Fact.row [36]), (95, Fact.num [36]), (96, Fact.num [12]), (97, Fact.row [12]), (98, Fact.num [12]), (99, Fact.eq (.bool true)), (100, Fact.eq (.bool true)), (101, Fact.eq (.bool true)), (102, Fact.row [255]), (103, Fact.num [255]), (104, Fact.eq (.int .i64 8)), (105, Fact.eq (.bool true)), (106, Fact.eq (.bool true)), (107, Fact.eq (.bool true)), (108, Fact.row [0, 1]), (109, Fact.num [0, 1]), (110, Fact.eq (.string (⟨#[52, 50, 57, 52, 57, 54, 55, 50, 57, 54]⟩ : ByteArray))), (111, Fact.eq (.bool true)), (112, Fact.eq (.bool true)), (113, Fact.eq (.bool true)), (114, Fact.num [0, 1]), (115, Fact.row [0, 1]), (116, Fact.num [0, 1]), (117, Fact.eq (.bool true)), (118, Fact.eq (.bool true))] : List (Nat × Fact)).lookup t).getD Fact.any
set_option maxRecDepth 100000 in
set_option maxHeartbeats 1000000 in
theorem awake_any (w : World) : Calls Tryd.prog 13 #[] w fun e w' => e = .returned (.bool true) ∧ Below w.heap.size w w' := by
  go_enter Tryd.func13, Tryd.ntmps13
  go_wp2_with fail
  refine (nat_n [4294967295] (rd_at _ _ _ [4294967295] (by simp) (by simp)) rfl (by decide)).mono ?_
  rintro e w1 ⟨A1, c1, rfl, hc1, hf1, hs1⟩
  have hq1 := up (one _ _) hs1
  have nx : Num w1 A1 1 c1 [4294967295] := hf1.num hc1 (dl (by decide +kernel)) (by decide)
  have hb := hq1
  clear hf1 hs1 hq1
  have vx := Var.new nx
  have hb := hb.alloc hb.size (Obj.cells #[Value.slice A1 1 c1] 24)
  clear nx
  go_wp2_with fail
  refine (nat_n [17] (rd_at _ _ _ [17] (by simp) (by simp)) rfl (by decide)).mono ?_
  rintro e w2 ⟨A2, c2, rfl, hc2, hf2, hs2⟩
  have hq2 := up (one _ _) hs2
  have vx := vx.below hq2
  have na : Num w2 A2 1 c2 [17] := hf2.num hc2 (dl (by decide +kernel)) (by decide)
  have hb := up hb hq2
  clear hf2 hs2 hq2
  go_wp2_with fail
  refine (nat_n [5] (rd_at _ _ _ [5] (by simp) (by simp)) rfl (by decide)).mono ?_
  rintro e w3 ⟨A3, c3, rfl, hc3, hf3, hs3⟩
  have hq3 := up (one _ _) hs3
  have vx := vx.below hq3
  have na := na.below hq3
  have nb : Num w3 A3 1 c3 [5] := hf3.num hc3 (dl (by decide +kernel)) (by decide)
  have hb := up hb hq3
  clear hf3 hs3 hq3
  go_wp2_with fail
  refine (divMod_n 1 divOk_one na nb (by decide) (by decide) [3] [2] (Nm.lit [3] (by decide +kernel) (dl (by decide +kernel)) (by decide)) (Nm.lit [2] (by decide +kernel) (dl (by decide +kernel)) (by decide))).mono ?_
  rintro e w4 ⟨Aq, cq, Ar, cr, rfl, hcq, hcr, hfq, hfr, hs4⟩
  have vx := vx.below hs4
  have na := na.below hs4
  have nb := nb.below hs4
  have hb := up hb hs4
  have nq : Num w4 Aq 1 cq [3] := hfq.num hcq (dl (by decide +kernel)) (by decide)
  have nr : Num w4 Ar 1 cr [2] := hfr.num hcr (dl (by decide +kernel)) (by decide)
  clear hs4 hfq hfr hcq hcr
  clear na nb
  have vq := Var.new nq
  clear nq
  have vx := vx.below (one _ (Obj.cells #[Value.slice Aq 1 cq] 24))
  have nr := nr.below (one _ (Obj.cells #[Value.slice Aq 1 cq] 24))
  have hb := hb.alloc hb.size (Obj.cells #[Value.slice Aq 1 cq] 24)
  have vr : Var _ (w4.heap.size + 1) _ _ _ _ := Var.at_ nr (by simp)
  clear nr
  have vx := vx.below (one _ (Obj.cells #[Value.slice Ar 1 cr] 24))
  have vq := vq.below (one _ (Obj.cells #[Value.slice Ar 1 cr] 24))
  have hb := hb.alloc hb.size (Obj.cells #[Value.slice Ar 1 cr] 24)
  go_wp2_with fail
  refine (parse_007 _).mono ?_
  rintro e w5 ⟨rfl, hs5⟩
  have vx := vx.below hs5
  have vq := vq.below hs5
  have vr := vr.below hs5
  have hb := up hb hs5
  clear hs5
  have vx := vx.below (one _ (Obj.cells #[Value.slice none 0 0] 24))
  have vq := vq.below (one _ (Obj.cells #[Value.slice none 0 0] 24))
  have vr := vr.below (one _ (Obj.cells #[Value.slice none 0 0] 24))
  have hb := hb.alloc hb.size (Obj.cells #[Value.slice none 0 0] 24)
  go_wp2_with fail
  refine (parse_big _).mono ?_
  rintro e w6 ⟨Ap, cp, rfl, hcp, hfp, hs6⟩
  have vx := vx.below hs6
  have vq := vq.below hs6
  have vr := vr.below hs6
  have hb := up hb hs6
  have np : Num w6 Ap 3 cp [0, 0, 1] := hfp.num hcp (dl (by decide +kernel)) (by decide)
  clear hs6 hfp hcp
  have vp := Var.new np
  clear np
  have vx := vx.below (one _ (Obj.cells #[Value.slice Ap 3 cp] 24))
  have vq := vq.below (one _ (Obj.cells #[Value.slice Ap 3 cp] 24))
  have vr := vr.below (one _ (Obj.cells #[Value.slice Ap 3 cp] 24))
  have hb := hb.alloc hb.size (Obj.cells #[Value.slice Ap 3 cp] 24)
  go_wp2_with fail
  refine (nat_n [0, 1] (rd_at _ _ _ [0, 1] (by simp) (by simp)) rfl (by decide)).mono ?_
  rintro e w7 ⟨A7, c7, rfl, hc7, hf7, hs7⟩
  have hq7 := up (one _ _) hs7
  have vx := vx.below hq7
  have vq := vq.below hq7
  have vr := vr.below hq7
  have vp := vp.below hq7
  have na : Num w7 A7 2 c7 [0, 1] := hf7.num hc7 (dl (by decide +kernel)) (by decide)
  have hb := up hb hq7
  clear hf7 hs7 hq7
  go_wp2_with fail
  refine (nat_n [1] (rd_at _ _ _ [1] (by simp) (by simp)) rfl (by decide)).mono ?_
  rintro e w8 ⟨A8, c8, rfl, hc8, hf8, hs8⟩
  have hq8 := up (one _ _) hs8
  have vx := vx.below hq8
  have vq := vq.below hq8
  have vr := vr.below hq8
  have vp := vp.below hq8
  have na := na.below hq8
  have nb : Num w8 A8 1 c8 [1] := hf8.num hc8 (dl (by decide +kernel)) (by decide)
  have hb := up hb hq8
  clear hf8 hs8 hq8
  go_wp2_with fail
  refine (sub_n na nb [4294967295] true (Nm.lit [4294967295] (by decide +kernel) (dl (by decide +kernel)) (by decide)) (by decide +kernel)).mono ?_
  rintro e w9 ⟨Ad, cd, rfl, hcd, hfd, hs9⟩
  have vx := vx.below hs9
  have vq := vq.below hs9
  have vr := vr.below hs9
  have vp := vp.below hs9
  have na := na.below hs9
  have nb := nb.below hs9
  have hb := up hb hs9
  have nd : Num w9 Ad 1 cd [4294967295] := hfd.num hcd (dl (by decide +kernel)) (by decide)
  clear hs9 hfd hcd
  clear na nb
  have vd := Var.new nd
  clear nd
  have vx := vx.below (one _ (Obj.cells #[Value.slice Ad 1 cd] 24))
  have vq := vq.below (one _ (Obj.cells #[Value.slice Ad 1 cd] 24))
  have vr := vr.below (one _ (Obj.cells #[Value.slice Ad 1 cd] 24))
  have vp := vp.below (one _ (Obj.cells #[Value.slice Ad 1 cd] 24))
  have hb := hb.alloc hb.size (Obj.cells #[Value.slice Ad 1 cd] 24)
  go_wp2_with fail
  refine wp_region_stable (by kernel_rfl) awF [1, 2, 3, 7, 9, 4, 6, 8, 10] 119 rfl (by kernel_rfl) ?_ ?_ ?_
  · intro t ht
    simp only [List.mem_cons, List.not_mem_nil, or_false] at ht
    rcases ht with rfl | rfl | rfl | rfl | rfl | rfl | rfl | rfl | rfl
    · exact ⟨_, _, _, rfl, vx⟩
    · exact ⟨_, _, _, rfl, vq⟩
    · exact ⟨_, _, _, rfl, vr⟩
    · exact ⟨_, _, _, rfl, vp⟩
    · exact ⟨_, _, _, rfl, vd⟩
    · rfl
    · rfl
    · rfl
    · rfl
  · refine forall_append ?_ ?_
    · refine List.forall_mem_cons.2 ⟨ob_load 1 38 [4294967295] rfl rfl (by first | exact .inl rfl | exact .inr ⟨_, _, _, rfl, rfl, by kernel_rfl, by decide, rfl⟩) (by kernel_rfl) rfl rfl, ?_⟩
      refine List.forall_mem_cons.2 ⟨ob_build1 1 39 rfl rfl (by first | exact .inl rfl | exact .inr ⟨_, _, _, rfl, rfl, by kernel_rfl, by decide, rfl⟩) rfl, ?_⟩
      refine List.forall_mem_cons.2 ⟨ob_call1 36 39 40 _ rfl rfl (by first | exact .inl rfl | exact .inr ⟨_, _, _, rfl, rfl, by kernel_rfl, by decide, rfl⟩) (by kernel_rfl) (by kernel_rfl) (c_nat [1] (dl (by decide +kernel)) (by decide)), ?_⟩
      refine List.forall_mem_cons.2 ⟨ob_call2 19 38 40 41 _ rfl rfl (by first | exact .inl rfl | exact .inr ⟨_, _, _, rfl, rfl, by kernel_rfl, by decide, rfl⟩) (by kernel_rfl) (by kernel_rfl) (by kernel_rfl) (c_add [4294967295] [1] [0, 1] (Nm.lit [0, 1] (by decide +kernel) (dl (by decide +kernel)) (by decide)) (by decide)), ?_⟩
      refine List.forall_mem_cons.2 ⟨ob_build2 0 1 42 rfl rfl (by first | exact .inl rfl | exact .inr ⟨_, _, _, rfl, rfl, by kernel_rfl, by decide, rfl⟩) rfl, ?_⟩
      refine List.forall_mem_cons.2 ⟨ob_call1 36 42 43 _ rfl rfl (by first | exact .inl rfl | exact .inr ⟨_, _, _, rfl, rfl, by kernel_rfl, by decide, rfl⟩) (by kernel_rfl) (by kernel_rfl) (c_nat [0, 1] (dl (by decide +kernel)) (by decide)), ?_⟩
      refine List.forall_mem_cons.2 ⟨ob_call2 18 41 43 44 _ rfl rfl (by first | exact .inl rfl | exact .inr ⟨_, _, _, rfl, rfl, by kernel_rfl, by decide, rfl⟩) (by kernel_rfl) (by kernel_rfl) (by kernel_rfl) (c_same [0, 1] [0, 1] true (by decide)), ?_⟩
      refine List.forall_mem_cons.2 ⟨ob_copy 44 45 (.inl rfl) rfl (by first | exact .inl rfl | exact .inr ⟨_, _, _, rfl, rfl, by kernel_rfl, by decide, rfl⟩) (by kernel_rfl) rfl, ?_⟩
      refine List.forall_mem_cons.2 ⟨ob_load 1 46 [4294967295] rfl rfl (by first | exact .inl rfl | exact .inr ⟨_, _, _, rfl, rfl, by kernel_rfl, by decide, rfl⟩) (by kernel_rfl) rfl rfl, ?_⟩
      refine List.forall_mem_cons.2 ⟨ob_load 1 47 [4294967295] rfl rfl (by first | exact .inl rfl | exact .inr ⟨_, _, _, rfl, rfl, by kernel_rfl, by decide, rfl⟩) (by kernel_rfl) rfl rfl, ?_⟩
      refine List.forall_mem_cons.2 ⟨ob_call2 21 46 47 48 _ rfl rfl (by first | exact .inl rfl | exact .inr ⟨_, _, _, rfl, rfl, by kernel_rfl, by decide, rfl⟩) (by kernel_rfl) (by kernel_rfl) (by kernel_rfl) (c_mul [4294967295] [4294967295] [1, 4294967294] (Nm.lit [1, 4294967294] (by decide +kernel) (dl (by decide +kernel)) (by decide)) (by decide)), ?_⟩
      refine List.forall_mem_cons.2 ⟨ob_build2 1 4294967294 49 rfl rfl (by first | exact .inl rfl | exact .inr ⟨_, _, _, rfl, rfl, by kernel_rfl, by decide, rfl⟩) rfl, ?_⟩
      refine List.forall_mem_cons.2 ⟨ob_call1 36 49 50 _ rfl rfl (by first | exact .inl rfl | exact .inr ⟨_, _, _, rfl, rfl, by kernel_rfl, by decide, rfl⟩) (by kernel_rfl) (by kernel_rfl) (c_nat [1, 4294967294] (dl (by decide +kernel)) (by decide)), ?_⟩
      refine List.forall_mem_cons.2 ⟨ob_call2 18 48 50 51 _ rfl rfl (by first | exact .inl rfl | exact .inr ⟨_, _, _, rfl, rfl, by kernel_rfl, by decide, rfl⟩) (by kernel_rfl) (by kernel_rfl) (by kernel_rfl) (c_same [1, 4294967294] [1, 4294967294] true (by decide)), ?_⟩
      refine List.forall_mem_cons.2 ⟨ob_pick 45 51 52 _ rfl rfl (by first | exact .inl rfl | exact .inr ⟨_, _, _, rfl, rfl, by kernel_rfl, by decide, rfl⟩) (by kernel_rfl) (by kernel_rfl) rfl rfl, ?_⟩
      refine List.forall_mem_cons.2 ⟨ob_copy 52 53 (.inl rfl) rfl (by first | exact .inl rfl | exact .inr ⟨_, _, _, rfl, rfl, by kernel_rfl, by decide, rfl⟩) (by kernel_rfl) rfl, ?_⟩
      refine List.forall_mem_cons.2 ⟨ob_load 2 54 [3] rfl rfl (by first | exact .inl rfl | exact .inr ⟨_, _, _, rfl, rfl, by kernel_rfl, by decide, rfl⟩) (by kernel_rfl) rfl rfl, ?_⟩
      refine List.forall_mem_cons.2 ⟨ob_build1 3 55 rfl rfl (by first | exact .inl rfl | exact .inr ⟨_, _, _, rfl, rfl, by kernel_rfl, by decide, rfl⟩) rfl, ?_⟩
      refine List.forall_mem_cons.2 ⟨ob_call1 36 55 56 _ rfl rfl (by first | exact .inl rfl | exact .inr ⟨_, _, _, rfl, rfl, by kernel_rfl, by decide, rfl⟩) (by kernel_rfl) (by kernel_rfl) (c_nat [3] (dl (by decide +kernel)) (by decide)), ?_⟩
      refine List.forall_mem_cons.2 ⟨ob_call2 18 54 56 57 _ rfl rfl (by first | exact .inl rfl | exact .inr ⟨_, _, _, rfl, rfl, by kernel_rfl, by decide, rfl⟩) (by kernel_rfl) (by kernel_rfl) (by kernel_rfl) (c_same [3] [3] true (by decide)), ?_⟩
      refine List.forall_mem_cons.2 ⟨ob_pick 53 57 58 _ rfl rfl (by first | exact .inl rfl | exact .inr ⟨_, _, _, rfl, rfl, by kernel_rfl, by decide, rfl⟩) (by kernel_rfl) (by kernel_rfl) rfl rfl, ?_⟩
      refine List.forall_mem_cons.2 ⟨ob_copy 58 59 (.inl rfl) rfl (by first | exact .inl rfl | exact .inr ⟨_, _, _, rfl, rfl, by kernel_rfl, by decide, rfl⟩) (by kernel_rfl) rfl, ?_⟩
      refine List.forall_mem_cons.2 ⟨ob_load 3 60 [2] rfl rfl (by first | exact .inl rfl | exact .inr ⟨_, _, _, rfl, rfl, by kernel_rfl, by decide, rfl⟩) (by kernel_rfl) rfl rfl, ?_⟩
      refine List.forall_mem_cons.2 ⟨ob_build1 2 61 rfl rfl (by first | exact .inl rfl | exact .inr ⟨_, _, _, rfl, rfl, by kernel_rfl, by decide, rfl⟩) rfl, ?_⟩
      refine List.forall_mem_cons.2 ⟨ob_call1 36 61 62 _ rfl rfl (by first | exact .inl rfl | exact .inr ⟨_, _, _, rfl, rfl, by kernel_rfl, by decide, rfl⟩) (by kernel_rfl) (by kernel_rfl) (c_nat [2] (dl (by decide +kernel)) (by decide)), ?_⟩
      refine List.forall_mem_cons.2 ⟨ob_call2 18 60 62 63 _ rfl rfl (by first | exact .inl rfl | exact .inr ⟨_, _, _, rfl, rfl, by kernel_rfl, by decide, rfl⟩) (by kernel_rfl) (by kernel_rfl) (by kernel_rfl) (c_same [2] [2] true (by decide)), ?_⟩
      refine List.forall_mem_cons.2 ⟨ob_pick 59 63 64 _ rfl rfl (by first | exact .inl rfl | exact .inr ⟨_, _, _, rfl, rfl, by kernel_rfl, by decide, rfl⟩) (by kernel_rfl) (by kernel_rfl) rfl rfl, ?_⟩
      refine List.forall_mem_cons.2 ⟨ob_copy 64 65 (.inl rfl) rfl (by first | exact .inl rfl | exact .inr ⟨_, _, _, rfl, rfl, by kernel_rfl, by decide, rfl⟩) (by kernel_rfl) rfl, ?_⟩
      refine List.forall_mem_cons.2 ⟨ob_copy 4 66 (.inl rfl) rfl (by first | exact .inl rfl | exact .inr ⟨_, _, _, rfl, rfl, by kernel_rfl, by decide, rfl⟩) (by kernel_rfl) rfl, ?_⟩
      refine List.forall_mem_cons.2 ⟨ob_eql_int .i64 0 66 67 _ _ rfl rfl (by first | exact .inl rfl | exact .inr ⟨_, _, _, rfl, rfl, by kernel_rfl, by decide, rfl⟩) (by kernel_rfl) rfl rfl, ?_⟩
      refine List.forall_mem_cons.2 ⟨ob_pick 65 67 68 _ rfl rfl (by first | exact .inl rfl | exact .inr ⟨_, _, _, rfl, rfl, by kernel_rfl, by decide, rfl⟩) (by kernel_rfl) (by kernel_rfl) rfl rfl, ?_⟩
      refine List.forall_mem_cons.2 ⟨ob_copy 68 69 (.inl rfl) rfl (by first | exact .inl rfl | exact .inr ⟨_, _, _, rfl, rfl, by kernel_rfl, by decide, rfl⟩) (by kernel_rfl) rfl, ?_⟩
      refine List.forall_mem_cons.2 ⟨ob_copy 6 70 (.inl rfl) rfl (by first | exact .inl rfl | exact .inr ⟨_, _, _, rfl, rfl, by kernel_rfl, by decide, rfl⟩) (by kernel_rfl) rfl, ?_⟩
      refine List.forall_mem_cons.2 ⟨ob_eql_int .i64 2 70 71 _ _ rfl rfl (by first | exact .inl rfl | exact .inr ⟨_, _, _, rfl, rfl, by kernel_rfl, by decide, rfl⟩) (by kernel_rfl) rfl rfl, ?_⟩
      refine List.forall_mem_cons.2 ⟨ob_pick 69 71 72 _ rfl rfl (by first | exact .inl rfl | exact .inr ⟨_, _, _, rfl, rfl, by kernel_rfl, by decide, rfl⟩) (by kernel_rfl) (by kernel_rfl) rfl rfl, ?_⟩
      refine List.forall_mem_cons.2 ⟨ob_copy 72 73 (.inl rfl) rfl (by first | exact .inl rfl | exact .inr ⟨_, _, _, rfl, rfl, by kernel_rfl, by decide, rfl⟩) (by kernel_rfl) rfl, ?_⟩
      refine List.forall_mem_cons.2 ⟨ob_load 7 74 [0, 0, 1] rfl rfl (by first | exact .inl rfl | exact .inr ⟨_, _, _, rfl, rfl, by kernel_rfl, by decide, rfl⟩) (by kernel_rfl) rfl rfl, ?_⟩
      refine List.forall_mem_cons.2 ⟨ob_build3 0 0 1 75 rfl rfl (by first | exact .inl rfl | exact .inr ⟨_, _, _, rfl, rfl, by kernel_rfl, by decide, rfl⟩) rfl, ?_⟩
      refine List.forall_mem_cons.2 ⟨ob_call1 36 75 76 _ rfl rfl (by first | exact .inl rfl | exact .inr ⟨_, _, _, rfl, rfl, by kernel_rfl, by decide, rfl⟩) (by kernel_rfl) (by kernel_rfl) (c_nat [0, 0, 1] (dl (by decide +kernel)) (by decide)), ?_⟩
      refine List.forall_mem_cons.2 ⟨ob_call2 18 74 76 77 _ rfl rfl (by first | exact .inl rfl | exact .inr ⟨_, _, _, rfl, rfl, by kernel_rfl, by decide, rfl⟩) (by kernel_rfl) (by kernel_rfl) (by kernel_rfl) (c_same [0, 0, 1] [0, 0, 1] true (by decide)), ?_⟩
      refine List.forall_mem_cons.2 ⟨ob_pick 73 77 78 _ rfl rfl (by first | exact .inl rfl | exact .inr ⟨_, _, _, rfl, rfl, by kernel_rfl, by decide, rfl⟩) (by kernel_rfl) (by kernel_rfl) rfl rfl, ?_⟩
      exact fun _ h => absurd h List.not_mem_nil
    · refine List.forall_mem_cons.2 ⟨ob_copy 78 79 (.inl rfl) rfl (by first | exact .inl rfl | exact .inr ⟨_, _, _, rfl, rfl, by kernel_rfl, by decide, rfl⟩) (by kernel_rfl) rfl, ?_⟩
      refine List.forall_mem_cons.2 ⟨ob_copy 8 80 (.inl rfl) rfl (by first | exact .inl rfl | exact .inr ⟨_, _, _, rfl, rfl, by kernel_rfl, by decide, rfl⟩) (by kernel_rfl) rfl, ?_⟩
      refine List.forall_mem_cons.2 ⟨ob_eql_int .i64 0 80 81 _ _ rfl rfl (by first | exact .inl rfl | exact .inr ⟨_, _, _, rfl, rfl, by kernel_rfl, by decide, rfl⟩) (by kernel_rfl) rfl rfl, ?_⟩
      refine List.forall_mem_cons.2 ⟨ob_pick 79 81 82 _ rfl rfl (by first | exact .inl rfl | exact .inr ⟨_, _, _, rfl, rfl, by kernel_rfl, by decide, rfl⟩) (by kernel_rfl) (by kernel_rfl) rfl rfl, ?_⟩
      refine List.forall_mem_cons.2 ⟨ob_copy 82 83 (.inl rfl) rfl (by first | exact .inl rfl | exact .inr ⟨_, _, _, rfl, rfl, by kernel_rfl, by decide, rfl⟩) (by kernel_rfl) rfl, ?_⟩
      refine List.forall_mem_cons.2 ⟨ob_load 9 84 [4294967295] rfl rfl (by first | exact .inl rfl | exact .inr ⟨_, _, _, rfl, rfl, by kernel_rfl, by decide, rfl⟩) (by kernel_rfl) rfl rfl, ?_⟩
      refine List.forall_mem_cons.2 ⟨ob_load 1 85 [4294967295] rfl rfl (by first | exact .inl rfl | exact .inr ⟨_, _, _, rfl, rfl, by kernel_rfl, by decide, rfl⟩) (by kernel_rfl) rfl rfl, ?_⟩
      refine List.forall_mem_cons.2 ⟨ob_call2 18 84 85 86 _ rfl rfl (by first | exact .inl rfl | exact .inr ⟨_, _, _, rfl, rfl, by kernel_rfl, by decide, rfl⟩) (by kernel_rfl) (by kernel_rfl) (by kernel_rfl) (c_same [4294967295] [4294967295] true (by decide)), ?_⟩
      refine List.forall_mem_cons.2 ⟨ob_pick 83 86 87 _ rfl rfl (by first | exact .inl rfl | exact .inr ⟨_, _, _, rfl, rfl, by kernel_rfl, by decide, rfl⟩) (by kernel_rfl) (by kernel_rfl) rfl rfl, ?_⟩
      refine List.forall_mem_cons.2 ⟨ob_copy 87 88 (.inl rfl) rfl (by first | exact .inl rfl | exact .inr ⟨_, _, _, rfl, rfl, by kernel_rfl, by decide, rfl⟩) (by kernel_rfl) rfl, ?_⟩
      refine List.forall_mem_cons.2 ⟨ob_copy 10 89 (.inl rfl) rfl (by first | exact .inl rfl | exact .inr ⟨_, _, _, rfl, rfl, by kernel_rfl, by decide, rfl⟩) (by kernel_rfl) rfl, ?_⟩
      refine List.forall_mem_cons.2 ⟨ob_pick 88 89 90 _ rfl rfl (by first | exact .inl rfl | exact .inr ⟨_, _, _, rfl, rfl, by kernel_rfl, by decide, rfl⟩) (by kernel_rfl) (by kernel_rfl) rfl rfl, ?_⟩
      refine List.forall_mem_cons.2 ⟨ob_copy 90 91 (.inl rfl) rfl (by first | exact .inl rfl | exact .inr ⟨_, _, _, rfl, rfl, by kernel_rfl, by decide, rfl⟩) (by kernel_rfl) rfl, ?_⟩
      refine List.forall_mem_cons.2 ⟨ob_build1 84 92 rfl rfl (by first | exact .inl rfl | exact .inr ⟨_, _, _, rfl, rfl, by kernel_rfl, by decide, rfl⟩) rfl, ?_⟩
      refine List.forall_mem_cons.2 ⟨ob_call1 36 92 93 _ rfl rfl (by first | exact .inl rfl | exact .inr ⟨_, _, _, rfl, rfl, by kernel_rfl, by decide, rfl⟩) (by kernel_rfl) (by kernel_rfl) (c_nat [84] (dl (by decide +kernel)) (by decide)), ?_⟩
      refine List.forall_mem_cons.2 ⟨ob_build1 36 94 rfl rfl (by first | exact .inl rfl | exact .inr ⟨_, _, _, rfl, rfl, by kernel_rfl, by decide, rfl⟩) rfl, ?_⟩
      refine List.forall_mem_cons.2 ⟨ob_call1 36 94 95 _ rfl rfl (by first | exact .inl rfl | exact .inr ⟨_, _, _, rfl, rfl, by kernel_rfl, by decide, rfl⟩) (by kernel_rfl) (by kernel_rfl) (c_nat [36] (dl (by decide +kernel)) (by decide)), ?_⟩
      refine List.forall_mem_cons.2 ⟨ob_call2 29 93 95 96 _ rfl rfl (by first | exact .inl rfl | exact .inr ⟨_, _, _, rfl, rfl, by kernel_rfl, by decide, rfl⟩) (by kernel_rfl) (by kernel_rfl) (by kernel_rfl) (c_gcd 1 divOk_one [84] [36] [12] (by decide) (Nm.lit [12] (by decide +kernel) (dl (by decide +kernel)) (by decide)) (by decide)), ?_⟩
      refine List.forall_mem_cons.2 ⟨ob_build1 12 97 rfl rfl (by first | exact .inl rfl | exact .inr ⟨_, _, _, rfl, rfl, by kernel_rfl, by decide, rfl⟩) rfl, ?_⟩
      refine List.forall_mem_cons.2 ⟨ob_call1 36 97 98 _ rfl rfl (by first | exact .inl rfl | exact .inr ⟨_, _, _, rfl, rfl, by kernel_rfl, by decide, rfl⟩) (by kernel_rfl) (by kernel_rfl) (c_nat [12] (dl (by decide +kernel)) (by decide)), ?_⟩
      refine List.forall_mem_cons.2 ⟨ob_call2 18 96 98 99 _ rfl rfl (by first | exact .inl rfl | exact .inr ⟨_, _, _, rfl, rfl, by kernel_rfl, by decide, rfl⟩) (by kernel_rfl) (by kernel_rfl) (by kernel_rfl) (c_same [12] [12] true (by decide)), ?_⟩
      refine List.forall_mem_cons.2 ⟨ob_pick 91 99 100 _ rfl rfl (by first | exact .inl rfl | exact .inr ⟨_, _, _, rfl, rfl, by kernel_rfl, by decide, rfl⟩) (by kernel_rfl) (by kernel_rfl) rfl rfl, ?_⟩
      refine List.forall_mem_cons.2 ⟨ob_copy 100 101 (.inl rfl) rfl (by first | exact .inl rfl | exact .inr ⟨_, _, _, rfl, rfl, by kernel_rfl, by decide, rfl⟩) (by kernel_rfl) rfl, ?_⟩
      refine List.forall_mem_cons.2 ⟨ob_build1 255 102 rfl rfl (by first | exact .inl rfl | exact .inr ⟨_, _, _, rfl, rfl, by kernel_rfl, by decide, rfl⟩) rfl, ?_⟩
      refine List.forall_mem_cons.2 ⟨ob_call1 36 102 103 _ rfl rfl (by first | exact .inl rfl | exact .inr ⟨_, _, _, rfl, rfl, by kernel_rfl, by decide, rfl⟩) (by kernel_rfl) (by kernel_rfl) (c_nat [255] (dl (by decide +kernel)) (by decide)), ?_⟩
      refine List.forall_mem_cons.2 ⟨ob_call1 23 103 104 _ rfl rfl (by first | exact .inl rfl | exact .inr ⟨_, _, _, rfl, rfl, by kernel_rfl, by decide, rfl⟩) (by kernel_rfl) (by kernel_rfl) (c_bits [255] 8 8 (by decide +kernel) rfl), ?_⟩
      refine List.forall_mem_cons.2 ⟨ob_eql_int .i64 8 104 105 _ _ rfl rfl (by first | exact .inl rfl | exact .inr ⟨_, _, _, rfl, rfl, by kernel_rfl, by decide, rfl⟩) (by kernel_rfl) rfl rfl, ?_⟩
      refine List.forall_mem_cons.2 ⟨ob_pick 101 105 106 _ rfl rfl (by first | exact .inl rfl | exact .inr ⟨_, _, _, rfl, rfl, by kernel_rfl, by decide, rfl⟩) (by kernel_rfl) (by kernel_rfl) rfl rfl, ?_⟩
      refine List.forall_mem_cons.2 ⟨ob_copy 106 107 (.inl rfl) rfl (by first | exact .inl rfl | exact .inr ⟨_, _, _, rfl, rfl, by kernel_rfl, by decide, rfl⟩) (by kernel_rfl) rfl, ?_⟩
      refine List.forall_mem_cons.2 ⟨ob_build2 0 1 108 rfl rfl (by first | exact .inl rfl | exact .inr ⟨_, _, _, rfl, rfl, by kernel_rfl, by decide, rfl⟩) rfl, ?_⟩
      refine List.forall_mem_cons.2 ⟨ob_call1 36 108 109 _ rfl rfl (by first | exact .inl rfl | exact .inr ⟨_, _, _, rfl, rfl, by kernel_rfl, by decide, rfl⟩) (by kernel_rfl) (by kernel_rfl) (c_nat [0, 1] (dl (by decide +kernel)) (by decide)), ?_⟩
      refine List.forall_mem_cons.2 ⟨ob_call1 33 109 110 _ rfl rfl (by first | exact .inl rfl | exact .inr ⟨_, _, _, rfl, rfl, by kernel_rfl, by decide, rfl⟩) (by kernel_rfl) (by kernel_rfl) (c_format [0, 1] (⟨#[52, 50, 57, 52, 57, 54, 55, 50, 57, 54]⟩ : ByteArray) dec_big), ?_⟩
      refine List.forall_mem_cons.2 ⟨ob_eql_str _ 110 111 _ rfl rfl (by first | exact .inl rfl | exact .inr ⟨_, _, _, rfl, rfl, by kernel_rfl, by decide, rfl⟩) (by kernel_rfl) rfl rfl, ?_⟩
      refine List.forall_mem_cons.2 ⟨ob_pick 107 111 112 _ rfl rfl (by first | exact .inl rfl | exact .inr ⟨_, _, _, rfl, rfl, by kernel_rfl, by decide, rfl⟩) (by kernel_rfl) (by kernel_rfl) rfl rfl, ?_⟩
      refine List.forall_mem_cons.2 ⟨ob_copy 112 113 (.inl rfl) rfl (by first | exact .inl rfl | exact .inr ⟨_, _, _, rfl, rfl, by kernel_rfl, by decide, rfl⟩) (by kernel_rfl) rfl, ?_⟩
      refine List.forall_mem_cons.2 ⟨ob_callc 25 _ 114 _ rfl rfl (by first | exact .inl rfl | exact .inr ⟨_, _, _, rfl, rfl, by kernel_rfl, by decide, rfl⟩) (by kernel_rfl) c_of_lit, ?_⟩
      refine List.forall_mem_cons.2 ⟨ob_build2 0 1 115 rfl rfl (by first | exact .inl rfl | exact .inr ⟨_, _, _, rfl, rfl, by kernel_rfl, by decide, rfl⟩) rfl, ?_⟩
      refine List.forall_mem_cons.2 ⟨ob_call1 36 115 116 _ rfl rfl (by first | exact .inl rfl | exact .inr ⟨_, _, _, rfl, rfl, by kernel_rfl, by decide, rfl⟩) (by kernel_rfl) (by kernel_rfl) (c_nat [0, 1] (dl (by decide +kernel)) (by decide)), ?_⟩
      refine List.forall_mem_cons.2 ⟨ob_call2 18 114 116 117 _ rfl rfl (by first | exact .inl rfl | exact .inr ⟨_, _, _, rfl, rfl, by kernel_rfl, by decide, rfl⟩) (by kernel_rfl) (by kernel_rfl) (by kernel_rfl) (c_same [0, 1] [0, 1] true (by decide)), ?_⟩
      refine List.forall_mem_cons.2 ⟨ob_pick 113 117 118 _ rfl rfl (by first | exact .inl rfl | exact .inr ⟨_, _, _, rfl, rfl, by kernel_rfl, by decide, rfl⟩) (by kernel_rfl) (by kernel_rfl) rfl rfl, ?_⟩
      refine List.forall_mem_cons.2 ⟨ob_copy 118 0 (.inr rfl) rfl (by first | exact .inl rfl | exact .inr ⟨_, _, _, rfl, rfl, by kernel_rfl, by decide, rfl⟩) (by kernel_rfl) rfl, ?_⟩
      exact fun _ h => absurd h List.not_mem_nil
  · intro a' w' hdef hsz hbs hall hoth hbel
    have hres : a'.tmps.getD 0 undef = .bool true := hall 81 0 rfl
    rename_i hK
    refine hK _ _ ?_
    apply wp_ret
    exact bodyPost_ret (v := .bool true) (by rw [results_tmp (t := 0) rfl, hres]) hdef ⟨rfl, up hb hbel⟩
end Go.Proofs.YtaiceebhifecbaaDoor

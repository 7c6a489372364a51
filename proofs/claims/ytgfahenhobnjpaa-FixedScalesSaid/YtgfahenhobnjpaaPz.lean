/-
  The law of scaling: it returns true. No conditions.
-/
import Derived.Test.YtgfahenhobnjpaaPt
import Derived.Test.YtgfahenhobnjpaaG5
import Derived.Deep.DeepCutAuto
namespace Go.Proofs.Ytgfahenhobnjpaa
open Go.RowKit
/-- How the signs of a scaled component are tested. -/
theorem sign_ways {Z W : Int} (h : (0 ≤ Z → 0 ≤ W ∧ W ≤ Z) ∧ (Z ≤ 0 → W ≤ 0 ∧ Z ≤ W)) :
    (decide (0 ≤ Z) = true ∧ decide (Z ≤ 0) = true ∧ decide (W < 0) = false ∧ decide (Z < W) = false ∧ decide (0 < W) = false ∧ decide (W < Z) = false) ∨
    (decide (0 ≤ Z) = true ∧ decide (Z ≤ 0) = false ∧ decide (W < 0) = false ∧ decide (Z < W) = false) ∨
    (decide (0 ≤ Z) = false ∧ decide (Z ≤ 0) = true ∧ decide (0 < W) = false ∧ decide (W < Z) = false) := by
  simp only [decide_eq_true_eq, decide_eq_false_iff_not]
  omega
theorem Pv.new {w : World} {x y : Int} : Pv (w.alloc (Obj.cells #[.int .i64 x, .int .i64 y] 32)) w.heap.size x y := ⟨by simp, by simp, by simp⟩
set_option maxRecDepth 100000 in
set_option maxHeartbeats 8000000 in
theorem law_scales_a (x y most X Y U V n lim uu vv ss ll : Int) (w : World)
    (p1 : ∀ w, Calls Try.prog 16 #[.int .i32 x, .int .i32 y] w (Ib (pt X Y) w))
    (c1 : ∀ w, Calls Try.prog 17 #[pt X Y, .int .i64 most] w (Ib (pt U V) w)) (c2 : ∀ w, Calls Try.prog 18 #[pt X Y, .int .i64 most] w (Ib (pt U V) w))
    (c3 : ∀ w, Calls Try.prog 19 #[pt X Y] w (Ib (.int .i64 n) w))
    (hl : max 0 (min most 2097152) = lim) (h1 : IntKind.i64.wrap (U * U) = uu) (h2 : IntKind.i64.wrap (V * V) = vv) (h3 : IntKind.i64.wrap (uu + vv) = ss) (h4 : IntKind.i64.wrap (lim * lim) = ll) (h5 : decide (ss > ll) = false)
    (hX : (0 ≤ X → 0 ≤ U ∧ U ≤ X) ∧ (X ≤ 0 → U ≤ 0 ∧ X ≤ U)) (hY : (0 ≤ Y → 0 ≤ V ∧ V ≤ Y) ∧ (Y ≤ 0 → V ≤ 0 ∧ Y ≤ V)) (h6 : wrap64 (lim * lim) = ll) (g : decide (ll < n) = true) :
    Calls Try.prog 6 #[.int .i32 x, .int .i32 y, .int .i64 most] w (Ib (.bool true) w) := by
  have HV := Lib.hid (And.intro h1 (And.intro h2 (And.intro h3 (And.intro h4 h5))))
  have HX := Lib.hid (sign_ways hX)
  have HY := Lib.hid (sign_ways hY)
  clear h1 h2 h3 h4 h5 hX hY
  go_enter Try.func6, Try.ntmps6
  go_wp2_with fail
  refine (p1 _).mono ?_
  rintro e w0 ⟨rfl, hb0⟩
  go_wp2_with fail
  refine (c1 _).mono ?_
  rintro e w1 ⟨rfl, hb1⟩
  go_wp2_with fail
  have P1 : Pv (w1.alloc (Obj.cells #[Value.int IntKind.i64 U, Value.int IntKind.i64 V] 32)) w0.heap.size X Y := (Pv.below Pv.new hb1).below (one _ _)
  have Q1 : Pv (w1.alloc (Obj.cells #[Value.int IntKind.i64 U, Value.int IntKind.i64 V] 32)) w1.heap.size U V := Pv.new
  have hB : Below w.heap.size w (w1.alloc (Obj.cells #[Value.int IntKind.i64 U, Value.int IntKind.i64 V] 32)) := up (up (up hb0 (one _ _)) hb1) (one _ _)
  clear hb0 hb1
  generalize (w1.alloc (Obj.cells #[Value.int IntKind.i64 U, Value.int IntKind.i64 V] 32)) = w2 at *
  generalize w0.heap.size = p at *
  generalize w1.heap.size = q at *
  refine wp_region_on (by kernel_rfl) (FF [(7, Fact.at_ w2 (.pointer (some ⟨p, 0, none⟩))), (8, Fact.at_ w2 (.pointer (some ⟨q, 0, none⟩))), (2, Fact.eq (.int .i64 most)), (9, Fact.eq (.int .i64 lim)), (19, Fact.eq (pt U V)), (20, Fact.eq (pt X Y)), (21, Fact.eq (.int .i64 most)), (22, Fact.eq (pt U V)), (23, Fact.eq (.bool false)), (24, Fact.eq (.bool false)), (25, Fact.at_ w2 (.pointer (some ⟨q, 0, none⟩))), (26, Fact.eq (.int .i64 U)), (27, Fact.at_ w2 (.pointer (some ⟨q, 0, none⟩))), (28, Fact.eq (.int .i64 U)), (29, Fact.eq (.int .i64 uu)), (30, Fact.at_ w2 (.pointer (some ⟨q, 1, none⟩))), (31, Fact.eq (.int .i64 V)), (32, Fact.at_ w2 (.pointer (some ⟨q, 1, none⟩))), (33, Fact.eq (.int .i64 V)), (34, Fact.eq (.int .i64 vv)), (35, Fact.eq (.int .i64 ss)), (36, Fact.eq (.int .i64 lim)), (37, Fact.eq (.int .i64 lim)), (38, Fact.eq (.int .i64 ll)), (39, Fact.eq (.bool false)), (40, Fact.eq (.bool false))]) [7, 8, 2, 9] 121 [19, 20, 21, 22, 23, 24, 25, 26, 27, 28, 29, 30, 31, 32, 33, 34, 35, 36, 37, 38, 39, 40] rfl (by kernel_rfl) (by kernel_rfl) ?_ ?_ ?_
  · intro t ht
    simp only [List.mem_cons, List.not_mem_nil, or_false] at ht
    rcases ht with rfl | rfl | rfl | rfl
    · exact ⟨rfl, Below.refl _ _⟩
    · exact ⟨rfl, Below.refl _ _⟩
    · exact rfl
    · exact rfl
  · refine fcs ⟨ob_loadat w2 8 19 32 ⟨q, 0, none⟩ (pt U V) rfl rfl (by first | exact .inl rfl | exact .inr ⟨_, _, _, rfl, rfl, by kernel_rfl, by decide, rfl⟩) (by kernel_rfl) rfl rfl Q1.load, ?_⟩
    refine fcs ⟨ob_loadat w2 7 20 32 ⟨p, 0, none⟩ (pt X Y) rfl rfl (by first | exact .inl rfl | exact .inr ⟨_, _, _, rfl, rfl, by kernel_rfl, by decide, rfl⟩) (by kernel_rfl) rfl rfl P1.load, ?_⟩
    refine fcs ⟨ob_copy 2 21 (.inl rfl) rfl (by first | exact .inl rfl | exact .inr ⟨_, _, _, rfl, rfl, by kernel_rfl, by decide, rfl⟩) (by kernel_rfl) rfl, ?_⟩
    refine fcs ⟨ob_call2 18 20 21 22 _ rfl rfl (by first | exact .inl rfl | exact .inr ⟨_, _, _, rfl, rfl, by kernel_rfl, by decide, rfl⟩) (by kernel_rfl) (by kernel_rfl) (by kernel_rfl) (call2e c2), ?_⟩
    refine fcs ⟨ob_same 19 22 23 (pt U V) false rfl (by first | exact .inl rfl | exact .inr ⟨_, _, _, rfl, rfl, by kernel_rfl, by decide, rfl⟩) (by kernel_rfl) (by kernel_rfl) rfl rfl rfl (fun a w h1 h2 => go_neq_pt _ _ a w 19 22 _ rfl h1 h2), ?_⟩
    refine fcs ⟨ob_copy 23 24 (.inl rfl) rfl (by first | exact .inl rfl | exact .inr ⟨_, _, _, rfl, rfl, by kernel_rfl, by decide, rfl⟩) (by kernel_rfl) rfl, ?_⟩
    refine fcs ⟨ob_fieldat w2 8 25 0 32 ⟨q, 0, none⟩ ⟨q, 0, none⟩ rfl rfl (by first | exact .inl rfl | exact .inr ⟨_, _, _, rfl, rfl, by kernel_rfl, by decide, rfl⟩) (by kernel_rfl) rfl rfl (fun w => by go_simp), ?_⟩
    refine fcs ⟨ob_loadat w2 25 26 3 ⟨q, 0, none⟩ (.int .i64 U) rfl rfl (by first | exact .inl rfl | exact .inr ⟨_, _, _, rfl, rfl, by kernel_rfl, by decide, rfl⟩) (by kernel_rfl) rfl rfl (fun w' hb => load_i64 (Q1.below hb).c0), ?_⟩
    refine fcs ⟨ob_fieldat w2 8 27 0 32 ⟨q, 0, none⟩ ⟨q, 0, none⟩ rfl rfl (by first | exact .inl rfl | exact .inr ⟨_, _, _, rfl, rfl, by kernel_rfl, by decide, rfl⟩) (by kernel_rfl) rfl rfl (fun w => by go_simp), ?_⟩
    refine fcs ⟨ob_loadat w2 27 28 3 ⟨q, 0, none⟩ (.int .i64 U) rfl rfl (by first | exact .inl rfl | exact .inr ⟨_, _, _, rfl, rfl, by kernel_rfl, by decide, rfl⟩) (by kernel_rfl) rfl rfl (fun w' hb => load_i64 (Q1.below hb).c0), ?_⟩
    refine fcs ⟨ob_mul2 .i64 26 28 29 U U uu _ _ HV.out.1 rfl rfl (by first | exact .inl rfl | exact .inr ⟨_, _, _, rfl, rfl, by kernel_rfl, by decide, rfl⟩) (by kernel_rfl) (by kernel_rfl) rfl rfl rfl, ?_⟩
    refine fcs ⟨ob_fieldat w2 8 30 1 32 ⟨q, 0, none⟩ ⟨q, 1, none⟩ rfl rfl (by first | exact .inl rfl | exact .inr ⟨_, _, _, rfl, rfl, by kernel_rfl, by decide, rfl⟩) (by kernel_rfl) rfl rfl (fun w => by go_simp), ?_⟩
    refine fcs ⟨ob_loadat w2 30 31 3 ⟨q, 1, none⟩ (.int .i64 V) rfl rfl (by first | exact .inl rfl | exact .inr ⟨_, _, _, rfl, rfl, by kernel_rfl, by decide, rfl⟩) (by kernel_rfl) rfl rfl (fun w' hb => load_i64 (Q1.below hb).c1), ?_⟩
    refine fcs ⟨ob_fieldat w2 8 32 1 32 ⟨q, 0, none⟩ ⟨q, 1, none⟩ rfl rfl (by first | exact .inl rfl | exact .inr ⟨_, _, _, rfl, rfl, by kernel_rfl, by decide, rfl⟩) (by kernel_rfl) rfl rfl (fun w => by go_simp), ?_⟩
    refine fcs ⟨ob_loadat w2 32 33 3 ⟨q, 1, none⟩ (.int .i64 V) rfl rfl (by first | exact .inl rfl | exact .inr ⟨_, _, _, rfl, rfl, by kernel_rfl, by decide, rfl⟩) (by kernel_rfl) rfl rfl (fun w' hb => load_i64 (Q1.below hb).c1), ?_⟩
    refine fcs ⟨ob_mul2 .i64 31 33 34 V V vv _ _ HV.out.2.1 rfl rfl (by first | exact .inl rfl | exact .inr ⟨_, _, _, rfl, rfl, by kernel_rfl, by decide, rfl⟩) (by kernel_rfl) (by kernel_rfl) rfl rfl rfl, ?_⟩
    refine fcs ⟨ob_add2 .i64 29 34 35 uu vv ss _ _ HV.out.2.2.1 rfl rfl (by first | exact .inl rfl | exact .inr ⟨_, _, _, rfl, rfl, by kernel_rfl, by decide, rfl⟩) (by kernel_rfl) (by kernel_rfl) rfl rfl rfl, ?_⟩
    refine fcs ⟨ob_copy 9 36 (.inl rfl) rfl (by first | exact .inl rfl | exact .inr ⟨_, _, _, rfl, rfl, by kernel_rfl, by decide, rfl⟩) (by kernel_rfl) rfl, ?_⟩
    refine fcs ⟨ob_copy 9 37 (.inl rfl) rfl (by first | exact .inl rfl | exact .inr ⟨_, _, _, rfl, rfl, by kernel_rfl, by decide, rfl⟩) (by kernel_rfl) rfl, ?_⟩
    refine fcs ⟨ob_mul2 .i64 36 37 38 lim lim ll _ _ HV.out.2.2.2.1 rfl rfl (by first | exact .inl rfl | exact .inr ⟨_, _, _, rfl, rfl, by kernel_rfl, by decide, rfl⟩) (by kernel_rfl) (by kernel_rfl) rfl rfl rfl, ?_⟩
    refine fcs ⟨ob_gt2 .i64 35 38 39 ss ll false _ _ HV.out.2.2.2.2 rfl rfl (by first | exact .inl rfl | exact .inr ⟨_, _, _, rfl, rfl, by kernel_rfl, by decide, rfl⟩) (by kernel_rfl) (by kernel_rfl) rfl rfl rfl, ?_⟩
    refine fcs ⟨ob_pick_else 24 39 40 _ rfl rfl (by first | exact .inl rfl | exact .inr ⟨_, _, _, rfl, rfl, by kernel_rfl, by decide, rfl⟩) (by kernel_rfl) (by kernel_rfl) rfl rfl, ?_⟩
    exact fnl
  intro vv w3 hvv hbv
  have hv40 : vv 40 = (.bool false) := hvv 40 (by decide)
  simp only [lay, List.foldl_cons, List.foldl_nil, List.setIfInBounds_toArray, List.set_cons_succ, List.set_cons_zero, hv40]
  clear hvv
  have P1 := P1.below hbv
  have Q1 := Q1.below hbv
  have hB := up hB hbv
  clear hbv
  go_upto_region 6 with (fail)
  rcases HX.out with ⟨x1, x2, x3, x4, x5, x6⟩ | ⟨x1, x2, x3, x4⟩ | ⟨x1, x2, x3, x4⟩ <;> rcases HY.out with ⟨y1, y2, y3, y4, y5, y6⟩ | ⟨y1, y2, y3, y4⟩ | ⟨y1, y2, y3, y4⟩
  · refine wp_region_off (FF [(7, Fact.at_ w3 (.pointer (some ⟨p, 0, none⟩))), (8, Fact.at_ w3 (.pointer (some ⟨q, 0, none⟩))), (41, Fact.at_ w3 (.pointer (some ⟨p, 0, none⟩))), (42, Fact.eq (.int .i64 X)), (43, Fact.eq (.bool true)), (44, Fact.eq (.bool true)), (45, Fact.at_ w3 (.pointer (some ⟨q, 0, none⟩))), (46, Fact.eq (.int .i64 U)), (47, Fact.eq (.bool false)), (48, Fact.eq (.bool false)), (49, Fact.at_ w3 (.pointer (some ⟨q, 0, none⟩))), (50, Fact.eq (.int .i64 U)), (51, Fact.at_ w3 (.pointer (some ⟨p, 0, none⟩))), (52, Fact.eq (.int .i64 X)), (53, Fact.eq (.bool false)), (54, Fact.eq (.bool false)), (55, Fact.eq (.bool false)), (56, Fact.eq (.bool false)), (57, Fact.at_ w3 (.pointer (some ⟨p, 0, none⟩))), (58, Fact.eq (.int .i64 X)), (59, Fact.eq (.bool true)), (60, Fact.eq (.bool true)), (61, Fact.at_ w3 (.pointer (some ⟨q, 0, none⟩))), (62, Fact.eq (.int .i64 U)), (63, Fact.eq (.bool false)), (64, Fact.eq (.bool false)), (65, Fact.at_ w3 (.pointer (some ⟨q, 0, none⟩))), (66, Fact.eq (.int .i64 U)), (67, Fact.at_ w3 (.pointer (some ⟨p, 0, none⟩))), (68, Fact.eq (.int .i64 X)), (69, Fact.eq (.bool false)), (70, Fact.eq (.bool false)), (71, Fact.eq (.bool false)), (72, Fact.eq (.bool false)), (73, Fact.eq (.bool false)), (74, Fact.at_ w3 (.pointer (some ⟨p, 1, none⟩))), (75, Fact.eq (.int .i64 Y)), (76, Fact.eq (.bool true)), (77, Fact.eq (.bool true)), (78, Fact.at_ w3 (.pointer (some ⟨q, 1, none⟩))), (79, Fact.eq (.int .i64 V)), (80, Fact.eq (.bool false)), (81, Fact.eq (.bool false)), (82, Fact.at_ w3 (.pointer (some ⟨q, 1, none⟩))), (83, Fact.eq (.int .i64 V)), (84, Fact.at_ w3 (.pointer (some ⟨p, 1, none⟩))), (85, Fact.eq (.int .i64 Y)), (86, Fact.eq (.bool false)), (87, Fact.eq (.bool false)), (88, Fact.eq (.bool false)), (89, Fact.eq (.bool false)), (90, Fact.eq (.bool false)), (91, Fact.at_ w3 (.pointer (some ⟨p, 1, none⟩))), (92, Fact.eq (.int .i64 Y)), (93, Fact.eq (.bool true)), (94, Fact.eq (.bool true)), (95, Fact.at_ w3 (.pointer (some ⟨q, 1, none⟩))), (96, Fact.eq (.int .i64 V)), (97, Fact.eq (.bool false)), (98, Fact.eq (.bool false)), (99, Fact.at_ w3 (.pointer (some ⟨q, 1, none⟩))), (100, Fact.eq (.int .i64 V)), (101, Fact.at_ w3 (.pointer (some ⟨p, 1, none⟩))), (102, Fact.eq (.int .i64 Y)), (103, Fact.eq (.bool false)), (104, Fact.eq (.bool false)), (105, Fact.eq (.bool false)), (106, Fact.eq (.bool false))]) [7, 8] 121 [41, 42, 43, 44, 45, 46, 47, 48, 49, 50, 51, 52, 53, 54, 55, 56, 57, 58, 59, 60, 61, 62, 63, 64, 65, 66, 67, 68, 69, 70, 71, 72, 73, 74, 75, 76, 77, 78, 79, 80, 81, 82, 83, 84, 85, 86, 87, 88, 89, 90, 91, 92, 93, 94, 95, 96, 97, 98, 99, 100, 101, 102, 103, 104, 105, 106] rfl (by kernel_rfl) (by kernel_rfl) ?_ ?_ ?_
    · intro t ht
      simp only [List.mem_cons, List.not_mem_nil, or_false] at ht
      rcases ht with rfl | rfl
      · exact ⟨rfl, Below.refl _ _⟩
      · exact ⟨rfl, Below.refl _ _⟩
    · refine fcs ⟨ob_fieldat w3 7 41 0 32 ⟨p, 0, none⟩ ⟨p, 0, none⟩ rfl rfl (by first | exact .inl rfl | exact .inr ⟨_, _, _, rfl, rfl, by kernel_rfl, by decide, rfl⟩) (by kernel_rfl) rfl rfl (fun w => by go_simp), ?_⟩
      refine fcs ⟨ob_loadat w3 41 42 3 ⟨p, 0, none⟩ (.int .i64 X) rfl rfl (by first | exact .inl rfl | exact .inr ⟨_, _, _, rfl, rfl, by kernel_rfl, by decide, rfl⟩) (by kernel_rfl) rfl rfl (fun w' hb => load_i64 (P1.below hb).c0), ?_⟩
      refine fcs ⟨ob_gec 42 43 .i64 _ _ X 0 true x1 rfl rfl (by first | exact .inl rfl | exact .inr ⟨_, _, _, rfl, rfl, by kernel_rfl, by decide, rfl⟩) (by kernel_rfl) rfl rfl, ?_⟩
      refine fcs ⟨ob_copy 43 44 (.inl rfl) rfl (by first | exact .inl rfl | exact .inr ⟨_, _, _, rfl, rfl, by kernel_rfl, by decide, rfl⟩) (by kernel_rfl) rfl, ?_⟩
      refine fcs ⟨ob_fieldat w3 8 45 0 32 ⟨q, 0, none⟩ ⟨q, 0, none⟩ rfl rfl (by first | exact .inl rfl | exact .inr ⟨_, _, _, rfl, rfl, by kernel_rfl, by decide, rfl⟩) (by kernel_rfl) rfl rfl (fun w => by go_simp), ?_⟩
      refine fcs ⟨ob_loadat w3 45 46 3 ⟨q, 0, none⟩ (.int .i64 U) rfl rfl (by first | exact .inl rfl | exact .inr ⟨_, _, _, rfl, rfl, by kernel_rfl, by decide, rfl⟩) (by kernel_rfl) rfl rfl (fun w' hb => load_i64 (Q1.below hb).c0), ?_⟩
      refine fcs ⟨ob_ltc 46 47 .i64 _ _ U 0 false x3 rfl rfl (by first | exact .inl rfl | exact .inr ⟨_, _, _, rfl, rfl, by kernel_rfl, by decide, rfl⟩) (by kernel_rfl) rfl rfl, ?_⟩
      refine fcs ⟨ob_copy 47 48 (.inl rfl) rfl (by first | exact .inl rfl | exact .inr ⟨_, _, _, rfl, rfl, by kernel_rfl, by decide, rfl⟩) (by kernel_rfl) rfl, ?_⟩
      refine fcs ⟨ob_fieldat w3 8 49 0 32 ⟨q, 0, none⟩ ⟨q, 0, none⟩ rfl rfl (by first | exact .inl rfl | exact .inr ⟨_, _, _, rfl, rfl, by kernel_rfl, by decide, rfl⟩) (by kernel_rfl) rfl rfl (fun w => by go_simp), ?_⟩
      refine fcs ⟨ob_loadat w3 49 50 3 ⟨q, 0, none⟩ (.int .i64 U) rfl rfl (by first | exact .inl rfl | exact .inr ⟨_, _, _, rfl, rfl, by kernel_rfl, by decide, rfl⟩) (by kernel_rfl) rfl rfl (fun w' hb => load_i64 (Q1.below hb).c0), ?_⟩
      refine fcs ⟨ob_fieldat w3 7 51 0 32 ⟨p, 0, none⟩ ⟨p, 0, none⟩ rfl rfl (by first | exact .inl rfl | exact .inr ⟨_, _, _, rfl, rfl, by kernel_rfl, by decide, rfl⟩) (by kernel_rfl) rfl rfl (fun w => by go_simp), ?_⟩
      refine fcs ⟨ob_loadat w3 51 52 3 ⟨p, 0, none⟩ (.int .i64 X) rfl rfl (by first | exact .inl rfl | exact .inr ⟨_, _, _, rfl, rfl, by kernel_rfl, by decide, rfl⟩) (by kernel_rfl) rfl rfl (fun w' hb => load_i64 (P1.below hb).c0), ?_⟩
      refine fcs ⟨ob_gt2 .i64 50 52 53 U X false _ _ x4 rfl rfl (by first | exact .inl rfl | exact .inr ⟨_, _, _, rfl, rfl, by kernel_rfl, by decide, rfl⟩) (by kernel_rfl) (by kernel_rfl) rfl rfl rfl, ?_⟩
      refine fcs ⟨ob_pick_else 48 53 54 _ rfl rfl (by first | exact .inl rfl | exact .inr ⟨_, _, _, rfl, rfl, by kernel_rfl, by decide, rfl⟩) (by kernel_rfl) (by kernel_rfl) rfl rfl, ?_⟩
      refine fcs ⟨ob_pick 44 54 55 _ rfl rfl (by first | exact .inl rfl | exact .inr ⟨_, _, _, rfl, rfl, by kernel_rfl, by decide, rfl⟩) (by kernel_rfl) (by kernel_rfl) rfl rfl, ?_⟩
      refine fcs ⟨ob_copy 55 56 (.inl rfl) rfl (by first | exact .inl rfl | exact .inr ⟨_, _, _, rfl, rfl, by kernel_rfl, by decide, rfl⟩) (by kernel_rfl) rfl, ?_⟩
      refine fcs ⟨ob_fieldat w3 7 57 0 32 ⟨p, 0, none⟩ ⟨p, 0, none⟩ rfl rfl (by first | exact .inl rfl | exact .inr ⟨_, _, _, rfl, rfl, by kernel_rfl, by decide, rfl⟩) (by kernel_rfl) rfl rfl (fun w => by go_simp), ?_⟩
      refine fcs ⟨ob_loadat w3 57 58 3 ⟨p, 0, none⟩ (.int .i64 X) rfl rfl (by first | exact .inl rfl | exact .inr ⟨_, _, _, rfl, rfl, by kernel_rfl, by decide, rfl⟩) (by kernel_rfl) rfl rfl (fun w' hb => load_i64 (P1.below hb).c0), ?_⟩
      refine fcs ⟨ob_lec 58 59 .i64 _ _ X 0 true x2 rfl rfl (by first | exact .inl rfl | exact .inr ⟨_, _, _, rfl, rfl, by kernel_rfl, by decide, rfl⟩) (by kernel_rfl) rfl rfl, ?_⟩
      refine fcs ⟨ob_copy 59 60 (.inl rfl) rfl (by first | exact .inl rfl | exact .inr ⟨_, _, _, rfl, rfl, by kernel_rfl, by decide, rfl⟩) (by kernel_rfl) rfl, ?_⟩
      refine fcs ⟨ob_fieldat w3 8 61 0 32 ⟨q, 0, none⟩ ⟨q, 0, none⟩ rfl rfl (by first | exact .inl rfl | exact .inr ⟨_, _, _, rfl, rfl, by kernel_rfl, by decide, rfl⟩) (by kernel_rfl) rfl rfl (fun w => by go_simp), ?_⟩
      refine fcs ⟨ob_loadat w3 61 62 3 ⟨q, 0, none⟩ (.int .i64 U) rfl rfl (by first | exact .inl rfl | exact .inr ⟨_, _, _, rfl, rfl, by kernel_rfl, by decide, rfl⟩) (by kernel_rfl) rfl rfl (fun w' hb => load_i64 (Q1.below hb).c0), ?_⟩
      refine fcs ⟨ob_gtc 62 63 .i64 _ _ U 0 false x5 rfl rfl (by first | exact .inl rfl | exact .inr ⟨_, _, _, rfl, rfl, by kernel_rfl, by decide, rfl⟩) (by kernel_rfl) rfl rfl, ?_⟩
      refine fcs ⟨ob_copy 63 64 (.inl rfl) rfl (by first | exact .inl rfl | exact .inr ⟨_, _, _, rfl, rfl, by kernel_rfl, by decide, rfl⟩) (by kernel_rfl) rfl, ?_⟩
      refine fcs ⟨ob_fieldat w3 8 65 0 32 ⟨q, 0, none⟩ ⟨q, 0, none⟩ rfl rfl (by first | exact .inl rfl | exact .inr ⟨_, _, _, rfl, rfl, by kernel_rfl, by decide, rfl⟩) (by kernel_rfl) rfl rfl (fun w => by go_simp), ?_⟩
      refine fcs ⟨ob_loadat w3 65 66 3 ⟨q, 0, none⟩ (.int .i64 U) rfl rfl (by first | exact .inl rfl | exact .inr ⟨_, _, _, rfl, rfl, by kernel_rfl, by decide, rfl⟩) (by kernel_rfl) rfl rfl (fun w' hb => load_i64 (Q1.below hb).c0), ?_⟩
      refine fcs ⟨ob_fieldat w3 7 67 0 32 ⟨p, 0, none⟩ ⟨p, 0, none⟩ rfl rfl (by first | exact .inl rfl | exact .inr ⟨_, _, _, rfl, rfl, by kernel_rfl, by decide, rfl⟩) (by kernel_rfl) rfl rfl (fun w => by go_simp), ?_⟩
      refine fcs ⟨ob_loadat w3 67 68 3 ⟨p, 0, none⟩ (.int .i64 X) rfl rfl (by first | exact .inl rfl | exact .inr ⟨_, _, _, rfl, rfl, by kernel_rfl, by decide, rfl⟩) (by kernel_rfl) rfl rfl (fun w' hb => load_i64 (P1.below hb).c0), ?_⟩
      refine fcs ⟨ob_lt2 .i64 66 68 69 U X false _ _ x6 rfl rfl (by first | exact .inl rfl | exact .inr ⟨_, _, _, rfl, rfl, by kernel_rfl, by decide, rfl⟩) (by kernel_rfl) (by kernel_rfl) rfl rfl rfl, ?_⟩
      refine fcs ⟨ob_pick_else 64 69 70 _ rfl rfl (by first | exact .inl rfl | exact .inr ⟨_, _, _, rfl, rfl, by kernel_rfl, by decide, rfl⟩) (by kernel_rfl) (by kernel_rfl) rfl rfl, ?_⟩
      refine fcs ⟨ob_pick 60 70 71 _ rfl rfl (by first | exact .inl rfl | exact .inr ⟨_, _, _, rfl, rfl, by kernel_rfl, by decide, rfl⟩) (by kernel_rfl) (by kernel_rfl) rfl rfl, ?_⟩
      refine fcs ⟨ob_pick_else 56 71 72 _ rfl rfl (by first | exact .inl rfl | exact .inr ⟨_, _, _, rfl, rfl, by kernel_rfl, by decide, rfl⟩) (by kernel_rfl) (by kernel_rfl) rfl rfl, ?_⟩
      refine fcs ⟨ob_copy 72 73 (.inl rfl) rfl (by first | exact .inl rfl | exact .inr ⟨_, _, _, rfl, rfl, by kernel_rfl, by decide, rfl⟩) (by kernel_rfl) rfl, ?_⟩
      refine fcs ⟨ob_fieldat w3 7 74 1 32 ⟨p, 0, none⟩ ⟨p, 1, none⟩ rfl rfl (by first | exact .inl rfl | exact .inr ⟨_, _, _, rfl, rfl, by kernel_rfl, by decide, rfl⟩) (by kernel_rfl) rfl rfl (fun w => by go_simp), ?_⟩
      refine fcs ⟨ob_loadat w3 74 75 3 ⟨p, 1, none⟩ (.int .i64 Y) rfl rfl (by first | exact .inl rfl | exact .inr ⟨_, _, _, rfl, rfl, by kernel_rfl, by decide, rfl⟩) (by kernel_rfl) rfl rfl (fun w' hb => load_i64 (P1.below hb).c1), ?_⟩
      refine fcs ⟨ob_gec 75 76 .i64 _ _ Y 0 true y1 rfl rfl (by first | exact .inl rfl | exact .inr ⟨_, _, _, rfl, rfl, by kernel_rfl, by decide, rfl⟩) (by kernel_rfl) rfl rfl, ?_⟩
      refine fcs ⟨ob_copy 76 77 (.inl rfl) rfl (by first | exact .inl rfl | exact .inr ⟨_, _, _, rfl, rfl, by kernel_rfl, by decide, rfl⟩) (by kernel_rfl) rfl, ?_⟩
      refine fcs ⟨ob_fieldat w3 8 78 1 32 ⟨q, 0, none⟩ ⟨q, 1, none⟩ rfl rfl (by first | exact .inl rfl | exact .inr ⟨_, _, _, rfl, rfl, by kernel_rfl, by decide, rfl⟩) (by kernel_rfl) rfl rfl (fun w => by go_simp), ?_⟩
      refine fcs ⟨ob_loadat w3 78 79 3 ⟨q, 1, none⟩ (.int .i64 V) rfl rfl (by first | exact .inl rfl | exact .inr ⟨_, _, _, rfl, rfl, by kernel_rfl, by decide, rfl⟩) (by kernel_rfl) rfl rfl (fun w' hb => load_i64 (Q1.below hb).c1), ?_⟩
      refine fcs ⟨ob_ltc 79 80 .i64 _ _ V 0 false y3 rfl rfl (by first | exact .inl rfl | exact .inr ⟨_, _, _, rfl, rfl, by kernel_rfl, by decide, rfl⟩) (by kernel_rfl) rfl rfl, ?_⟩
      refine fcs ⟨ob_copy 80 81 (.inl rfl) rfl (by first | exact .inl rfl | exact .inr ⟨_, _, _, rfl, rfl, by kernel_rfl, by decide, rfl⟩) (by kernel_rfl) rfl, ?_⟩
      refine fcs ⟨ob_fieldat w3 8 82 1 32 ⟨q, 0, none⟩ ⟨q, 1, none⟩ rfl rfl (by first | exact .inl rfl | exact .inr ⟨_, _, _, rfl, rfl, by kernel_rfl, by decide, rfl⟩) (by kernel_rfl) rfl rfl (fun w => by go_simp), ?_⟩
      refine fcs ⟨ob_loadat w3 82 83 3 ⟨q, 1, none⟩ (.int .i64 V) rfl rfl (by first | exact .inl rfl | exact .inr ⟨_, _, _, rfl, rfl, by kernel_rfl, by decide, rfl⟩) (by kernel_rfl) rfl rfl (fun w' hb => load_i64 (Q1.below hb).c1), ?_⟩
      refine fcs ⟨ob_fieldat w3 7 84 1 32 ⟨p, 0, none⟩ ⟨p, 1, none⟩ rfl rfl (by first | exact .inl rfl | exact .inr ⟨_, _, _, rfl, rfl, by kernel_rfl, by decide, rfl⟩) (by kernel_rfl) rfl rfl (fun w => by go_simp), ?_⟩
      refine fcs ⟨ob_loadat w3 84 85 3 ⟨p, 1, none⟩ (.int .i64 Y) rfl rfl (by first | exact .inl rfl | exact .inr ⟨_, _, _, rfl, rfl, by kernel_rfl, by decide, rfl⟩) (by kernel_rfl) rfl rfl (fun w' hb => load_i64 (P1.below hb).c1), ?_⟩
      refine fcs ⟨ob_gt2 .i64 83 85 86 V Y false _ _ y4 rfl rfl (by first | exact .inl rfl | exact .inr ⟨_, _, _, rfl, rfl, by kernel_rfl, by decide, rfl⟩) (by kernel_rfl) (by kernel_rfl) rfl rfl rfl, ?_⟩
      refine fcs ⟨ob_pick_else 81 86 87 _ rfl rfl (by first | exact .inl rfl | exact .inr ⟨_, _, _, rfl, rfl, by kernel_rfl, by decide, rfl⟩) (by kernel_rfl) (by kernel_rfl) rfl rfl, ?_⟩
      refine fcs ⟨ob_pick 77 87 88 _ rfl rfl (by first | exact .inl rfl | exact .inr ⟨_, _, _, rfl, rfl, by kernel_rfl, by decide, rfl⟩) (by kernel_rfl) (by kernel_rfl) rfl rfl, ?_⟩
      refine fcs ⟨ob_pick_else 73 88 89 _ rfl rfl (by first | exact .inl rfl | exact .inr ⟨_, _, _, rfl, rfl, by kernel_rfl, by decide, rfl⟩) (by kernel_rfl) (by kernel_rfl) rfl rfl, ?_⟩
      refine fcs ⟨ob_copy 89 90 (.inl rfl) rfl (by first | exact .inl rfl | exact .inr ⟨_, _, _, rfl, rfl, by kernel_rfl, by decide, rfl⟩) (by kernel_rfl) rfl, ?_⟩
      refine fcs ⟨ob_fieldat w3 7 91 1 32 ⟨p, 0, none⟩ ⟨p, 1, none⟩ rfl rfl (by first | exact .inl rfl | exact .inr ⟨_, _, _, rfl, rfl, by kernel_rfl, by decide, rfl⟩) (by kernel_rfl) rfl rfl (fun w => by go_simp), ?_⟩
      refine fcs ⟨ob_loadat w3 91 92 3 ⟨p, 1, none⟩ (.int .i64 Y) rfl rfl (by first | exact .inl rfl | exact .inr ⟨_, _, _, rfl, rfl, by kernel_rfl, by decide, rfl⟩) (by kernel_rfl) rfl rfl (fun w' hb => load_i64 (P1.below hb).c1), ?_⟩
      refine fcs ⟨ob_lec 92 93 .i64 _ _ Y 0 true y2 rfl rfl (by first | exact .inl rfl | exact .inr ⟨_, _, _, rfl, rfl, by kernel_rfl, by decide, rfl⟩) (by kernel_rfl) rfl rfl, ?_⟩
      refine fcs ⟨ob_copy 93 94 (.inl rfl) rfl (by first | exact .inl rfl | exact .inr ⟨_, _, _, rfl, rfl, by kernel_rfl, by decide, rfl⟩) (by kernel_rfl) rfl, ?_⟩
      refine fcs ⟨ob_fieldat w3 8 95 1 32 ⟨q, 0, none⟩ ⟨q, 1, none⟩ rfl rfl (by first | exact .inl rfl | exact .inr ⟨_, _, _, rfl, rfl, by kernel_rfl, by decide, rfl⟩) (by kernel_rfl) rfl rfl (fun w => by go_simp), ?_⟩
      refine fcs ⟨ob_loadat w3 95 96 3 ⟨q, 1, none⟩ (.int .i64 V) rfl rfl (by first | exact .inl rfl | exact .inr ⟨_, _, _, rfl, rfl, by kernel_rfl, by decide, rfl⟩) (by kernel_rfl) rfl rfl (fun w' hb => load_i64 (Q1.below hb).c1), ?_⟩
      refine fcs ⟨ob_gtc 96 97 .i64 _ _ V 0 false y5 rfl rfl (by first | exact .inl rfl | exact .inr ⟨_, _, _, rfl, rfl, by kernel_rfl, by decide, rfl⟩) (by kernel_rfl) rfl rfl, ?_⟩
      refine fcs ⟨ob_copy 97 98 (.inl rfl) rfl (by first | exact .inl rfl | exact .inr ⟨_, _, _, rfl, rfl, by kernel_rfl, by decide, rfl⟩) (by kernel_rfl) rfl, ?_⟩
      refine fcs ⟨ob_fieldat w3 8 99 1 32 ⟨q, 0, none⟩ ⟨q, 1, none⟩ rfl rfl (by first | exact .inl rfl | exact .inr ⟨_, _, _, rfl, rfl, by kernel_rfl, by decide, rfl⟩) (by kernel_rfl) rfl rfl (fun w => by go_simp), ?_⟩
      refine fcs ⟨ob_loadat w3 99 100 3 ⟨q, 1, none⟩ (.int .i64 V) rfl rfl (by first | exact .inl rfl | exact .inr ⟨_, _, _, rfl, rfl, by kernel_rfl, by decide, rfl⟩) (by kernel_rfl) rfl rfl (fun w' hb => load_i64 (Q1.below hb).c1), ?_⟩
      refine fcs ⟨ob_fieldat w3 7 101 1 32 ⟨p, 0, none⟩ ⟨p, 1, none⟩ rfl rfl (by first | exact .inl rfl | exact .inr ⟨_, _, _, rfl, rfl, by kernel_rfl, by decide, rfl⟩) (by kernel_rfl) rfl rfl (fun w => by go_simp), ?_⟩
      refine fcs ⟨ob_loadat w3 101 102 3 ⟨p, 1, none⟩ (.int .i64 Y) rfl rfl (by first | exact .inl rfl | exact .inr ⟨_, _, _, rfl, rfl, by kernel_rfl, by decide, rfl⟩) (by kernel_rfl) rfl rfl (fun w' hb => load_i64 (P1.below hb).c1), ?_⟩
      refine fcs ⟨ob_lt2 .i64 100 102 103 V Y false _ _ y6 rfl rfl (by first | exact .inl rfl | exact .inr ⟨_, _, _, rfl, rfl, by kernel_rfl, by decide, rfl⟩) (by kernel_rfl) (by kernel_rfl) rfl rfl rfl, ?_⟩
      refine fcs ⟨ob_pick_else 98 103 104 _ rfl rfl (by first | exact .inl rfl | exact .inr ⟨_, _, _, rfl, rfl, by kernel_rfl, by decide, rfl⟩) (by kernel_rfl) (by kernel_rfl) rfl rfl, ?_⟩
      refine fcs ⟨ob_pick 94 104 105 _ rfl rfl (by first | exact .inl rfl | exact .inr ⟨_, _, _, rfl, rfl, by kernel_rfl, by decide, rfl⟩) (by kernel_rfl) (by kernel_rfl) rfl rfl, ?_⟩
      refine fcs ⟨ob_pick_else 90 105 106 _ rfl rfl (by first | exact .inl rfl | exact .inr ⟨_, _, _, rfl, rfl, by kernel_rfl, by decide, rfl⟩) (by kernel_rfl) (by kernel_rfl) rfl rfl, ?_⟩
      exact fnl
    intro vv w4 hvv hbv
    have hv106 : vv 106 = (.bool false) := hvv 106 (by decide)
    simp only [lay, List.foldl_cons, List.foldl_nil, List.setIfInBounds_toArray, List.set_cons_succ, List.set_cons_zero, hv106]
    clear hvv
    have P1 := P1.below hbv
    have Q1 := Q1.below hbv
    have hB := up hB hbv
    clear hbv
    have k1 := P1.c0
    have k2 := P1.c1
    have k3 := Q1.c0
    have k4 := Q1.c1
    go_wp2_with fail
    refine (c3 _).mono ?_
    rintro e w5 ⟨rfl, hb3⟩
    have P1 := P1.below hb3
    have Q1 := Q1.below hb3
    have hB := up hB hb3
    clear hb3 k1 k2 k3 k4
    have k1 := P1.c0
    have k2 := P1.c1
    have k3 := Q1.c0
    have k4 := Q1.c1
    go_wp2_with fail
    refine (awake_any _).mono ?_
    rintro e w6 ⟨rfl, hb4⟩
    go_wp2_with fail
    go_ret
    exact ⟨by rfl, up hB hb4⟩
  · refine wp_region_off (FF [(7, Fact.at_ w3 (.pointer (some ⟨p, 0, none⟩))), (8, Fact.at_ w3 (.pointer (some ⟨q, 0, none⟩))), (41, Fact.at_ w3 (.pointer (some ⟨p, 0, none⟩))), (42, Fact.eq (.int .i64 X)), (43, Fact.eq (.bool true)), (44, Fact.eq (.bool true)), (45, Fact.at_ w3 (.pointer (some ⟨q, 0, none⟩))), (46, Fact.eq (.int .i64 U)), (47, Fact.eq (.bool false)), (48, Fact.eq (.bool false)), (49, Fact.at_ w3 (.pointer (some ⟨q, 0, none⟩))), (50, Fact.eq (.int .i64 U)), (51, Fact.at_ w3 (.pointer (some ⟨p, 0, none⟩))), (52, Fact.eq (.int .i64 X)), (53, Fact.eq (.bool false)), (54, Fact.eq (.bool false)), (55, Fact.eq (.bool false)), (56, Fact.eq (.bool false)), (57, Fact.at_ w3 (.pointer (some ⟨p, 0, none⟩))), (58, Fact.eq (.int .i64 X)), (59, Fact.eq (.bool true)), (60, Fact.eq (.bool true)), (61, Fact.at_ w3 (.pointer (some ⟨q, 0, none⟩))), (62, Fact.eq (.int .i64 U)), (63, Fact.eq (.bool false)), (64, Fact.eq (.bool false)), (65, Fact.at_ w3 (.pointer (some ⟨q, 0, none⟩))), (66, Fact.eq (.int .i64 U)), (67, Fact.at_ w3 (.pointer (some ⟨p, 0, none⟩))), (68, Fact.eq (.int .i64 X)), (69, Fact.eq (.bool false)), (70, Fact.eq (.bool false)), (71, Fact.eq (.bool false)), (72, Fact.eq (.bool false)), (73, Fact.eq (.bool false)), (74, Fact.at_ w3 (.pointer (some ⟨p, 1, none⟩))), (75, Fact.eq (.int .i64 Y)), (76, Fact.eq (.bool true)), (77, Fact.eq (.bool true)), (78, Fact.at_ w3 (.pointer (some ⟨q, 1, none⟩))), (79, Fact.eq (.int .i64 V)), (80, Fact.eq (.bool false)), (81, Fact.eq (.bool false)), (82, Fact.at_ w3 (.pointer (some ⟨q, 1, none⟩))), (83, Fact.eq (.int .i64 V)), (84, Fact.at_ w3 (.pointer (some ⟨p, 1, none⟩))), (85, Fact.eq (.int .i64 Y)), (86, Fact.eq (.bool false)), (87, Fact.eq (.bool false)), (88, Fact.eq (.bool false)), (89, Fact.eq (.bool false)), (90, Fact.eq (.bool false)), (91, Fact.at_ w3 (.pointer (some ⟨p, 1, none⟩))), (92, Fact.eq (.int .i64 Y)), (93, Fact.eq (.bool false)), (94, Fact.eq (.bool false)), (95, Fact.eq undef), (96, Fact.eq undef), (97, Fact.eq undef), (98, Fact.eq undef), (99, Fact.eq undef), (100, Fact.eq undef), (101, Fact.eq undef), (102, Fact.eq undef), (103, Fact.eq undef), (104, Fact.eq undef), (105, Fact.eq (.bool false)), (106, Fact.eq (.bool false))]) [7, 8] 121 [41, 42, 43, 44, 45, 46, 47, 48, 49, 50, 51, 52, 53, 54, 55, 56, 57, 58, 59, 60, 61, 62, 63, 64, 65, 66, 67, 68, 69, 70, 71, 72, 73, 74, 75, 76, 77, 78, 79, 80, 81, 82, 83, 84, 85, 86, 87, 88, 89, 90, 91, 92, 93, 94, 95, 96, 97, 98, 99, 100, 101, 102, 103, 104, 105, 106] rfl (by kernel_rfl) (by kernel_rfl) ?_ ?_ ?_
    · intro t ht
      simp only [List.mem_cons, List.not_mem_nil, or_false] at ht
      rcases ht with rfl | rfl
      · exact ⟨rfl, Below.refl _ _⟩
      · exact ⟨rfl, Below.refl _ _⟩
    · refine fcs ⟨ob_fieldat w3 7 41 0 32 ⟨p, 0, none⟩ ⟨p, 0, none⟩ rfl rfl (by first | exact .inl rfl | exact .inr ⟨_, _, _, rfl, rfl, by kernel_rfl, by decide, rfl⟩) (by kernel_rfl) rfl rfl (fun w => by go_simp), ?_⟩
      refine fcs ⟨ob_loadat w3 41 42 3 ⟨p, 0, none⟩ (.int .i64 X) rfl rfl (by first | exact .inl rfl | exact .inr ⟨_, _, _, rfl, rfl, by kernel_rfl, by decide, rfl⟩) (by kernel_rfl) rfl rfl (fun w' hb => load_i64 (P1.below hb).c0), ?_⟩
      refine fcs ⟨ob_gec 42 43 .i64 _ _ X 0 true x1 rfl rfl (by first | exact .inl rfl | exact .inr ⟨_, _, _, rfl, rfl, by kernel_rfl, by decide, rfl⟩) (by kernel_rfl) rfl rfl, ?_⟩
      refine fcs ⟨ob_copy 43 44 (.inl rfl) rfl (by first | exact .inl rfl | exact .inr ⟨_, _, _, rfl, rfl, by kernel_rfl, by decide, rfl⟩) (by kernel_rfl) rfl, ?_⟩
      refine fcs ⟨ob_fieldat w3 8 45 0 32 ⟨q, 0, none⟩ ⟨q, 0, none⟩ rfl rfl (by first | exact .inl rfl | exact .inr ⟨_, _, _, rfl, rfl, by kernel_rfl, by decide, rfl⟩) (by kernel_rfl) rfl rfl (fun w => by go_simp), ?_⟩
      refine fcs ⟨ob_loadat w3 45 46 3 ⟨q, 0, none⟩ (.int .i64 U) rfl rfl (by first | exact .inl rfl | exact .inr ⟨_, _, _, rfl, rfl, by kernel_rfl, by decide, rfl⟩) (by kernel_rfl) rfl rfl (fun w' hb => load_i64 (Q1.below hb).c0), ?_⟩
      refine fcs ⟨ob_ltc 46 47 .i64 _ _ U 0 false x3 rfl rfl (by first | exact .inl rfl | exact .inr ⟨_, _, _, rfl, rfl, by kernel_rfl, by decide, rfl⟩) (by kernel_rfl) rfl rfl, ?_⟩
      refine fcs ⟨ob_copy 47 48 (.inl rfl) rfl (by first | exact .inl rfl | exact .inr ⟨_, _, _, rfl, rfl, by kernel_rfl, by decide, rfl⟩) (by kernel_rfl) rfl, ?_⟩
      refine fcs ⟨ob_fieldat w3 8 49 0 32 ⟨q, 0, none⟩ ⟨q, 0, none⟩ rfl rfl (by first | exact .inl rfl | exact .inr ⟨_, _, _, rfl, rfl, by kernel_rfl, by decide, rfl⟩) (by kernel_rfl) rfl rfl (fun w => by go_simp), ?_⟩
      refine fcs ⟨ob_loadat w3 49 50 3 ⟨q, 0, none⟩ (.int .i64 U) rfl rfl (by first | exact .inl rfl | exact .inr ⟨_, _, _, rfl, rfl, by kernel_rfl, by decide, rfl⟩) (by kernel_rfl) rfl rfl (fun w' hb => load_i64 (Q1.below hb).c0), ?_⟩
      refine fcs ⟨ob_fieldat w3 7 51 0 32 ⟨p, 0, none⟩ ⟨p, 0, none⟩ rfl rfl (by first | exact .inl rfl | exact .inr ⟨_, _, _, rfl, rfl, by kernel_rfl, by decide, rfl⟩) (by kernel_rfl) rfl rfl (fun w => by go_simp), ?_⟩
      refine fcs ⟨ob_loadat w3 51 52 3 ⟨p, 0, none⟩ (.int .i64 X) rfl rfl (by first | exact .inl rfl | exact .inr ⟨_, _, _, rfl, rfl, by kernel_rfl, by decide, rfl⟩) (by kernel_rfl) rfl rfl (fun w' hb => load_i64 (P1.below hb).c0), ?_⟩
      refine fcs ⟨ob_gt2 .i64 50 52 53 U X false _ _ x4 rfl rfl (by first | exact .inl rfl | exact .inr ⟨_, _, _, rfl, rfl, by kernel_rfl, by decide, rfl⟩) (by kernel_rfl) (by kernel_rfl) rfl rfl rfl, ?_⟩
      refine fcs ⟨ob_pick_else 48 53 54 _ rfl rfl (by first | exact .inl rfl | exact .inr ⟨_, _, _, rfl, rfl, by kernel_rfl, by decide, rfl⟩) (by kernel_rfl) (by kernel_rfl) rfl rfl, ?_⟩
      refine fcs ⟨ob_pick 44 54 55 _ rfl rfl (by first | exact .inl rfl | exact .inr ⟨_, _, _, rfl, rfl, by kernel_rfl, by decide, rfl⟩) (by kernel_rfl) (by kernel_rfl) rfl rfl, ?_⟩
      refine fcs ⟨ob_copy 55 56 (.inl rfl) rfl (by first | exact .inl rfl | exact .inr ⟨_, _, _, rfl, rfl, by kernel_rfl, by decide, rfl⟩) (by kernel_rfl) rfl, ?_⟩
      refine fcs ⟨ob_fieldat w3 7 57 0 32 ⟨p, 0, none⟩ ⟨p, 0, none⟩ rfl rfl (by first | exact .inl rfl | exact .inr ⟨_, _, _, rfl, rfl, by kernel_rfl, by decide, rfl⟩) (by kernel_rfl) rfl rfl (fun w => by go_simp), ?_⟩
      refine fcs ⟨ob_loadat w3 57 58 3 ⟨p, 0, none⟩ (.int .i64 X) rfl rfl (by first | exact .inl rfl | exact .inr ⟨_, _, _, rfl, rfl, by kernel_rfl, by decide, rfl⟩) (by kernel_rfl) rfl rfl (fun w' hb => load_i64 (P1.below hb).c0), ?_⟩
      refine fcs ⟨ob_lec 58 59 .i64 _ _ X 0 true x2 rfl rfl (by first | exact .inl rfl | exact .inr ⟨_, _, _, rfl, rfl, by kernel_rfl, by decide, rfl⟩) (by kernel_rfl) rfl rfl, ?_⟩
      refine fcs ⟨ob_copy 59 60 (.inl rfl) rfl (by first | exact .inl rfl | exact .inr ⟨_, _, _, rfl, rfl, by kernel_rfl, by decide, rfl⟩) (by kernel_rfl) rfl, ?_⟩
      refine fcs ⟨ob_fieldat w3 8 61 0 32 ⟨q, 0, none⟩ ⟨q, 0, none⟩ rfl rfl (by first | exact .inl rfl | exact .inr ⟨_, _, _, rfl, rfl, by kernel_rfl, by decide, rfl⟩) (by kernel_rfl) rfl rfl (fun w => by go_simp), ?_⟩
      refine fcs ⟨ob_loadat w3 61 62 3 ⟨q, 0, none⟩ (.int .i64 U) rfl rfl (by first | exact .inl rfl | exact .inr ⟨_, _, _, rfl, rfl, by kernel_rfl, by decide, rfl⟩) (by kernel_rfl) rfl rfl (fun w' hb => load_i64 (Q1.below hb).c0), ?_⟩
      refine fcs ⟨ob_gtc 62 63 .i64 _ _ U 0 false x5 rfl rfl (by first | exact .inl rfl | exact .inr ⟨_, _, _, rfl, rfl, by kernel_rfl, by decide, rfl⟩) (by kernel_rfl) rfl rfl, ?_⟩
      refine fcs ⟨ob_copy 63 64 (.inl rfl) rfl (by first | exact .inl rfl | exact .inr ⟨_, _, _, rfl, rfl, by kernel_rfl, by decide, rfl⟩) (by kernel_rfl) rfl, ?_⟩
      refine fcs ⟨ob_fieldat w3 8 65 0 32 ⟨q, 0, none⟩ ⟨q, 0, none⟩ rfl rfl (by first | exact .inl rfl | exact .inr ⟨_, _, _, rfl, rfl, by kernel_rfl, by decide, rfl⟩) (by kernel_rfl) rfl rfl (fun w => by go_simp), ?_⟩
      refine fcs ⟨ob_loadat w3 65 66 3 ⟨q, 0, none⟩ (.int .i64 U) rfl rfl (by first | exact .inl rfl | exact .inr ⟨_, _, _, rfl, rfl, by kernel_rfl, by decide, rfl⟩) (by kernel_rfl) rfl rfl (fun w' hb => load_i64 (Q1.below hb).c0), ?_⟩
      refine fcs ⟨ob_fieldat w3 7 67 0 32 ⟨p, 0, none⟩ ⟨p, 0, none⟩ rfl rfl (by first | exact .inl rfl | exact .inr ⟨_, _, _, rfl, rfl, by kernel_rfl, by decide, rfl⟩) (by kernel_rfl) rfl rfl (fun w => by go_simp), ?_⟩
      refine fcs ⟨ob_loadat w3 67 68 3 ⟨p, 0, none⟩ (.int .i64 X) rfl rfl (by first | exact .inl rfl | exact .inr ⟨_, _, _, rfl, rfl, by kernel_rfl, by decide, rfl⟩) (by kernel_rfl) rfl rfl (fun w' hb => load_i64 (P1.below hb).c0), ?_⟩
      refine fcs ⟨ob_lt2 .i64 66 68 69 U X false _ _ x6 rfl rfl (by first | exact .inl rfl | exact .inr ⟨_, _, _, rfl, rfl, by kernel_rfl, by decide, rfl⟩) (by kernel_rfl) (by kernel_rfl) rfl rfl rfl, ?_⟩
      refine fcs ⟨ob_pick_else 64 69 70 _ rfl rfl (by first | exact .inl rfl | exact .inr ⟨_, _, _, rfl, rfl, by kernel_rfl, by decide, rfl⟩) (by kernel_rfl) (by kernel_rfl) rfl rfl, ?_⟩
      refine fcs ⟨ob_pick 60 70 71 _ rfl rfl (by first | exact .inl rfl | exact .inr ⟨_, _, _, rfl, rfl, by kernel_rfl, by decide, rfl⟩) (by kernel_rfl) (by kernel_rfl) rfl rfl, ?_⟩
      refine fcs ⟨ob_pick_else 56 71 72 _ rfl rfl (by first | exact .inl rfl | exact .inr ⟨_, _, _, rfl, rfl, by kernel_rfl, by decide, rfl⟩) (by kernel_rfl) (by kernel_rfl) rfl rfl, ?_⟩
      refine fcs ⟨ob_copy 72 73 (.inl rfl) rfl (by first | exact .inl rfl | exact .inr ⟨_, _, _, rfl, rfl, by kernel_rfl, by decide, rfl⟩) (by kernel_rfl) rfl, ?_⟩
      refine fcs ⟨ob_fieldat w3 7 74 1 32 ⟨p, 0, none⟩ ⟨p, 1, none⟩ rfl rfl (by first | exact .inl rfl | exact .inr ⟨_, _, _, rfl, rfl, by kernel_rfl, by decide, rfl⟩) (by kernel_rfl) rfl rfl (fun w => by go_simp), ?_⟩
      refine fcs ⟨ob_loadat w3 74 75 3 ⟨p, 1, none⟩ (.int .i64 Y) rfl rfl (by first | exact .inl rfl | exact .inr ⟨_, _, _, rfl, rfl, by kernel_rfl, by decide, rfl⟩) (by kernel_rfl) rfl rfl (fun w' hb => load_i64 (P1.below hb).c1), ?_⟩
      refine fcs ⟨ob_gec 75 76 .i64 _ _ Y 0 true y1 rfl rfl (by first | exact .inl rfl | exact .inr ⟨_, _, _, rfl, rfl, by kernel_rfl, by decide, rfl⟩) (by kernel_rfl) rfl rfl, ?_⟩
      refine fcs ⟨ob_copy 76 77 (.inl rfl) rfl (by first | exact .inl rfl | exact .inr ⟨_, _, _, rfl, rfl, by kernel_rfl, by decide, rfl⟩) (by kernel_rfl) rfl, ?_⟩
      refine fcs ⟨ob_fieldat w3 8 78 1 32 ⟨q, 0, none⟩ ⟨q, 1, none⟩ rfl rfl (by first | exact .inl rfl | exact .inr ⟨_, _, _, rfl, rfl, by kernel_rfl, by decide, rfl⟩) (by kernel_rfl) rfl rfl (fun w => by go_simp), ?_⟩
      refine fcs ⟨ob_loadat w3 78 79 3 ⟨q, 1, none⟩ (.int .i64 V) rfl rfl (by first | exact .inl rfl | exact .inr ⟨_, _, _, rfl, rfl, by kernel_rfl, by decide, rfl⟩) (by kernel_rfl) rfl rfl (fun w' hb => load_i64 (Q1.below hb).c1), ?_⟩
      refine fcs ⟨ob_ltc 79 80 .i64 _ _ V 0 false y3 rfl rfl (by first | exact .inl rfl | exact .inr ⟨_, _, _, rfl, rfl, by kernel_rfl, by decide, rfl⟩) (by kernel_rfl) rfl rfl, ?_⟩
      refine fcs ⟨ob_copy 80 81 (.inl rfl) rfl (by first | exact .inl rfl | exact .inr ⟨_, _, _, rfl, rfl, by kernel_rfl, by decide, rfl⟩) (by kernel_rfl) rfl, ?_⟩
      refine fcs ⟨ob_fieldat w3 8 82 1 32 ⟨q, 0, none⟩ ⟨q, 1, none⟩ rfl rfl (by first | exact .inl rfl | exact .inr ⟨_, _, _, rfl, rfl, by kernel_rfl, by decide, rfl⟩) (by kernel_rfl) rfl rfl (fun w => by go_simp), ?_⟩
      refine fcs ⟨ob_loadat w3 82 83 3 ⟨q, 1, none⟩ (.int .i64 V) rfl rfl (by first | exact .inl rfl | exact .inr ⟨_, _, _, rfl, rfl, by kernel_rfl, by decide, rfl⟩) (by kernel_rfl) rfl rfl (fun w' hb => load_i64 (Q1.below hb).c1), ?_⟩
      refine fcs ⟨ob_fieldat w3 7 84 1 32 ⟨p, 0, none⟩ ⟨p, 1, none⟩ rfl rfl (by first | exact .inl rfl | exact .inr ⟨_, _, _, rfl, rfl, by kernel_rfl, by decide, rfl⟩) (by kernel_rfl) rfl rfl (fun w => by go_simp), ?_⟩
      refine fcs ⟨ob_loadat w3 84 85 3 ⟨p, 1, none⟩ (.int .i64 Y) rfl rfl (by first | exact .inl rfl | exact .inr ⟨_, _, _, rfl, rfl, by kernel_rfl, by decide, rfl⟩) (by kernel_rfl) rfl rfl (fun w' hb => load_i64 (P1.below hb).c1), ?_⟩
      refine fcs ⟨ob_gt2 .i64 83 85 86 V Y false _ _ y4 rfl rfl (by first | exact .inl rfl | exact .inr ⟨_, _, _, rfl, rfl, by kernel_rfl, by decide, rfl⟩) (by kernel_rfl) (by kernel_rfl) rfl rfl rfl, ?_⟩
      refine fcs ⟨ob_pick_else 81 86 87 _ rfl rfl (by first | exact .inl rfl | exact .inr ⟨_, _, _, rfl, rfl, by kernel_rfl, by decide, rfl⟩) (by kernel_rfl) (by kernel_rfl) rfl rfl, ?_⟩
      refine fcs ⟨ob_pick 77 87 88 _ rfl rfl (by first | exact .inl rfl | exact .inr ⟨_, _, _, rfl, rfl, by kernel_rfl, by decide, rfl⟩) (by kernel_rfl) (by kernel_rfl) rfl rfl, ?_⟩
      refine fcs ⟨ob_pick_else 73 88 89 _ rfl rfl (by first | exact .inl rfl | exact .inr ⟨_, _, _, rfl, rfl, by kernel_rfl, by decide, rfl⟩) (by kernel_rfl) (by kernel_rfl) rfl rfl, ?_⟩
      refine fcs ⟨ob_copy 89 90 (.inl rfl) rfl (by first | exact .inl rfl | exact .inr ⟨_, _, _, rfl, rfl, by kernel_rfl, by decide, rfl⟩) (by kernel_rfl) rfl, ?_⟩
      refine fcs ⟨ob_fieldat w3 7 91 1 32 ⟨p, 0, none⟩ ⟨p, 1, none⟩ rfl rfl (by first | exact .inl rfl | exact .inr ⟨_, _, _, rfl, rfl, by kernel_rfl, by decide, rfl⟩) (by kernel_rfl) rfl rfl (fun w => by go_simp), ?_⟩
      refine fcs ⟨ob_loadat w3 91 92 3 ⟨p, 1, none⟩ (.int .i64 Y) rfl rfl (by first | exact .inl rfl | exact .inr ⟨_, _, _, rfl, rfl, by kernel_rfl, by decide, rfl⟩) (by kernel_rfl) rfl rfl (fun w' hb => load_i64 (P1.below hb).c1), ?_⟩
      refine fcs ⟨ob_lec 92 93 .i64 _ _ Y 0 false y2 rfl rfl (by first | exact .inl rfl | exact .inr ⟨_, _, _, rfl, rfl, by kernel_rfl, by decide, rfl⟩) (by kernel_rfl) rfl rfl, ?_⟩
      refine fcs ⟨ob_copy 93 94 (.inl rfl) rfl (by first | exact .inl rfl | exact .inr ⟨_, _, _, rfl, rfl, by kernel_rfl, by decide, rfl⟩) (by kernel_rfl) rfl, ?_⟩
      refine fcs ⟨ob_skip 53 94 95 true rfl rfl (by kernel_rfl) (by decide) rfl rfl rfl, ?_⟩
      refine fcs ⟨ob_skip 53 94 96 true rfl rfl (by kernel_rfl) (by decide) rfl rfl rfl, ?_⟩
      refine fcs ⟨ob_skip 53 94 97 true rfl rfl (by kernel_rfl) (by decide) rfl rfl rfl, ?_⟩
      refine fcs ⟨ob_skip 53 94 98 true rfl rfl (by kernel_rfl) (by decide) rfl rfl rfl, ?_⟩
      refine fcs ⟨ob_skip2 57 98 99 false rfl rfl (by kernel_rfl) (by decide) rfl rfl rfl, ?_⟩
      refine fcs ⟨ob_skip2 57 98 100 false rfl rfl (by kernel_rfl) (by decide) rfl rfl rfl, ?_⟩
      refine fcs ⟨ob_skip2 57 98 101 false rfl rfl (by kernel_rfl) (by decide) rfl rfl rfl, ?_⟩
      refine fcs ⟨ob_skip2 57 98 102 false rfl rfl (by kernel_rfl) (by decide) rfl rfl rfl, ?_⟩
      refine fcs ⟨ob_skip2 57 98 103 false rfl rfl (by kernel_rfl) (by decide) rfl rfl rfl, ?_⟩
      refine fcs ⟨ob_skip 53 94 104 true rfl rfl (by kernel_rfl) (by decide) rfl rfl rfl, ?_⟩
      refine fcs ⟨ob_pick_no 94 104 105 _ rfl rfl (by first | exact .inl rfl | exact .inr ⟨_, _, _, rfl, rfl, by kernel_rfl, by decide, rfl⟩) (by kernel_rfl) rfl rfl, ?_⟩
      refine fcs ⟨ob_pick_else 90 105 106 _ rfl rfl (by first | exact .inl rfl | exact .inr ⟨_, _, _, rfl, rfl, by kernel_rfl, by decide, rfl⟩) (by kernel_rfl) (by kernel_rfl) rfl rfl, ?_⟩
      exact fnl
    intro vv w4 hvv hbv
    have hv106 : vv 106 = (.bool false) := hvv 106 (by decide)
    simp only [lay, List.foldl_cons, List.foldl_nil, List.setIfInBounds_toArray, List.set_cons_succ, List.set_cons_zero, hv106]
    clear hvv
    have P1 := P1.below hbv
    have Q1 := Q1.below hbv
    have hB := up hB hbv
    clear hbv
    have k1 := P1.c0
    have k2 := P1.c1
    have k3 := Q1.c0
    have k4 := Q1.c1
    go_wp2_with fail
    refine (c3 _).mono ?_
    rintro e w5 ⟨rfl, hb3⟩
    have P1 := P1.below hb3
    have Q1 := Q1.below hb3
    have hB := up hB hb3
    clear hb3 k1 k2 k3 k4
    have k1 := P1.c0
    have k2 := P1.c1
    have k3 := Q1.c0
    have k4 := Q1.c1
    go_wp2_with fail
    refine (awake_any _).mono ?_
    rintro e w6 ⟨rfl, hb4⟩
    go_wp2_with fail
    go_ret
    exact ⟨by rfl, up hB hb4⟩
  · refine wp_region_off (FF [(7, Fact.at_ w3 (.pointer (some ⟨p, 0, none⟩))), (8, Fact.at_ w3 (.pointer (some ⟨q, 0, none⟩))), (41, Fact.at_ w3 (.pointer (some ⟨p, 0, none⟩))), (42, Fact.eq (.int .i64 X)), (43, Fact.eq (.bool true)), (44, Fact.eq (.bool true)), (45, Fact.at_ w3 (.pointer (some ⟨q, 0, none⟩))), (46, Fact.eq (.int .i64 U)), (47, Fact.eq (.bool false)), (48, Fact.eq (.bool false)), (49, Fact.at_ w3 (.pointer (some ⟨q, 0, none⟩))), (50, Fact.eq (.int .i64 U)), (51, Fact.at_ w3 (.pointer (some ⟨p, 0, none⟩))), (52, Fact.eq (.int .i64 X)), (53, Fact.eq (.bool false)), (54, Fact.eq (.bool false)), (55, Fact.eq (.bool false)), (56, Fact.eq (.bool false)), (57, Fact.at_ w3 (.pointer (some ⟨p, 0, none⟩))), (58, Fact.eq (.int .i64 X)), (59, Fact.eq (.bool true)), (60, Fact.eq (.bool true)), (61, Fact.at_ w3 (.pointer (some ⟨q, 0, none⟩))), (62, Fact.eq (.int .i64 U)), (63, Fact.eq (.bool false)), (64, Fact.eq (.bool false)), (65, Fact.at_ w3 (.pointer (some ⟨q, 0, none⟩))), (66, Fact.eq (.int .i64 U)), (67, Fact.at_ w3 (.pointer (some ⟨p, 0, none⟩))), (68, Fact.eq (.int .i64 X)), (69, Fact.eq (.bool false)), (70, Fact.eq (.bool false)), (71, Fact.eq (.bool false)), (72, Fact.eq (.bool false)), (73, Fact.eq (.bool false)), (74, Fact.at_ w3 (.pointer (some ⟨p, 1, none⟩))), (75, Fact.eq (.int .i64 Y)), (76, Fact.eq (.bool false)), (77, Fact.eq (.bool false)), (78, Fact.eq undef), (79, Fact.eq undef), (80, Fact.eq undef), (81, Fact.eq undef), (82, Fact.eq undef), (83, Fact.eq undef), (84, Fact.eq undef), (85, Fact.eq undef), (86, Fact.eq undef), (87, Fact.eq undef), (88, Fact.eq (.bool false)), (89, Fact.eq (.bool false)), (90, Fact.eq (.bool false)), (91, Fact.at_ w3 (.pointer (some ⟨p, 1, none⟩))), (92, Fact.eq (.int .i64 Y)), (93, Fact.eq (.bool true)), (94, Fact.eq (.bool true)), (95, Fact.at_ w3 (.pointer (some ⟨q, 1, none⟩))), (96, Fact.eq (.int .i64 V)), (97, Fact.eq (.bool false)), (98, Fact.eq (.bool false)), (99, Fact.at_ w3 (.pointer (some ⟨q, 1, none⟩))), (100, Fact.eq (.int .i64 V)), (101, Fact.at_ w3 (.pointer (some ⟨p, 1, none⟩))), (102, Fact.eq (.int .i64 Y)), (103, Fact.eq (.bool false)), (104, Fact.eq (.bool false)), (105, Fact.eq (.bool false)), (106, Fact.eq (.bool false))]) [7, 8] 121 [41, 42, 43, 44, 45, 46, 47, 48, 49, 50, 51, 52, 53, 54, 55, 56, 57, 58, 59, 60, 61, 62, 63, 64, 65, 66, 67, 68, 69, 70, 71, 72, 73, 74, 75, 76, 77, 78, 79, 80, 81, 82, 83, 84, 85, 86, 87, 88, 89, 90, 91, 92, 93, 94, 95, 96, 97, 98, 99, 100, 101, 102, 103, 104, 105, 106] rfl (by kernel_rfl) (by kernel_rfl) ?_ ?_ ?_
    · intro t ht
      simp only [List.mem_cons, List.not_mem_nil, or_false] at ht
      rcases ht with rfl | rfl
      · exact ⟨rfl, Below.refl _ _⟩
      · exact ⟨rfl, Below.refl _ _⟩
    · refine fcs ⟨ob_fieldat w3 7 41 0 32 ⟨p, 0, none⟩ ⟨p, 0, none⟩ rfl rfl (by first | exact .inl rfl | exact .inr ⟨_, _, _, rfl, rfl, by kernel_rfl, by decide, rfl⟩) (by kernel_rfl) rfl rfl (fun w => by go_simp), ?_⟩
      refine fcs ⟨ob_loadat w3 41 42 3 ⟨p, 0, none⟩ (.int .i64 X) rfl rfl (by first | exact .inl rfl | exact .inr ⟨_, _, _, rfl, rfl, by kernel_rfl, by decide, rfl⟩) (by kernel_rfl) rfl rfl (fun w' hb => load_i64 (P1.below hb).c0), ?_⟩
      refine fcs ⟨ob_gec 42 43 .i64 _ _ X 0 true x1 rfl rfl (by first | exact .inl rfl | exact .inr ⟨_, _, _, rfl, rfl, by kernel_rfl, by decide, rfl⟩) (by kernel_rfl) rfl rfl, ?_⟩
      refine fcs ⟨ob_copy 43 44 (.inl rfl) rfl (by first | exact .inl rfl | exact .inr ⟨_, _, _, rfl, rfl, by kernel_rfl, by decide, rfl⟩) (by kernel_rfl) rfl, ?_⟩
      refine fcs ⟨ob_fieldat w3 8 45 0 32 ⟨q, 0, none⟩ ⟨q, 0, none⟩ rfl rfl (by first | exact .inl rfl | exact .inr ⟨_, _, _, rfl, rfl, by kernel_rfl, by decide, rfl⟩) (by kernel_rfl) rfl rfl (fun w => by go_simp), ?_⟩
      refine fcs ⟨ob_loadat w3 45 46 3 ⟨q, 0, none⟩ (.int .i64 U) rfl rfl (by first | exact .inl rfl | exact .inr ⟨_, _, _, rfl, rfl, by kernel_rfl, by decide, rfl⟩) (by kernel_rfl) rfl rfl (fun w' hb => load_i64 (Q1.below hb).c0), ?_⟩
      refine fcs ⟨ob_ltc 46 47 .i64 _ _ U 0 false x3 rfl rfl (by first | exact .inl rfl | exact .inr ⟨_, _, _, rfl, rfl, by kernel_rfl, by decide, rfl⟩) (by kernel_rfl) rfl rfl, ?_⟩
      refine fcs ⟨ob_copy 47 48 (.inl rfl) rfl (by first | exact .inl rfl | exact .inr ⟨_, _, _, rfl, rfl, by kernel_rfl, by decide, rfl⟩) (by kernel_rfl) rfl, ?_⟩
      refine fcs ⟨ob_fieldat w3 8 49 0 32 ⟨q, 0, none⟩ ⟨q, 0, none⟩ rfl rfl (by first | exact .inl rfl | exact .inr ⟨_, _, _, rfl, rfl, by kernel_rfl, by decide, rfl⟩) (by kernel_rfl) rfl rfl (fun w => by go_simp), ?_⟩
      refine fcs ⟨ob_loadat w3 49 50 3 ⟨q, 0, none⟩ (.int .i64 U) rfl rfl (by first | exact .inl rfl | exact .inr ⟨_, _, _, rfl, rfl, by kernel_rfl, by decide, rfl⟩) (by kernel_rfl) rfl rfl (fun w' hb => load_i64 (Q1.below hb).c0), ?_⟩
      refine fcs ⟨ob_fieldat w3 7 51 0 32 ⟨p, 0, none⟩ ⟨p, 0, none⟩ rfl rfl (by first | exact .inl rfl | exact .inr ⟨_, _, _, rfl, rfl, by kernel_rfl, by decide, rfl⟩) (by kernel_rfl) rfl rfl (fun w => by go_simp), ?_⟩
      refine fcs ⟨ob_loadat w3 51 52 3 ⟨p, 0, none⟩ (.int .i64 X) rfl rfl (by first | exact .inl rfl | exact .inr ⟨_, _, _, rfl, rfl, by kernel_rfl, by decide, rfl⟩) (by kernel_rfl) rfl rfl (fun w' hb => load_i64 (P1.below hb).c0), ?_⟩
      refine fcs ⟨ob_gt2 .i64 50 52 53 U X false _ _ x4 rfl rfl (by first | exact .inl rfl | exact .inr ⟨_, _, _, rfl, rfl, by kernel_rfl, by decide, rfl⟩) (by kernel_rfl) (by kernel_rfl) rfl rfl rfl, ?_⟩
      refine fcs ⟨ob_pick_else 48 53 54 _ rfl rfl (by first | exact .inl rfl | exact .inr ⟨_, _, _, rfl, rfl, by kernel_rfl, by decide, rfl⟩) (by kernel_rfl) (by kernel_rfl) rfl rfl, ?_⟩
      refine fcs ⟨ob_pick 44 54 55 _ rfl rfl (by first | exact .inl rfl | exact .inr ⟨_, _, _, rfl, rfl, by kernel_rfl, by decide, rfl⟩) (by kernel_rfl) (by kernel_rfl) rfl rfl, ?_⟩
      refine fcs ⟨ob_copy 55 56 (.inl rfl) rfl (by first | exact .inl rfl | exact .inr ⟨_, _, _, rfl, rfl, by kernel_rfl, by decide, rfl⟩) (by kernel_rfl) rfl, ?_⟩
      refine fcs ⟨ob_fieldat w3 7 57 0 32 ⟨p, 0, none⟩ ⟨p, 0, none⟩ rfl rfl (by first | exact .inl rfl | exact .inr ⟨_, _, _, rfl, rfl, by kernel_rfl, by decide, rfl⟩) (by kernel_rfl) rfl rfl (fun w => by go_simp), ?_⟩
      refine fcs ⟨ob_loadat w3 57 58 3 ⟨p, 0, none⟩ (.int .i64 X) rfl rfl (by first | exact .inl rfl | exact .inr ⟨_, _, _, rfl, rfl, by kernel_rfl, by decide, rfl⟩) (by kernel_rfl) rfl rfl (fun w' hb => load_i64 (P1.below hb).c0), ?_⟩
      refine fcs ⟨ob_lec 58 59 .i64 _ _ X 0 true x2 rfl rfl (by first | exact .inl rfl | exact .inr ⟨_, _, _, rfl, rfl, by kernel_rfl, by decide, rfl⟩) (by kernel_rfl) rfl rfl, ?_⟩
      refine fcs ⟨ob_copy 59 60 (.inl rfl) rfl (by first | exact .inl rfl | exact .inr ⟨_, _, _, rfl, rfl, by kernel_rfl, by decide, rfl⟩) (by kernel_rfl) rfl, ?_⟩
      refine fcs ⟨ob_fieldat w3 8 61 0 32 ⟨q, 0, none⟩ ⟨q, 0, none⟩ rfl rfl (by first | exact .inl rfl | exact .inr ⟨_, _, _, rfl, rfl, by kernel_rfl, by decide, rfl⟩) (by kernel_rfl) rfl rfl (fun w => by go_simp), ?_⟩
      refine fcs ⟨ob_loadat w3 61 62 3 ⟨q, 0, none⟩ (.int .i64 U) rfl rfl (by first | exact .inl rfl | exact .inr ⟨_, _, _, rfl, rfl, by kernel_rfl, by decide, rfl⟩) (by kernel_rfl) rfl rfl (fun w' hb => load_i64 (Q1.below hb).c0), ?_⟩
      refine fcs ⟨ob_gtc 62 63 .i64 _ _ U 0 false x5 rfl rfl (by first | exact .inl rfl | exact .inr ⟨_, _, _, rfl, rfl, by kernel_rfl, by decide, rfl⟩) (by kernel_rfl) rfl rfl, ?_⟩
      refine fcs ⟨ob_copy 63 64 (.inl rfl) rfl (by first | exact .inl rfl | exact .inr ⟨_, _, _, rfl, rfl, by kernel_rfl, by decide, rfl⟩) (by kernel_rfl) rfl, ?_⟩
      refine fcs ⟨ob_fieldat w3 8 65 0 32 ⟨q, 0, none⟩ ⟨q, 0, none⟩ rfl rfl (by first | exact .inl rfl | exact .inr ⟨_, _, _, rfl, rfl, by kernel_rfl, by decide, rfl⟩) (by kernel_rfl) rfl rfl (fun w => by go_simp), ?_⟩
      refine fcs ⟨ob_loadat w3 65 66 3 ⟨q, 0, none⟩ (.int .i64 U) rfl rfl (by first | exact .inl rfl | exact .inr ⟨_, _, _, rfl, rfl, by kernel_rfl, by decide, rfl⟩) (by kernel_rfl) rfl rfl (fun w' hb => load_i64 (Q1.below hb).c0), ?_⟩
      refine fcs ⟨ob_fieldat w3 7 67 0 32 ⟨p, 0, none⟩ ⟨p, 0, none⟩ rfl rfl (by first | exact .inl rfl | exact .inr ⟨_, _, _, rfl, rfl, by kernel_rfl, by decide, rfl⟩) (by kernel_rfl) rfl rfl (fun w => by go_simp), ?_⟩
      refine fcs ⟨ob_loadat w3 67 68 3 ⟨p, 0, none⟩ (.int .i64 X) rfl rfl (by first | exact .inl rfl | exact .inr ⟨_, _, _, rfl, rfl, by kernel_rfl, by decide, rfl⟩) (by kernel_rfl) rfl rfl (fun w' hb => load_i64 (P1.below hb).c0), ?_⟩
      refine fcs ⟨ob_lt2 .i64 66 68 69 U X false _ _ x6 rfl rfl (by first | exact .inl rfl | exact .inr ⟨_, _, _, rfl, rfl, by kernel_rfl, by decide, rfl⟩) (by kernel_rfl) (by kernel_rfl) rfl rfl rfl, ?_⟩
      refine fcs ⟨ob_pick_else 64 69 70 _ rfl rfl (by first | exact .inl rfl | exact .inr ⟨_, _, _, rfl, rfl, by kernel_rfl, by decide, rfl⟩) (by kernel_rfl) (by kernel_rfl) rfl rfl, ?_⟩
      refine fcs ⟨ob_pick 60 70 71 _ rfl rfl (by first | exact .inl rfl | exact .inr ⟨_, _, _, rfl, rfl, by kernel_rfl, by decide, rfl⟩) (by kernel_rfl) (by kernel_rfl) rfl rfl, ?_⟩
      refine fcs ⟨ob_pick_else 56 71 72 _ rfl rfl (by first | exact .inl rfl | exact .inr ⟨_, _, _, rfl, rfl, by kernel_rfl, by decide, rfl⟩) (by kernel_rfl) (by kernel_rfl) rfl rfl, ?_⟩
      refine fcs ⟨ob_copy 72 73 (.inl rfl) rfl (by first | exact .inl rfl | exact .inr ⟨_, _, _, rfl, rfl, by kernel_rfl, by decide, rfl⟩) (by kernel_rfl) rfl, ?_⟩
      refine fcs ⟨ob_fieldat w3 7 74 1 32 ⟨p, 0, none⟩ ⟨p, 1, none⟩ rfl rfl (by first | exact .inl rfl | exact .inr ⟨_, _, _, rfl, rfl, by kernel_rfl, by decide, rfl⟩) (by kernel_rfl) rfl rfl (fun w => by go_simp), ?_⟩
      refine fcs ⟨ob_loadat w3 74 75 3 ⟨p, 1, none⟩ (.int .i64 Y) rfl rfl (by first | exact .inl rfl | exact .inr ⟨_, _, _, rfl, rfl, by kernel_rfl, by decide, rfl⟩) (by kernel_rfl) rfl rfl (fun w' hb => load_i64 (P1.below hb).c1), ?_⟩
      refine fcs ⟨ob_gec 75 76 .i64 _ _ Y 0 false y1 rfl rfl (by first | exact .inl rfl | exact .inr ⟨_, _, _, rfl, rfl, by kernel_rfl, by decide, rfl⟩) (by kernel_rfl) rfl rfl, ?_⟩
      refine fcs ⟨ob_copy 76 77 (.inl rfl) rfl (by first | exact .inl rfl | exact .inr ⟨_, _, _, rfl, rfl, by kernel_rfl, by decide, rfl⟩) (by kernel_rfl) rfl, ?_⟩
      refine fcs ⟨ob_skip 36 77 78 true rfl rfl (by kernel_rfl) (by decide) rfl rfl rfl, ?_⟩
      refine fcs ⟨ob_skip 36 77 79 true rfl rfl (by kernel_rfl) (by decide) rfl rfl rfl, ?_⟩
      refine fcs ⟨ob_skip 36 77 80 true rfl rfl (by kernel_rfl) (by decide) rfl rfl rfl, ?_⟩
      refine fcs ⟨ob_skip 36 77 81 true rfl rfl (by kernel_rfl) (by decide) rfl rfl rfl, ?_⟩
      refine fcs ⟨ob_skip2 40 81 82 false rfl rfl (by kernel_rfl) (by decide) rfl rfl rfl, ?_⟩
      refine fcs ⟨ob_skip2 40 81 83 false rfl rfl (by kernel_rfl) (by decide) rfl rfl rfl, ?_⟩
      refine fcs ⟨ob_skip2 40 81 84 false rfl rfl (by kernel_rfl) (by decide) rfl rfl rfl, ?_⟩
      refine fcs ⟨ob_skip2 40 81 85 false rfl rfl (by kernel_rfl) (by decide) rfl rfl rfl, ?_⟩
      refine fcs ⟨ob_skip2 40 81 86 false rfl rfl (by kernel_rfl) (by decide) rfl rfl rfl, ?_⟩
      refine fcs ⟨ob_skip 36 77 87 true rfl rfl (by kernel_rfl) (by decide) rfl rfl rfl, ?_⟩
      refine fcs ⟨ob_pick_no 77 87 88 _ rfl rfl (by first | exact .inl rfl | exact .inr ⟨_, _, _, rfl, rfl, by kernel_rfl, by decide, rfl⟩) (by kernel_rfl) rfl rfl, ?_⟩
      refine fcs ⟨ob_pick_else 73 88 89 _ rfl rfl (by first | exact .inl rfl | exact .inr ⟨_, _, _, rfl, rfl, by kernel_rfl, by decide, rfl⟩) (by kernel_rfl) (by kernel_rfl) rfl rfl, ?_⟩
      refine fcs ⟨ob_copy 89 90 (.inl rfl) rfl (by first | exact .inl rfl | exact .inr ⟨_, _, _, rfl, rfl, by kernel_rfl, by decide, rfl⟩) (by kernel_rfl) rfl, ?_⟩
      refine fcs ⟨ob_fieldat w3 7 91 1 32 ⟨p, 0, none⟩ ⟨p, 1, none⟩ rfl rfl (by first | exact .inl rfl | exact .inr ⟨_, _, _, rfl, rfl, by kernel_rfl, by decide, rfl⟩) (by kernel_rfl) rfl rfl (fun w => by go_simp), ?_⟩
      refine fcs ⟨ob_loadat w3 91 92 3 ⟨p, 1, none⟩ (.int .i64 Y) rfl rfl (by first | exact .inl rfl | exact .inr ⟨_, _, _, rfl, rfl, by kernel_rfl, by decide, rfl⟩) (by kernel_rfl) rfl rfl (fun w' hb => load_i64 (P1.below hb).c1), ?_⟩
      refine fcs ⟨ob_lec 92 93 .i64 _ _ Y 0 true y2 rfl rfl (by first | exact .inl rfl | exact .inr ⟨_, _, _, rfl, rfl, by kernel_rfl, by decide, rfl⟩) (by kernel_rfl) rfl rfl, ?_⟩
      refine fcs ⟨ob_copy 93 94 (.inl rfl) rfl (by first | exact .inl rfl | exact .inr ⟨_, _, _, rfl, rfl, by kernel_rfl, by decide, rfl⟩) (by kernel_rfl) rfl, ?_⟩
      refine fcs ⟨ob_fieldat w3 8 95 1 32 ⟨q, 0, none⟩ ⟨q, 1, none⟩ rfl rfl (by first | exact .inl rfl | exact .inr ⟨_, _, _, rfl, rfl, by kernel_rfl, by decide, rfl⟩) (by kernel_rfl) rfl rfl (fun w => by go_simp), ?_⟩
      refine fcs ⟨ob_loadat w3 95 96 3 ⟨q, 1, none⟩ (.int .i64 V) rfl rfl (by first | exact .inl rfl | exact .inr ⟨_, _, _, rfl, rfl, by kernel_rfl, by decide, rfl⟩) (by kernel_rfl) rfl rfl (fun w' hb => load_i64 (Q1.below hb).c1), ?_⟩
      refine fcs ⟨ob_gtc 96 97 .i64 _ _ V 0 false y3 rfl rfl (by first | exact .inl rfl | exact .inr ⟨_, _, _, rfl, rfl, by kernel_rfl, by decide, rfl⟩) (by kernel_rfl) rfl rfl, ?_⟩
      refine fcs ⟨ob_copy 97 98 (.inl rfl) rfl (by first | exact .inl rfl | exact .inr ⟨_, _, _, rfl, rfl, by kernel_rfl, by decide, rfl⟩) (by kernel_rfl) rfl, ?_⟩
      refine fcs ⟨ob_fieldat w3 8 99 1 32 ⟨q, 0, none⟩ ⟨q, 1, none⟩ rfl rfl (by first | exact .inl rfl | exact .inr ⟨_, _, _, rfl, rfl, by kernel_rfl, by decide, rfl⟩) (by kernel_rfl) rfl rfl (fun w => by go_simp), ?_⟩
      refine fcs ⟨ob_loadat w3 99 100 3 ⟨q, 1, none⟩ (.int .i64 V) rfl rfl (by first | exact .inl rfl | exact .inr ⟨_, _, _, rfl, rfl, by kernel_rfl, by decide, rfl⟩) (by kernel_rfl) rfl rfl (fun w' hb => load_i64 (Q1.below hb).c1), ?_⟩
      refine fcs ⟨ob_fieldat w3 7 101 1 32 ⟨p, 0, none⟩ ⟨p, 1, none⟩ rfl rfl (by first | exact .inl rfl | exact .inr ⟨_, _, _, rfl, rfl, by kernel_rfl, by decide, rfl⟩) (by kernel_rfl) rfl rfl (fun w => by go_simp), ?_⟩
      refine fcs ⟨ob_loadat w3 101 102 3 ⟨p, 1, none⟩ (.int .i64 Y) rfl rfl (by first | exact .inl rfl | exact .inr ⟨_, _, _, rfl, rfl, by kernel_rfl, by decide, rfl⟩) (by kernel_rfl) rfl rfl (fun w' hb => load_i64 (P1.below hb).c1), ?_⟩
      refine fcs ⟨ob_lt2 .i64 100 102 103 V Y false _ _ y4 rfl rfl (by first | exact .inl rfl | exact .inr ⟨_, _, _, rfl, rfl, by kernel_rfl, by decide, rfl⟩) (by kernel_rfl) (by kernel_rfl) rfl rfl rfl, ?_⟩
      refine fcs ⟨ob_pick_else 98 103 104 _ rfl rfl (by first | exact .inl rfl | exact .inr ⟨_, _, _, rfl, rfl, by kernel_rfl, by decide, rfl⟩) (by kernel_rfl) (by kernel_rfl) rfl rfl, ?_⟩
      refine fcs ⟨ob_pick 94 104 105 _ rfl rfl (by first | exact .inl rfl | exact .inr ⟨_, _, _, rfl, rfl, by kernel_rfl, by decide, rfl⟩) (by kernel_rfl) (by kernel_rfl) rfl rfl, ?_⟩
      refine fcs ⟨ob_pick_else 90 105 106 _ rfl rfl (by first | exact .inl rfl | exact .inr ⟨_, _, _, rfl, rfl, by kernel_rfl, by decide, rfl⟩) (by kernel_rfl) (by kernel_rfl) rfl rfl, ?_⟩
      exact fnl
    intro vv w4 hvv hbv
    have hv106 : vv 106 = (.bool false) := hvv 106 (by decide)
    simp only [lay, List.foldl_cons, List.foldl_nil, List.setIfInBounds_toArray, List.set_cons_succ, List.set_cons_zero, hv106]
    clear hvv
    have P1 := P1.below hbv
    have Q1 := Q1.below hbv
    have hB := up hB hbv
    clear hbv
    have k1 := P1.c0
    have k2 := P1.c1
    have k3 := Q1.c0
    have k4 := Q1.c1
    go_wp2_with fail
    refine (c3 _).mono ?_
    rintro e w5 ⟨rfl, hb3⟩
    have P1 := P1.below hb3
    have Q1 := Q1.below hb3
    have hB := up hB hb3
    clear hb3 k1 k2 k3 k4
    have k1 := P1.c0
    have k2 := P1.c1
    have k3 := Q1.c0
    have k4 := Q1.c1
    go_wp2_with fail
    refine (awake_any _).mono ?_
    rintro e w6 ⟨rfl, hb4⟩
    go_wp2_with fail
    go_ret
    exact ⟨by rfl, up hB hb4⟩
  · refine wp_region_off (FF [(7, Fact.at_ w3 (.pointer (some ⟨p, 0, none⟩))), (8, Fact.at_ w3 (.pointer (some ⟨q, 0, none⟩))), (41, Fact.at_ w3 (.pointer (some ⟨p, 0, none⟩))), (42, Fact.eq (.int .i64 X)), (43, Fact.eq (.bool true)), (44, Fact.eq (.bool true)), (45, Fact.at_ w3 (.pointer (some ⟨q, 0, none⟩))), (46, Fact.eq (.int .i64 U)), (47, Fact.eq (.bool false)), (48, Fact.eq (.bool false)), (49, Fact.at_ w3 (.pointer (some ⟨q, 0, none⟩))), (50, Fact.eq (.int .i64 U)), (51, Fact.at_ w3 (.pointer (some ⟨p, 0, none⟩))), (52, Fact.eq (.int .i64 X)), (53, Fact.eq (.bool false)), (54, Fact.eq (.bool false)), (55, Fact.eq (.bool false)), (56, Fact.eq (.bool false)), (57, Fact.at_ w3 (.pointer (some ⟨p, 0, none⟩))), (58, Fact.eq (.int .i64 X)), (59, Fact.eq (.bool false)), (60, Fact.eq (.bool false)), (61, Fact.eq undef), (62, Fact.eq undef), (63, Fact.eq undef), (64, Fact.eq undef), (65, Fact.eq undef), (66, Fact.eq undef), (67, Fact.eq undef), (68, Fact.eq undef), (69, Fact.eq undef), (70, Fact.eq undef), (71, Fact.eq (.bool false)), (72, Fact.eq (.bool false)), (73, Fact.eq (.bool false)), (74, Fact.at_ w3 (.pointer (some ⟨p, 1, none⟩))), (75, Fact.eq (.int .i64 Y)), (76, Fact.eq (.bool true)), (77, Fact.eq (.bool true)), (78, Fact.at_ w3 (.pointer (some ⟨q, 1, none⟩))), (79, Fact.eq (.int .i64 V)), (80, Fact.eq (.bool false)), (81, Fact.eq (.bool false)), (82, Fact.at_ w3 (.pointer (some ⟨q, 1, none⟩))), (83, Fact.eq (.int .i64 V)), (84, Fact.at_ w3 (.pointer (some ⟨p, 1, none⟩))), (85, Fact.eq (.int .i64 Y)), (86, Fact.eq (.bool false)), (87, Fact.eq (.bool false)), (88, Fact.eq (.bool false)), (89, Fact.eq (.bool false)), (90, Fact.eq (.bool false)), (91, Fact.at_ w3 (.pointer (some ⟨p, 1, none⟩))), (92, Fact.eq (.int .i64 Y)), (93, Fact.eq (.bool true)), (94, Fact.eq (.bool true)), (95, Fact.at_ w3 (.pointer (some ⟨q, 1, none⟩))), (96, Fact.eq (.int .i64 V)), (97, Fact.eq (.bool false)), (98, Fact.eq (.bool false)), (99, Fact.at_ w3 (.pointer (some ⟨q, 1, none⟩))), (100, Fact.eq (.int .i64 V)), (101, Fact.at_ w3 (.pointer (some ⟨p, 1, none⟩))), (102, Fact.eq (.int .i64 Y)), (103, Fact.eq (.bool false)), (104, Fact.eq (.bool false)), (105, Fact.eq (.bool false)), (106, Fact.eq (.bool false))]) [7, 8] 121 [41, 42, 43, 44, 45, 46, 47, 48, 49, 50, 51, 52, 53, 54, 55, 56, 57, 58, 59, 60, 61, 62, 63, 64, 65, 66, 67, 68, 69, 70, 71, 72, 73, 74, 75, 76, 77, 78, 79, 80, 81, 82, 83, 84, 85, 86, 87, 88, 89, 90, 91, 92, 93, 94, 95, 96, 97, 98, 99, 100, 101, 102, 103, 104, 105, 106] rfl (by kernel_rfl) (by kernel_rfl) ?_ ?_ ?_
    · intro t ht
      simp only [List.mem_cons, List.not_mem_nil, or_false] at ht
      rcases ht with rfl | rfl
      · exact ⟨rfl, Below.refl _ _⟩
      · exact ⟨rfl, Below.refl _ _⟩
    · refine fcs ⟨ob_fieldat w3 7 41 0 32 ⟨p, 0, none⟩ ⟨p, 0, none⟩ rfl rfl (by first | exact .inl rfl | exact .inr ⟨_, _, _, rfl, rfl, by kernel_rfl, by decide, rfl⟩) (by kernel_rfl) rfl rfl (fun w => by go_simp), ?_⟩
      refine fcs ⟨ob_loadat w3 41 42 3 ⟨p, 0, none⟩ (.int .i64 X) rfl rfl (by first | exact .inl rfl | exact .inr ⟨_, _, _, rfl, rfl, by kernel_rfl, by decide, rfl⟩) (by kernel_rfl) rfl rfl (fun w' hb => load_i64 (P1.below hb).c0), ?_⟩
      refine fcs ⟨ob_gec 42 43 .i64 _ _ X 0 true x1 rfl rfl (by first | exact .inl rfl | exact .inr ⟨_, _, _, rfl, rfl, by kernel_rfl, by decide, rfl⟩) (by kernel_rfl) rfl rfl, ?_⟩
      refine fcs ⟨ob_copy 43 44 (.inl rfl) rfl (by first | exact .inl rfl | exact .inr ⟨_, _, _, rfl, rfl, by kernel_rfl, by decide, rfl⟩) (by kernel_rfl) rfl, ?_⟩
      refine fcs ⟨ob_fieldat w3 8 45 0 32 ⟨q, 0, none⟩ ⟨q, 0, none⟩ rfl rfl (by first | exact .inl rfl | exact .inr ⟨_, _, _, rfl, rfl, by kernel_rfl, by decide, rfl⟩) (by kernel_rfl) rfl rfl (fun w => by go_simp), ?_⟩
      refine fcs ⟨ob_loadat w3 45 46 3 ⟨q, 0, none⟩ (.int .i64 U) rfl rfl (by first | exact .inl rfl | exact .inr ⟨_, _, _, rfl, rfl, by kernel_rfl, by decide, rfl⟩) (by kernel_rfl) rfl rfl (fun w' hb => load_i64 (Q1.below hb).c0), ?_⟩
      refine fcs ⟨ob_ltc 46 47 .i64 _ _ U 0 false x3 rfl rfl (by first | exact .inl rfl | exact .inr ⟨_, _, _, rfl, rfl, by kernel_rfl, by decide, rfl⟩) (by kernel_rfl) rfl rfl, ?_⟩
      refine fcs ⟨ob_copy 47 48 (.inl rfl) rfl (by first | exact .inl rfl | exact .inr ⟨_, _, _, rfl, rfl, by kernel_rfl, by decide, rfl⟩) (by kernel_rfl) rfl, ?_⟩
      refine fcs ⟨ob_fieldat w3 8 49 0 32 ⟨q, 0, none⟩ ⟨q, 0, none⟩ rfl rfl (by first | exact .inl rfl | exact .inr ⟨_, _, _, rfl, rfl, by kernel_rfl, by decide, rfl⟩) (by kernel_rfl) rfl rfl (fun w => by go_simp), ?_⟩
      refine fcs ⟨ob_loadat w3 49 50 3 ⟨q, 0, none⟩ (.int .i64 U) rfl rfl (by first | exact .inl rfl | exact .inr ⟨_, _, _, rfl, rfl, by kernel_rfl, by decide, rfl⟩) (by kernel_rfl) rfl rfl (fun w' hb => load_i64 (Q1.below hb).c0), ?_⟩
      refine fcs ⟨ob_fieldat w3 7 51 0 32 ⟨p, 0, none⟩ ⟨p, 0, none⟩ rfl rfl (by first | exact .inl rfl | exact .inr ⟨_, _, _, rfl, rfl, by kernel_rfl, by decide, rfl⟩) (by kernel_rfl) rfl rfl (fun w => by go_simp), ?_⟩
      refine fcs ⟨ob_loadat w3 51 52 3 ⟨p, 0, none⟩ (.int .i64 X) rfl rfl (by first | exact .inl rfl | exact .inr ⟨_, _, _, rfl, rfl, by kernel_rfl, by decide, rfl⟩) (by kernel_rfl) rfl rfl (fun w' hb => load_i64 (P1.below hb).c0), ?_⟩
      refine fcs ⟨ob_gt2 .i64 50 52 53 U X false _ _ x4 rfl rfl (by first | exact .inl rfl | exact .inr ⟨_, _, _, rfl, rfl, by kernel_rfl, by decide, rfl⟩) (by kernel_rfl) (by kernel_rfl) rfl rfl rfl, ?_⟩
      refine fcs ⟨ob_pick_else 48 53 54 _ rfl rfl (by first | exact .inl rfl | exact .inr ⟨_, _, _, rfl, rfl, by kernel_rfl, by decide, rfl⟩) (by kernel_rfl) (by kernel_rfl) rfl rfl, ?_⟩
      refine fcs ⟨ob_pick 44 54 55 _ rfl rfl (by first | exact .inl rfl | exact .inr ⟨_, _, _, rfl, rfl, by kernel_rfl, by decide, rfl⟩) (by kernel_rfl) (by kernel_rfl) rfl rfl, ?_⟩
      refine fcs ⟨ob_copy 55 56 (.inl rfl) rfl (by first | exact .inl rfl | exact .inr ⟨_, _, _, rfl, rfl, by kernel_rfl, by decide, rfl⟩) (by kernel_rfl) rfl, ?_⟩
      refine fcs ⟨ob_fieldat w3 7 57 0 32 ⟨p, 0, none⟩ ⟨p, 0, none⟩ rfl rfl (by first | exact .inl rfl | exact .inr ⟨_, _, _, rfl, rfl, by kernel_rfl, by decide, rfl⟩) (by kernel_rfl) rfl rfl (fun w => by go_simp), ?_⟩
      refine fcs ⟨ob_loadat w3 57 58 3 ⟨p, 0, none⟩ (.int .i64 X) rfl rfl (by first | exact .inl rfl | exact .inr ⟨_, _, _, rfl, rfl, by kernel_rfl, by decide, rfl⟩) (by kernel_rfl) rfl rfl (fun w' hb => load_i64 (P1.below hb).c0), ?_⟩
      refine fcs ⟨ob_lec 58 59 .i64 _ _ X 0 false x2 rfl rfl (by first | exact .inl rfl | exact .inr ⟨_, _, _, rfl, rfl, by kernel_rfl, by decide, rfl⟩) (by kernel_rfl) rfl rfl, ?_⟩
      refine fcs ⟨ob_copy 59 60 (.inl rfl) rfl (by first | exact .inl rfl | exact .inr ⟨_, _, _, rfl, rfl, by kernel_rfl, by decide, rfl⟩) (by kernel_rfl) rfl, ?_⟩
      refine fcs ⟨ob_skip 19 60 61 true rfl rfl (by kernel_rfl) (by decide) rfl rfl rfl, ?_⟩
      refine fcs ⟨ob_skip 19 60 62 true rfl rfl (by kernel_rfl) (by decide) rfl rfl rfl, ?_⟩
      refine fcs ⟨ob_skip 19 60 63 true rfl rfl (by kernel_rfl) (by decide) rfl rfl rfl, ?_⟩
      refine fcs ⟨ob_skip 19 60 64 true rfl rfl (by kernel_rfl) (by decide) rfl rfl rfl, ?_⟩
      refine fcs ⟨ob_skip2 23 64 65 false rfl rfl (by kernel_rfl) (by decide) rfl rfl rfl, ?_⟩
      refine fcs ⟨ob_skip2 23 64 66 false rfl rfl (by kernel_rfl) (by decide) rfl rfl rfl, ?_⟩
      refine fcs ⟨ob_skip2 23 64 67 false rfl rfl (by kernel_rfl) (by decide) rfl rfl rfl, ?_⟩
      refine fcs ⟨ob_skip2 23 64 68 false rfl rfl (by kernel_rfl) (by decide) rfl rfl rfl, ?_⟩
      refine fcs ⟨ob_skip2 23 64 69 false rfl rfl (by kernel_rfl) (by decide) rfl rfl rfl, ?_⟩
      refine fcs ⟨ob_skip 19 60 70 true rfl rfl (by kernel_rfl) (by decide) rfl rfl rfl, ?_⟩
      refine fcs ⟨ob_pick_no 60 70 71 _ rfl rfl (by first | exact .inl rfl | exact .inr ⟨_, _, _, rfl, rfl, by kernel_rfl, by decide, rfl⟩) (by kernel_rfl) rfl rfl, ?_⟩
      refine fcs ⟨ob_pick_else 56 71 72 _ rfl rfl (by first | exact .inl rfl | exact .inr ⟨_, _, _, rfl, rfl, by kernel_rfl, by decide, rfl⟩) (by kernel_rfl) (by kernel_rfl) rfl rfl, ?_⟩
      refine fcs ⟨ob_copy 72 73 (.inl rfl) rfl (by first | exact .inl rfl | exact .inr ⟨_, _, _, rfl, rfl, by kernel_rfl, by decide, rfl⟩) (by kernel_rfl) rfl, ?_⟩
      refine fcs ⟨ob_fieldat w3 7 74 1 32 ⟨p, 0, none⟩ ⟨p, 1, none⟩ rfl rfl (by first | exact .inl rfl | exact .inr ⟨_, _, _, rfl, rfl, by kernel_rfl, by decide, rfl⟩) (by kernel_rfl) rfl rfl (fun w => by go_simp), ?_⟩
      refine fcs ⟨ob_loadat w3 74 75 3 ⟨p, 1, none⟩ (.int .i64 Y) rfl rfl (by first | exact .inl rfl | exact .inr ⟨_, _, _, rfl, rfl, by kernel_rfl, by decide, rfl⟩) (by kernel_rfl) rfl rfl (fun w' hb => load_i64 (P1.below hb).c1), ?_⟩
      refine fcs ⟨ob_gec 75 76 .i64 _ _ Y 0 true y1 rfl rfl (by first | exact .inl rfl | exact .inr ⟨_, _, _, rfl, rfl, by kernel_rfl, by decide, rfl⟩) (by kernel_rfl) rfl rfl, ?_⟩
      refine fcs ⟨ob_copy 76 77 (.inl rfl) rfl (by first | exact .inl rfl | exact .inr ⟨_, _, _, rfl, rfl, by kernel_rfl, by decide, rfl⟩) (by kernel_rfl) rfl, ?_⟩
      refine fcs ⟨ob_fieldat w3 8 78 1 32 ⟨q, 0, none⟩ ⟨q, 1, none⟩ rfl rfl (by first | exact .inl rfl | exact .inr ⟨_, _, _, rfl, rfl, by kernel_rfl, by decide, rfl⟩) (by kernel_rfl) rfl rfl (fun w => by go_simp), ?_⟩
      refine fcs ⟨ob_loadat w3 78 79 3 ⟨q, 1, none⟩ (.int .i64 V) rfl rfl (by first | exact .inl rfl | exact .inr ⟨_, _, _, rfl, rfl, by kernel_rfl, by decide, rfl⟩) (by kernel_rfl) rfl rfl (fun w' hb => load_i64 (Q1.below hb).c1), ?_⟩
      refine fcs ⟨ob_ltc 79 80 .i64 _ _ V 0 false y3 rfl rfl (by first | exact .inl rfl | exact .inr ⟨_, _, _, rfl, rfl, by kernel_rfl, by decide, rfl⟩) (by kernel_rfl) rfl rfl, ?_⟩
      refine fcs ⟨ob_copy 80 81 (.inl rfl) rfl (by first | exact .inl rfl | exact .inr ⟨_, _, _, rfl, rfl, by kernel_rfl, by decide, rfl⟩) (by kernel_rfl) rfl, ?_⟩
      refine fcs ⟨ob_fieldat w3 8 82 1 32 ⟨q, 0, none⟩ ⟨q, 1, none⟩ rfl rfl (by first | exact .inl rfl | exact .inr ⟨_, _, _, rfl, rfl, by kernel_rfl, by decide, rfl⟩) (by kernel_rfl) rfl rfl (fun w => by go_simp), ?_⟩
      refine fcs ⟨ob_loadat w3 82 83 3 ⟨q, 1, none⟩ (.int .i64 V) rfl rfl (by first | exact .inl rfl | exact .inr ⟨_, _, _, rfl, rfl, by kernel_rfl, by decide, rfl⟩) (by kernel_rfl) rfl rfl (fun w' hb => load_i64 (Q1.below hb).c1), ?_⟩
      refine fcs ⟨ob_fieldat w3 7 84 1 32 ⟨p, 0, none⟩ ⟨p, 1, none⟩ rfl rfl (by first | exact .inl rfl | exact .inr ⟨_, _, _, rfl, rfl, by kernel_rfl, by decide, rfl⟩) (by kernel_rfl) rfl rfl (fun w => by go_simp), ?_⟩
      refine fcs ⟨ob_loadat w3 84 85 3 ⟨p, 1, none⟩ (.int .i64 Y) rfl rfl (by first | exact .inl rfl | exact .inr ⟨_, _, _, rfl, rfl, by kernel_rfl, by decide, rfl⟩) (by kernel_rfl) rfl rfl (fun w' hb => load_i64 (P1.below hb).c1), ?_⟩
      refine fcs ⟨ob_gt2 .i64 83 85 86 V Y false _ _ y4 rfl rfl (by first | exact .inl rfl | exact .inr ⟨_, _, _, rfl, rfl, by kernel_rfl, by decide, rfl⟩) (by kernel_rfl) (by kernel_rfl) rfl rfl rfl, ?_⟩
      refine fcs ⟨ob_pick_else 81 86 87 _ rfl rfl (by first | exact .inl rfl | exact .inr ⟨_, _, _, rfl, rfl, by kernel_rfl, by decide, rfl⟩) (by kernel_rfl) (by kernel_rfl) rfl rfl, ?_⟩
      refine fcs ⟨ob_pick 77 87 88 _ rfl rfl (by first | exact .inl rfl | exact .inr ⟨_, _, _, rfl, rfl, by kernel_rfl, by decide, rfl⟩) (by kernel_rfl) (by kernel_rfl) rfl rfl, ?_⟩
      refine fcs ⟨ob_pick_else 73 88 89 _ rfl rfl (by first | exact .inl rfl | exact .inr ⟨_, _, _, rfl, rfl, by kernel_rfl, by decide, rfl⟩) (by kernel_rfl) (by kernel_rfl) rfl rfl, ?_⟩
      refine fcs ⟨ob_copy 89 90 (.inl rfl) rfl (by first | exact .inl rfl | exact .inr ⟨_, _, _, rfl, rfl, by kernel_rfl, by decide, rfl⟩) (by kernel_rfl) rfl, ?_⟩
      refine fcs ⟨ob_fieldat w3 7 91 1 32 ⟨p, 0, none⟩ ⟨p, 1, none⟩ rfl rfl (by first | exact .inl rfl | exact .inr ⟨_, _, _, rfl, rfl, by kernel_rfl, by decide, rfl⟩) (by kernel_rfl) rfl rfl (fun w => by go_simp), ?_⟩
      refine fcs ⟨ob_loadat w3 91 92 3 ⟨p, 1, none⟩ (.int .i64 Y) rfl rfl (by first | exact .inl rfl | exact .inr ⟨_, _, _, rfl, rfl, by kernel_rfl, by decide, rfl⟩) (by kernel_rfl) rfl rfl (fun w' hb => load_i64 (P1.below hb).c1), ?_⟩
      refine fcs ⟨ob_lec 92 93 .i64 _ _ Y 0 true y2 rfl rfl (by first | exact .inl rfl | exact .inr ⟨_, _, _, rfl, rfl, by kernel_rfl, by decide, rfl⟩) (by kernel_rfl) rfl rfl, ?_⟩
      refine fcs ⟨ob_copy 93 94 (.inl rfl) rfl (by first | exact .inl rfl | exact .inr ⟨_, _, _, rfl, rfl, by kernel_rfl, by decide, rfl⟩) (by kernel_rfl) rfl, ?_⟩
      refine fcs ⟨ob_fieldat w3 8 95 1 32 ⟨q, 0, none⟩ ⟨q, 1, none⟩ rfl rfl (by first | exact .inl rfl | exact .inr ⟨_, _, _, rfl, rfl, by kernel_rfl, by decide, rfl⟩) (by kernel_rfl) rfl rfl (fun w => by go_simp), ?_⟩
      refine fcs ⟨ob_loadat w3 95 96 3 ⟨q, 1, none⟩ (.int .i64 V) rfl rfl (by first | exact .inl rfl | exact .inr ⟨_, _, _, rfl, rfl, by kernel_rfl, by decide, rfl⟩) (by kernel_rfl) rfl rfl (fun w' hb => load_i64 (Q1.below hb).c1), ?_⟩
      refine fcs ⟨ob_gtc 96 97 .i64 _ _ V 0 false y5 rfl rfl (by first | exact .inl rfl | exact .inr ⟨_, _, _, rfl, rfl, by kernel_rfl, by decide, rfl⟩) (by kernel_rfl) rfl rfl, ?_⟩
      refine fcs ⟨ob_copy 97 98 (.inl rfl) rfl (by first | exact .inl rfl | exact .inr ⟨_, _, _, rfl, rfl, by kernel_rfl, by decide, rfl⟩) (by kernel_rfl) rfl, ?_⟩
      refine fcs ⟨ob_fieldat w3 8 99 1 32 ⟨q, 0, none⟩ ⟨q, 1, none⟩ rfl rfl (by first | exact .inl rfl | exact .inr ⟨_, _, _, rfl, rfl, by kernel_rfl, by decide, rfl⟩) (by kernel_rfl) rfl rfl (fun w => by go_simp), ?_⟩
      refine fcs ⟨ob_loadat w3 99 100 3 ⟨q, 1, none⟩ (.int .i64 V) rfl rfl (by first | exact .inl rfl | exact .inr ⟨_, _, _, rfl, rfl, by kernel_rfl, by decide, rfl⟩) (by kernel_rfl) rfl rfl (fun w' hb => load_i64 (Q1.below hb).c1), ?_⟩
      refine fcs ⟨ob_fieldat w3 7 101 1 32 ⟨p, 0, none⟩ ⟨p, 1, none⟩ rfl rfl (by first | exact .inl rfl | exact .inr ⟨_, _, _, rfl, rfl, by kernel_rfl, by decide, rfl⟩) (by kernel_rfl) rfl rfl (fun w => by go_simp), ?_⟩
      refine fcs ⟨ob_loadat w3 101 102 3 ⟨p, 1, none⟩ (.int .i64 Y) rfl rfl (by first | exact .inl rfl | exact .inr ⟨_, _, _, rfl, rfl, by kernel_rfl, by decide, rfl⟩) (by kernel_rfl) rfl rfl (fun w' hb => load_i64 (P1.below hb).c1), ?_⟩
      refine fcs ⟨ob_lt2 .i64 100 102 103 V Y false _ _ y6 rfl rfl (by first | exact .inl rfl | exact .inr ⟨_, _, _, rfl, rfl, by kernel_rfl, by decide, rfl⟩) (by kernel_rfl) (by kernel_rfl) rfl rfl rfl, ?_⟩
      refine fcs ⟨ob_pick_else 98 103 104 _ rfl rfl (by first | exact .inl rfl | exact .inr ⟨_, _, _, rfl, rfl, by kernel_rfl, by decide, rfl⟩) (by kernel_rfl) (by kernel_rfl) rfl rfl, ?_⟩
      refine fcs ⟨ob_pick 94 104 105 _ rfl rfl (by first | exact .inl rfl | exact .inr ⟨_, _, _, rfl, rfl, by kernel_rfl, by decide, rfl⟩) (by kernel_rfl) (by kernel_rfl) rfl rfl, ?_⟩
      refine fcs ⟨ob_pick_else 90 105 106 _ rfl rfl (by first | exact .inl rfl | exact .inr ⟨_, _, _, rfl, rfl, by kernel_rfl, by decide, rfl⟩) (by kernel_rfl) (by kernel_rfl) rfl rfl, ?_⟩
      exact fnl
    intro vv w4 hvv hbv
    have hv106 : vv 106 = (.bool false) := hvv 106 (by decide)
    simp only [lay, List.foldl_cons, List.foldl_nil, List.setIfInBounds_toArray, List.set_cons_succ, List.set_cons_zero, hv106]
    clear hvv
    have P1 := P1.below hbv
    have Q1 := Q1.below hbv
    have hB := up hB hbv
    clear hbv
    have k1 := P1.c0
    have k2 := P1.c1
    have k3 := Q1.c0
    have k4 := Q1.c1
    go_wp2_with fail
    refine (c3 _).mono ?_
    rintro e w5 ⟨rfl, hb3⟩
    have P1 := P1.below hb3
    have Q1 := Q1.below hb3
    have hB := up hB hb3
    clear hb3 k1 k2 k3 k4
    have k1 := P1.c0
    have k2 := P1.c1
    have k3 := Q1.c0
    have k4 := Q1.c1
    go_wp2_with fail
    refine (awake_any _).mono ?_
    rintro e w6 ⟨rfl, hb4⟩
    go_wp2_with fail
    go_ret
    exact ⟨by rfl, up hB hb4⟩
  · refine wp_region_off (FF [(7, Fact.at_ w3 (.pointer (some ⟨p, 0, none⟩))), (8, Fact.at_ w3 (.pointer (some ⟨q, 0, none⟩))), (41, Fact.at_ w3 (.pointer (some ⟨p, 0, none⟩))), (42, Fact.eq (.int .i64 X)), (43, Fact.eq (.bool true)), (44, Fact.eq (.bool true)), (45, Fact.at_ w3 (.pointer (some ⟨q, 0, none⟩))), (46, Fact.eq (.int .i64 U)), (47, Fact.eq (.bool false)), (48, Fact.eq (.bool false)), (49, Fact.at_ w3 (.pointer (some ⟨q, 0, none⟩))), (50, Fact.eq (.int .i64 U)), (51, Fact.at_ w3 (.pointer (some ⟨p, 0, none⟩))), (52, Fact.eq (.int .i64 X)), (53, Fact.eq (.bool false)), (54, Fact.eq (.bool false)), (55, Fact.eq (.bool false)), (56, Fact.eq (.bool false)), (57, Fact.at_ w3 (.pointer (some ⟨p, 0, none⟩))), (58, Fact.eq (.int .i64 X)), (59, Fact.eq (.bool false)), (60, Fact.eq (.bool false)), (61, Fact.eq undef), (62, Fact.eq undef), (63, Fact.eq undef), (64, Fact.eq undef), (65, Fact.eq undef), (66, Fact.eq undef), (67, Fact.eq undef), (68, Fact.eq undef), (69, Fact.eq undef), (70, Fact.eq undef), (71, Fact.eq (.bool false)), (72, Fact.eq (.bool false)), (73, Fact.eq (.bool false)), (74, Fact.at_ w3 (.pointer (some ⟨p, 1, none⟩))), (75, Fact.eq (.int .i64 Y)), (76, Fact.eq (.bool true)), (77, Fact.eq (.bool true)), (78, Fact.at_ w3 (.pointer (some ⟨q, 1, none⟩))), (79, Fact.eq (.int .i64 V)), (80, Fact.eq (.bool false)), (81, Fact.eq (.bool false)), (82, Fact.at_ w3 (.pointer (some ⟨q, 1, none⟩))), (83, Fact.eq (.int .i64 V)), (84, Fact.at_ w3 (.pointer (some ⟨p, 1, none⟩))), (85, Fact.eq (.int .i64 Y)), (86, Fact.eq (.bool false)), (87, Fact.eq (.bool false)), (88, Fact.eq (.bool false)), (89, Fact.eq (.bool false)), (90, Fact.eq (.bool false)), (91, Fact.at_ w3 (.pointer (some ⟨p, 1, none⟩))), (92, Fact.eq (.int .i64 Y)), (93, Fact.eq (.bool false)), (94, Fact.eq (.bool false)), (95, Fact.eq undef), (96, Fact.eq undef), (97, Fact.eq undef), (98, Fact.eq undef), (99, Fact.eq undef), (100, Fact.eq undef), (101, Fact.eq undef), (102, Fact.eq undef), (103, Fact.eq undef), (104, Fact.eq undef), (105, Fact.eq (.bool false)), (106, Fact.eq (.bool false))]) [7, 8] 121 [41, 42, 43, 44, 45, 46, 47, 48, 49, 50, 51, 52, 53, 54, 55, 56, 57, 58, 59, 60, 61, 62, 63, 64, 65, 66, 67, 68, 69, 70, 71, 72, 73, 74, 75, 76, 77, 78, 79, 80, 81, 82, 83, 84, 85, 86, 87, 88, 89, 90, 91, 92, 93, 94, 95, 96, 97, 98, 99, 100, 101, 102, 103, 104, 105, 106] rfl (by kernel_rfl) (by kernel_rfl) ?_ ?_ ?_
    · intro t ht
      simp only [List.mem_cons, List.not_mem_nil, or_false] at ht
      rcases ht with rfl | rfl
      · exact ⟨rfl, Below.refl _ _⟩
      · exact ⟨rfl, Below.refl _ _⟩
    · refine fcs ⟨ob_fieldat w3 7 41 0 32 ⟨p, 0, none⟩ ⟨p, 0, none⟩ rfl rfl (by first | exact .inl rfl | exact .inr ⟨_, _, _, rfl, rfl, by kernel_rfl, by decide, rfl⟩) (by kernel_rfl) rfl rfl (fun w => by go_simp), ?_⟩
      refine fcs ⟨ob_loadat w3 41 42 3 ⟨p, 0, none⟩ (.int .i64 X) rfl rfl (by first | exact .inl rfl | exact .inr ⟨_, _, _, rfl, rfl, by kernel_rfl, by decide, rfl⟩) (by kernel_rfl) rfl rfl (fun w' hb => load_i64 (P1.below hb).c0), ?_⟩
      refine fcs ⟨ob_gec 42 43 .i64 _ _ X 0 true x1 rfl rfl (by first | exact .inl rfl | exact .inr ⟨_, _, _, rfl, rfl, by kernel_rfl, by decide, rfl⟩) (by kernel_rfl) rfl rfl, ?_⟩
      refine fcs ⟨ob_copy 43 44 (.inl rfl) rfl (by first | exact .inl rfl | exact .inr ⟨_, _, _, rfl, rfl, by kernel_rfl, by decide, rfl⟩) (by kernel_rfl) rfl, ?_⟩
      refine fcs ⟨ob_fieldat w3 8 45 0 32 ⟨q, 0, none⟩ ⟨q, 0, none⟩ rfl rfl (by first | exact .inl rfl | exact .inr ⟨_, _, _, rfl, rfl, by kernel_rfl, by decide, rfl⟩) (by kernel_rfl) rfl rfl (fun w => by go_simp), ?_⟩
      refine fcs ⟨ob_loadat w3 45 46 3 ⟨q, 0, none⟩ (.int .i64 U) rfl rfl (by first | exact .inl rfl | exact .inr ⟨_, _, _, rfl, rfl, by kernel_rfl, by decide, rfl⟩) (by kernel_rfl) rfl rfl (fun w' hb => load_i64 (Q1.below hb).c0), ?_⟩
      refine fcs ⟨ob_ltc 46 47 .i64 _ _ U 0 false x3 rfl rfl (by first | exact .inl rfl | exact .inr ⟨_, _, _, rfl, rfl, by kernel_rfl, by decide, rfl⟩) (by kernel_rfl) rfl rfl, ?_⟩
      refine fcs ⟨ob_copy 47 48 (.inl rfl) rfl (by first | exact .inl rfl | exact .inr ⟨_, _, _, rfl, rfl, by kernel_rfl, by decide, rfl⟩) (by kernel_rfl) rfl, ?_⟩
      refine fcs ⟨ob_fieldat w3 8 49 0 32 ⟨q, 0, none⟩ ⟨q, 0, none⟩ rfl rfl (by first | exact .inl rfl | exact .inr ⟨_, _, _, rfl, rfl, by kernel_rfl, by decide, rfl⟩) (by kernel_rfl) rfl rfl (fun w => by go_simp), ?_⟩
      refine fcs ⟨ob_loadat w3 49 50 3 ⟨q, 0, none⟩ (.int .i64 U) rfl rfl (by first | exact .inl rfl | exact .inr ⟨_, _, _, rfl, rfl, by kernel_rfl, by decide, rfl⟩) (by kernel_rfl) rfl rfl (fun w' hb => load_i64 (Q1.below hb).c0), ?_⟩
      refine fcs ⟨ob_fieldat w3 7 51 0 32 ⟨p, 0, none⟩ ⟨p, 0, none⟩ rfl rfl (by first | exact .inl rfl | exact .inr ⟨_, _, _, rfl, rfl, by kernel_rfl, by decide, rfl⟩) (by kernel_rfl) rfl rfl (fun w => by go_simp), ?_⟩
      refine fcs ⟨ob_loadat w3 51 52 3 ⟨p, 0, none⟩ (.int .i64 X) rfl rfl (by first | exact .inl rfl | exact .inr ⟨_, _, _, rfl, rfl, by kernel_rfl, by decide, rfl⟩) (by kernel_rfl) rfl rfl (fun w' hb => load_i64 (P1.below hb).c0), ?_⟩
      refine fcs ⟨ob_gt2 .i64 50 52 53 U X false _ _ x4 rfl rfl (by first | exact .inl rfl | exact .inr ⟨_, _, _, rfl, rfl, by kernel_rfl, by decide, rfl⟩) (by kernel_rfl) (by kernel_rfl) rfl rfl rfl, ?_⟩
      refine fcs ⟨ob_pick_else 48 53 54 _ rfl rfl (by first | exact .inl rfl | exact .inr ⟨_, _, _, rfl, rfl, by kernel_rfl, by decide, rfl⟩) (by kernel_rfl) (by kernel_rfl) rfl rfl, ?_⟩
      refine fcs ⟨ob_pick 44 54 55 _ rfl rfl (by first | exact .inl rfl | exact .inr ⟨_, _, _, rfl, rfl, by kernel_rfl, by decide, rfl⟩) (by kernel_rfl) (by kernel_rfl) rfl rfl, ?_⟩
      refine fcs ⟨ob_copy 55 56 (.inl rfl) rfl (by first | exact .inl rfl | exact .inr ⟨_, _, _, rfl, rfl, by kernel_rfl, by decide, rfl⟩) (by kernel_rfl) rfl, ?_⟩
      refine fcs ⟨ob_fieldat w3 7 57 0 32 ⟨p, 0, none⟩ ⟨p, 0, none⟩ rfl rfl (by first | exact .inl rfl | exact .inr ⟨_, _, _, rfl, rfl, by kernel_rfl, by decide, rfl⟩) (by kernel_rfl) rfl rfl (fun w => by go_simp), ?_⟩
      refine fcs ⟨ob_loadat w3 57 58 3 ⟨p, 0, none⟩ (.int .i64 X) rfl rfl (by first | exact .inl rfl | exact .inr ⟨_, _, _, rfl, rfl, by kernel_rfl, by decide, rfl⟩) (by kernel_rfl) rfl rfl (fun w' hb => load_i64 (P1.below hb).c0), ?_⟩
      refine fcs ⟨ob_lec 58 59 .i64 _ _ X 0 false x2 rfl rfl (by first | exact .inl rfl | exact .inr ⟨_, _, _, rfl, rfl, by kernel_rfl, by decide, rfl⟩) (by kernel_rfl) rfl rfl, ?_⟩
      refine fcs ⟨ob_copy 59 60 (.inl rfl) rfl (by first | exact .inl rfl | exact .inr ⟨_, _, _, rfl, rfl, by kernel_rfl, by decide, rfl⟩) (by kernel_rfl) rfl, ?_⟩
      refine fcs ⟨ob_skip 19 60 61 true rfl rfl (by kernel_rfl) (by decide) rfl rfl rfl, ?_⟩
      refine fcs ⟨ob_skip 19 60 62 true rfl rfl (by kernel_rfl) (by decide) rfl rfl rfl, ?_⟩
      refine fcs ⟨ob_skip 19 60 63 true rfl rfl (by kernel_rfl) (by decide) rfl rfl rfl, ?_⟩
      refine fcs ⟨ob_skip 19 60 64 true rfl rfl (by kernel_rfl) (by decide) rfl rfl rfl, ?_⟩
      refine fcs ⟨ob_skip2 23 64 65 false rfl rfl (by kernel_rfl) (by decide) rfl rfl rfl, ?_⟩
      refine fcs ⟨ob_skip2 23 64 66 false rfl rfl (by kernel_rfl) (by decide) rfl rfl rfl, ?_⟩
      refine fcs ⟨ob_skip2 23 64 67 false rfl rfl (by kernel_rfl) (by decide) rfl rfl rfl, ?_⟩
      refine fcs ⟨ob_skip2 23 64 68 false rfl rfl (by kernel_rfl) (by decide) rfl rfl rfl, ?_⟩
      refine fcs ⟨ob_skip2 23 64 69 false rfl rfl (by kernel_rfl) (by decide) rfl rfl rfl, ?_⟩
      refine fcs ⟨ob_skip 19 60 70 true rfl rfl (by kernel_rfl) (by decide) rfl rfl rfl, ?_⟩
      refine fcs ⟨ob_pick_no 60 70 71 _ rfl rfl (by first | exact .inl rfl | exact .inr ⟨_, _, _, rfl, rfl, by kernel_rfl, by decide, rfl⟩) (by kernel_rfl) rfl rfl, ?_⟩
      refine fcs ⟨ob_pick_else 56 71 72 _ rfl rfl (by first | exact .inl rfl | exact .inr ⟨_, _, _, rfl, rfl, by kernel_rfl, by decide, rfl⟩) (by kernel_rfl) (by kernel_rfl) rfl rfl, ?_⟩
      refine fcs ⟨ob_copy 72 73 (.inl rfl) rfl (by first | exact .inl rfl | exact .inr ⟨_, _, _, rfl, rfl, by kernel_rfl, by decide, rfl⟩) (by kernel_rfl) rfl, ?_⟩
      refine fcs ⟨ob_fieldat w3 7 74 1 32 ⟨p, 0, none⟩ ⟨p, 1, none⟩ rfl rfl (by first | exact .inl rfl | exact .inr ⟨_, _, _, rfl, rfl, by kernel_rfl, by decide, rfl⟩) (by kernel_rfl) rfl rfl (fun w => by go_simp), ?_⟩
      refine fcs ⟨ob_loadat w3 74 75 3 ⟨p, 1, none⟩ (.int .i64 Y) rfl rfl (by first | exact .inl rfl | exact .inr ⟨_, _, _, rfl, rfl, by kernel_rfl, by decide, rfl⟩) (by kernel_rfl) rfl rfl (fun w' hb => load_i64 (P1.below hb).c1), ?_⟩
      refine fcs ⟨ob_gec 75 76 .i64 _ _ Y 0 true y1 rfl rfl (by first | exact .inl rfl | exact .inr ⟨_, _, _, rfl, rfl, by kernel_rfl, by decide, rfl⟩) (by kernel_rfl) rfl rfl, ?_⟩
      refine fcs ⟨ob_copy 76 77 (.inl rfl) rfl (by first | exact .inl rfl | exact .inr ⟨_, _, _, rfl, rfl, by kernel_rfl, by decide, rfl⟩) (by kernel_rfl) rfl, ?_⟩
      refine fcs ⟨ob_fieldat w3 8 78 1 32 ⟨q, 0, none⟩ ⟨q, 1, none⟩ rfl rfl (by first | exact .inl rfl | exact .inr ⟨_, _, _, rfl, rfl, by kernel_rfl, by decide, rfl⟩) (by kernel_rfl) rfl rfl (fun w => by go_simp), ?_⟩
      refine fcs ⟨ob_loadat w3 78 79 3 ⟨q, 1, none⟩ (.int .i64 V) rfl rfl (by first | exact .inl rfl | exact .inr ⟨_, _, _, rfl, rfl, by kernel_rfl, by decide, rfl⟩) (by kernel_rfl) rfl rfl (fun w' hb => load_i64 (Q1.below hb).c1), ?_⟩
      refine fcs ⟨ob_ltc 79 80 .i64 _ _ V 0 false y3 rfl rfl (by first | exact .inl rfl | exact .inr ⟨_, _, _, rfl, rfl, by kernel_rfl, by decide, rfl⟩) (by kernel_rfl) rfl rfl, ?_⟩
      refine fcs ⟨ob_copy 80 81 (.inl rfl) rfl (by first | exact .inl rfl | exact .inr ⟨_, _, _, rfl, rfl, by kernel_rfl, by decide, rfl⟩) (by kernel_rfl) rfl, ?_⟩
      refine fcs ⟨ob_fieldat w3 8 82 1 32 ⟨q, 0, none⟩ ⟨q, 1, none⟩ rfl rfl (by first | exact .inl rfl | exact .inr ⟨_, _, _, rfl, rfl, by kernel_rfl, by decide, rfl⟩) (by kernel_rfl) rfl rfl (fun w => by go_simp), ?_⟩
      refine fcs ⟨ob_loadat w3 82 83 3 ⟨q, 1, none⟩ (.int .i64 V) rfl rfl (by first | exact .inl rfl | exact .inr ⟨_, _, _, rfl, rfl, by kernel_rfl, by decide, rfl⟩) (by kernel_rfl) rfl rfl (fun w' hb => load_i64 (Q1.below hb).c1), ?_⟩
      refine fcs ⟨ob_fieldat w3 7 84 1 32 ⟨p, 0, none⟩ ⟨p, 1, none⟩ rfl rfl (by first | exact .inl rfl | exact .inr ⟨_, _, _, rfl, rfl, by kernel_rfl, by decide, rfl⟩) (by kernel_rfl) rfl rfl (fun w => by go_simp), ?_⟩
      refine fcs ⟨ob_loadat w3 84 85 3 ⟨p, 1, none⟩ (.int .i64 Y) rfl rfl (by first | exact .inl rfl | exact .inr ⟨_, _, _, rfl, rfl, by kernel_rfl, by decide, rfl⟩) (by kernel_rfl) rfl rfl (fun w' hb => load_i64 (P1.below hb).c1), ?_⟩
      refine fcs ⟨ob_gt2 .i64 83 85 86 V Y false _ _ y4 rfl rfl (by first | exact .inl rfl | exact .inr ⟨_, _, _, rfl, rfl, by kernel_rfl, by decide, rfl⟩) (by kernel_rfl) (by kernel_rfl) rfl rfl rfl, ?_⟩
      refine fcs ⟨ob_pick_else 81 86 87 _ rfl rfl (by first | exact .inl rfl | exact .inr ⟨_, _, _, rfl, rfl, by kernel_rfl, by decide, rfl⟩) (by kernel_rfl) (by kernel_rfl) rfl rfl, ?_⟩
      refine fcs ⟨ob_pick 77 87 88 _ rfl rfl (by first | exact .inl rfl | exact .inr ⟨_, _, _, rfl, rfl, by kernel_rfl, by decide, rfl⟩) (by kernel_rfl) (by kernel_rfl) rfl rfl, ?_⟩
      refine fcs ⟨ob_pick_else 73 88 89 _ rfl rfl (by first | exact .inl rfl | exact .inr ⟨_, _, _, rfl, rfl, by kernel_rfl, by decide, rfl⟩) (by kernel_rfl) (by kernel_rfl) rfl rfl, ?_⟩
      refine fcs ⟨ob_copy 89 90 (.inl rfl) rfl (by first | exact .inl rfl | exact .inr ⟨_, _, _, rfl, rfl, by kernel_rfl, by decide, rfl⟩) (by kernel_rfl) rfl, ?_⟩
      refine fcs ⟨ob_fieldat w3 7 91 1 32 ⟨p, 0, none⟩ ⟨p, 1, none⟩ rfl rfl (by first | exact .inl rfl | exact .inr ⟨_, _, _, rfl, rfl, by kernel_rfl, by decide, rfl⟩) (by kernel_rfl) rfl rfl (fun w => by go_simp), ?_⟩
      refine fcs ⟨ob_loadat w3 91 92 3 ⟨p, 1, none⟩ (.int .i64 Y) rfl rfl (by first | exact .inl rfl | exact .inr ⟨_, _, _, rfl, rfl, by kernel_rfl, by decide, rfl⟩) (by kernel_rfl) rfl rfl (fun w' hb => load_i64 (P1.below hb).c1), ?_⟩
      refine fcs ⟨ob_lec 92 93 .i64 _ _ Y 0 false y2 rfl rfl (by first | exact .inl rfl | exact .inr ⟨_, _, _, rfl, rfl, by kernel_rfl, by decide, rfl⟩) (by kernel_rfl) rfl rfl, ?_⟩
      refine fcs ⟨ob_copy 93 94 (.inl rfl) rfl (by first | exact .inl rfl | exact .inr ⟨_, _, _, rfl, rfl, by kernel_rfl, by decide, rfl⟩) (by kernel_rfl) rfl, ?_⟩
      refine fcs ⟨ob_skip 53 94 95 true rfl rfl (by kernel_rfl) (by decide) rfl rfl rfl, ?_⟩
      refine fcs ⟨ob_skip 53 94 96 true rfl rfl (by kernel_rfl) (by decide) rfl rfl rfl, ?_⟩
      refine fcs ⟨ob_skip 53 94 97 true rfl rfl (by kernel_rfl) (by decide) rfl rfl rfl, ?_⟩
      refine fcs ⟨ob_skip 53 94 98 true rfl rfl (by kernel_rfl) (by decide) rfl rfl rfl, ?_⟩
      refine fcs ⟨ob_skip2 57 98 99 false rfl rfl (by kernel_rfl) (by decide) rfl rfl rfl, ?_⟩
      refine fcs ⟨ob_skip2 57 98 100 false rfl rfl (by kernel_rfl) (by decide) rfl rfl rfl, ?_⟩
      refine fcs ⟨ob_skip2 57 98 101 false rfl rfl (by kernel_rfl) (by decide) rfl rfl rfl, ?_⟩
      refine fcs ⟨ob_skip2 57 98 102 false rfl rfl (by kernel_rfl) (by decide) rfl rfl rfl, ?_⟩
      refine fcs ⟨ob_skip2 57 98 103 false rfl rfl (by kernel_rfl) (by decide) rfl rfl rfl, ?_⟩
      refine fcs ⟨ob_skip 53 94 104 true rfl rfl (by kernel_rfl) (by decide) rfl rfl rfl, ?_⟩
      refine fcs ⟨ob_pick_no 94 104 105 _ rfl rfl (by first | exact .inl rfl | exact .inr ⟨_, _, _, rfl, rfl, by kernel_rfl, by decide, rfl⟩) (by kernel_rfl) rfl rfl, ?_⟩
      refine fcs ⟨ob_pick_else 90 105 106 _ rfl rfl (by first | exact .inl rfl | exact .inr ⟨_, _, _, rfl, rfl, by kernel_rfl, by decide, rfl⟩) (by kernel_rfl) (by kernel_rfl) rfl rfl, ?_⟩
      exact fnl
    intro vv w4 hvv hbv
    have hv106 : vv 106 = (.bool false) := hvv 106 (by decide)
    simp only [lay, List.foldl_cons, List.foldl_nil, List.setIfInBounds_toArray, List.set_cons_succ, List.set_cons_zero, hv106]
    clear hvv
    have P1 := P1.below hbv
    have Q1 := Q1.below hbv
    have hB := up hB hbv
    clear hbv
    have k1 := P1.c0
    have k2 := P1.c1
    have k3 := Q1.c0
    have k4 := Q1.c1
    go_wp2_with fail
    refine (c3 _).mono ?_
    rintro e w5 ⟨rfl, hb3⟩
    have P1 := P1.below hb3
    have Q1 := Q1.below hb3
    have hB := up hB hb3
    clear hb3 k1 k2 k3 k4
    have k1 := P1.c0
    have k2 := P1.c1
    have k3 := Q1.c0
    have k4 := Q1.c1
    go_wp2_with fail
    refine (awake_any _).mono ?_
    rintro e w6 ⟨rfl, hb4⟩
    go_wp2_with fail
    go_ret
    exact ⟨by rfl, up hB hb4⟩
  · refine wp_region_off (FF [(7, Fact.at_ w3 (.pointer (some ⟨p, 0, none⟩))), (8, Fact.at_ w3 (.pointer (some ⟨q, 0, none⟩))), (41, Fact.at_ w3 (.pointer (some ⟨p, 0, none⟩))), (42, Fact.eq (.int .i64 X)), (43, Fact.eq (.bool true)), (44, Fact.eq (.bool true)), (45, Fact.at_ w3 (.pointer (some ⟨q, 0, none⟩))), (46, Fact.eq (.int .i64 U)), (47, Fact.eq (.bool false)), (48, Fact.eq (.bool false)), (49, Fact.at_ w3 (.pointer (some ⟨q, 0, none⟩))), (50, Fact.eq (.int .i64 U)), (51, Fact.at_ w3 (.pointer (some ⟨p, 0, none⟩))), (52, Fact.eq (.int .i64 X)), (53, Fact.eq (.bool false)), (54, Fact.eq (.bool false)), (55, Fact.eq (.bool false)), (56, Fact.eq (.bool false)), (57, Fact.at_ w3 (.pointer (some ⟨p, 0, none⟩))), (58, Fact.eq (.int .i64 X)), (59, Fact.eq (.bool false)), (60, Fact.eq (.bool false)), (61, Fact.eq undef), (62, Fact.eq undef), (63, Fact.eq undef), (64, Fact.eq undef), (65, Fact.eq undef), (66, Fact.eq undef), (67, Fact.eq undef), (68, Fact.eq undef), (69, Fact.eq undef), (70, Fact.eq undef), (71, Fact.eq (.bool false)), (72, Fact.eq (.bool false)), (73, Fact.eq (.bool false)), (74, Fact.at_ w3 (.pointer (some ⟨p, 1, none⟩))), (75, Fact.eq (.int .i64 Y)), (76, Fact.eq (.bool false)), (77, Fact.eq (.bool false)), (78, Fact.eq undef), (79, Fact.eq undef), (80, Fact.eq undef), (81, Fact.eq undef), (82, Fact.eq undef), (83, Fact.eq undef), (84, Fact.eq undef), (85, Fact.eq undef), (86, Fact.eq undef), (87, Fact.eq undef), (88, Fact.eq (.bool false)), (89, Fact.eq (.bool false)), (90, Fact.eq (.bool false)), (91, Fact.at_ w3 (.pointer (some ⟨p, 1, none⟩))), (92, Fact.eq (.int .i64 Y)), (93, Fact.eq (.bool true)), (94, Fact.eq (.bool true)), (95, Fact.at_ w3 (.pointer (some ⟨q, 1, none⟩))), (96, Fact.eq (.int .i64 V)), (97, Fact.eq (.bool false)), (98, Fact.eq (.bool false)), (99, Fact.at_ w3 (.pointer (some ⟨q, 1, none⟩))), (100, Fact.eq (.int .i64 V)), (101, Fact.at_ w3 (.pointer (some ⟨p, 1, none⟩))), (102, Fact.eq (.int .i64 Y)), (103, Fact.eq (.bool false)), (104, Fact.eq (.bool false)), (105, Fact.eq (.bool false)), (106, Fact.eq (.bool false))]) [7, 8] 121 [41, 42, 43, 44, 45, 46, 47, 48, 49, 50, 51, 52, 53, 54, 55, 56, 57, 58, 59, 60, 61, 62, 63, 64, 65, 66, 67, 68, 69, 70, 71, 72, 73, 74, 75, 76, 77, 78, 79, 80, 81, 82, 83, 84, 85, 86, 87, 88, 89, 90, 91, 92, 93, 94, 95, 96, 97, 98, 99, 100, 101, 102, 103, 104, 105, 106] rfl (by kernel_rfl) (by kernel_rfl) ?_ ?_ ?_
    · intro t ht
      simp only [List.mem_cons, List.not_mem_nil, or_false] at ht
      rcases ht with rfl | rfl
      · exact ⟨rfl, Below.refl _ _⟩
      · exact ⟨rfl, Below.refl _ _⟩
    · refine fcs ⟨ob_fieldat w3 7 41 0 32 ⟨p, 0, none⟩ ⟨p, 0, none⟩ rfl rfl (by first | exact .inl rfl | exact .inr ⟨_, _, _, rfl, rfl, by kernel_rfl, by decide, rfl⟩) (by kernel_rfl) rfl rfl (fun w => by go_simp), ?_⟩
      refine fcs ⟨ob_loadat w3 41 42 3 ⟨p, 0, none⟩ (.int .i64 X) rfl rfl (by first | exact .inl rfl | exact .inr ⟨_, _, _, rfl, rfl, by kernel_rfl, by decide, rfl⟩) (by kernel_rfl) rfl rfl (fun w' hb => load_i64 (P1.below hb).c0), ?_⟩
      refine fcs ⟨ob_gec 42 43 .i64 _ _ X 0 true x1 rfl rfl (by first | exact .inl rfl | exact .inr ⟨_, _, _, rfl, rfl, by kernel_rfl, by decide, rfl⟩) (by kernel_rfl) rfl rfl, ?_⟩
      refine fcs ⟨ob_copy 43 44 (.inl rfl) rfl (by first | exact .inl rfl | exact .inr ⟨_, _, _, rfl, rfl, by kernel_rfl, by decide, rfl⟩) (by kernel_rfl) rfl, ?_⟩
      refine fcs ⟨ob_fieldat w3 8 45 0 32 ⟨q, 0, none⟩ ⟨q, 0, none⟩ rfl rfl (by first | exact .inl rfl | exact .inr ⟨_, _, _, rfl, rfl, by kernel_rfl, by decide, rfl⟩) (by kernel_rfl) rfl rfl (fun w => by go_simp), ?_⟩
      refine fcs ⟨ob_loadat w3 45 46 3 ⟨q, 0, none⟩ (.int .i64 U) rfl rfl (by first | exact .inl rfl | exact .inr ⟨_, _, _, rfl, rfl, by kernel_rfl, by decide, rfl⟩) (by kernel_rfl) rfl rfl (fun w' hb => load_i64 (Q1.below hb).c0), ?_⟩
      refine fcs ⟨ob_ltc 46 47 .i64 _ _ U 0 false x3 rfl rfl (by first | exact .inl rfl | exact .inr ⟨_, _, _, rfl, rfl, by kernel_rfl, by decide, rfl⟩) (by kernel_rfl) rfl rfl, ?_⟩
      refine fcs ⟨ob_copy 47 48 (.inl rfl) rfl (by first | exact .inl rfl | exact .inr ⟨_, _, _, rfl, rfl, by kernel_rfl, by decide, rfl⟩) (by kernel_rfl) rfl, ?_⟩
      refine fcs ⟨ob_fieldat w3 8 49 0 32 ⟨q, 0, none⟩ ⟨q, 0, none⟩ rfl rfl (by first | exact .inl rfl | exact .inr ⟨_, _, _, rfl, rfl, by kernel_rfl, by decide, rfl⟩) (by kernel_rfl) rfl rfl (fun w => by go_simp), ?_⟩
      refine fcs ⟨ob_loadat w3 49 50 3 ⟨q, 0, none⟩ (.int .i64 U) rfl rfl (by first | exact .inl rfl | exact .inr ⟨_, _, _, rfl, rfl, by kernel_rfl, by decide, rfl⟩) (by kernel_rfl) rfl rfl (fun w' hb => load_i64 (Q1.below hb).c0), ?_⟩
      refine fcs ⟨ob_fieldat w3 7 51 0 32 ⟨p, 0, none⟩ ⟨p, 0, none⟩ rfl rfl (by first | exact .inl rfl | exact .inr ⟨_, _, _, rfl, rfl, by kernel_rfl, by decide, rfl⟩) (by kernel_rfl) rfl rfl (fun w => by go_simp), ?_⟩
      refine fcs ⟨ob_loadat w3 51 52 3 ⟨p, 0, none⟩ (.int .i64 X) rfl rfl (by first | exact .inl rfl | exact .inr ⟨_, _, _, rfl, rfl, by kernel_rfl, by decide, rfl⟩) (by kernel_rfl) rfl rfl (fun w' hb => load_i64 (P1.below hb).c0), ?_⟩
      refine fcs ⟨ob_gt2 .i64 50 52 53 U X false _ _ x4 rfl rfl (by first | exact .inl rfl | exact .inr ⟨_, _, _, rfl, rfl, by kernel_rfl, by decide, rfl⟩) (by kernel_rfl) (by kernel_rfl) rfl rfl rfl, ?_⟩
      refine fcs ⟨ob_pick_else 48 53 54 _ rfl rfl (by first | exact .inl rfl | exact .inr ⟨_, _, _, rfl, rfl, by kernel_rfl, by decide, rfl⟩) (by kernel_rfl) (by kernel_rfl) rfl rfl, ?_⟩
      refine fcs ⟨ob_pick 44 54 55 _ rfl rfl (by first | exact .inl rfl | exact .inr ⟨_, _, _, rfl, rfl, by kernel_rfl, by decide, rfl⟩) (by kernel_rfl) (by kernel_rfl) rfl rfl, ?_⟩
      refine fcs ⟨ob_copy 55 56 (.inl rfl) rfl (by first | exact .inl rfl | exact .inr ⟨_, _, _, rfl, rfl, by kernel_rfl, by decide, rfl⟩) (by kernel_rfl) rfl, ?_⟩
      refine fcs ⟨ob_fieldat w3 7 57 0 32 ⟨p, 0, none⟩ ⟨p, 0, none⟩ rfl rfl (by first | exact .inl rfl | exact .inr ⟨_, _, _, rfl, rfl, by kernel_rfl, by decide, rfl⟩) (by kernel_rfl) rfl rfl (fun w => by go_simp), ?_⟩
      refine fcs ⟨ob_loadat w3 57 58 3 ⟨p, 0, none⟩ (.int .i64 X) rfl rfl (by first | exact .inl rfl | exact .inr ⟨_, _, _, rfl, rfl, by kernel_rfl, by decide, rfl⟩) (by kernel_rfl) rfl rfl (fun w' hb => load_i64 (P1.below hb).c0), ?_⟩
      refine fcs ⟨ob_lec 58 59 .i64 _ _ X 0 false x2 rfl rfl (by first | exact .inl rfl | exact .inr ⟨_, _, _, rfl, rfl, by kernel_rfl, by decide, rfl⟩) (by kernel_rfl) rfl rfl, ?_⟩
      refine fcs ⟨ob_copy 59 60 (.inl rfl) rfl (by first | exact .inl rfl | exact .inr ⟨_, _, _, rfl, rfl, by kernel_rfl, by decide, rfl⟩) (by kernel_rfl) rfl, ?_⟩
      refine fcs ⟨ob_skip 19 60 61 true rfl rfl (by kernel_rfl) (by decide) rfl rfl rfl, ?_⟩
      refine fcs ⟨ob_skip 19 60 62 true rfl rfl (by kernel_rfl) (by decide) rfl rfl rfl, ?_⟩
      refine fcs ⟨ob_skip 19 60 63 true rfl rfl (by kernel_rfl) (by decide) rfl rfl rfl, ?_⟩
      refine fcs ⟨ob_skip 19 60 64 true rfl rfl (by kernel_rfl) (by decide) rfl rfl rfl, ?_⟩
      refine fcs ⟨ob_skip2 23 64 65 false rfl rfl (by kernel_rfl) (by decide) rfl rfl rfl, ?_⟩
      refine fcs ⟨ob_skip2 23 64 66 false rfl rfl (by kernel_rfl) (by decide) rfl rfl rfl, ?_⟩
      refine fcs ⟨ob_skip2 23 64 67 false rfl rfl (by kernel_rfl) (by decide) rfl rfl rfl, ?_⟩
      refine fcs ⟨ob_skip2 23 64 68 false rfl rfl (by kernel_rfl) (by decide) rfl rfl rfl, ?_⟩
      refine fcs ⟨ob_skip2 23 64 69 false rfl rfl (by kernel_rfl) (by decide) rfl rfl rfl, ?_⟩
      refine fcs ⟨ob_skip 19 60 70 true rfl rfl (by kernel_rfl) (by decide) rfl rfl rfl, ?_⟩
      refine fcs ⟨ob_pick_no 60 70 71 _ rfl rfl (by first | exact .inl rfl | exact .inr ⟨_, _, _, rfl, rfl, by kernel_rfl, by decide, rfl⟩) (by kernel_rfl) rfl rfl, ?_⟩
      refine fcs ⟨ob_pick_else 56 71 72 _ rfl rfl (by first | exact .inl rfl | exact .inr ⟨_, _, _, rfl, rfl, by kernel_rfl, by decide, rfl⟩) (by kernel_rfl) (by kernel_rfl) rfl rfl, ?_⟩
      refine fcs ⟨ob_copy 72 73 (.inl rfl) rfl (by first | exact .inl rfl | exact .inr ⟨_, _, _, rfl, rfl, by kernel_rfl, by decide, rfl⟩) (by kernel_rfl) rfl, ?_⟩
      refine fcs ⟨ob_fieldat w3 7 74 1 32 ⟨p, 0, none⟩ ⟨p, 1, none⟩ rfl rfl (by first | exact .inl rfl | exact .inr ⟨_, _, _, rfl, rfl, by kernel_rfl, by decide, rfl⟩) (by kernel_rfl) rfl rfl (fun w => by go_simp), ?_⟩
      refine fcs ⟨ob_loadat w3 74 75 3 ⟨p, 1, none⟩ (.int .i64 Y) rfl rfl (by first | exact .inl rfl | exact .inr ⟨_, _, _, rfl, rfl, by kernel_rfl, by decide, rfl⟩) (by kernel_rfl) rfl rfl (fun w' hb => load_i64 (P1.below hb).c1), ?_⟩
      refine fcs ⟨ob_gec 75 76 .i64 _ _ Y 0 false y1 rfl rfl (by first | exact .inl rfl | exact .inr ⟨_, _, _, rfl, rfl, by kernel_rfl, by decide, rfl⟩) (by kernel_rfl) rfl rfl, ?_⟩
      refine fcs ⟨ob_copy 76 77 (.inl rfl) rfl (by first | exact .inl rfl | exact .inr ⟨_, _, _, rfl, rfl, by kernel_rfl, by decide, rfl⟩) (by kernel_rfl) rfl, ?_⟩
      refine fcs ⟨ob_skip 36 77 78 true rfl rfl (by kernel_rfl) (by decide) rfl rfl rfl, ?_⟩
      refine fcs ⟨ob_skip 36 77 79 true rfl rfl (by kernel_rfl) (by decide) rfl rfl rfl, ?_⟩
      refine fcs ⟨ob_skip 36 77 80 true rfl rfl (by kernel_rfl) (by decide) rfl rfl rfl, ?_⟩
      refine fcs ⟨ob_skip 36 77 81 true rfl rfl (by kernel_rfl) (by decide) rfl rfl rfl, ?_⟩
      refine fcs ⟨ob_skip2 40 81 82 false rfl rfl (by kernel_rfl) (by decide) rfl rfl rfl, ?_⟩
      refine fcs ⟨ob_skip2 40 81 83 false rfl rfl (by kernel_rfl) (by decide) rfl rfl rfl, ?_⟩
      refine fcs ⟨ob_skip2 40 81 84 false rfl rfl (by kernel_rfl) (by decide) rfl rfl rfl, ?_⟩
      refine fcs ⟨ob_skip2 40 81 85 false rfl rfl (by kernel_rfl) (by decide) rfl rfl rfl, ?_⟩
      refine fcs ⟨ob_skip2 40 81 86 false rfl rfl (by kernel_rfl) (by decide) rfl rfl rfl, ?_⟩
      refine fcs ⟨ob_skip 36 77 87 true rfl rfl (by kernel_rfl) (by decide) rfl rfl rfl, ?_⟩
      refine fcs ⟨ob_pick_no 77 87 88 _ rfl rfl (by first | exact .inl rfl | exact .inr ⟨_, _, _, rfl, rfl, by kernel_rfl, by decide, rfl⟩) (by kernel_rfl) rfl rfl, ?_⟩
      refine fcs ⟨ob_pick_else 73 88 89 _ rfl rfl (by first | exact .inl rfl | exact .inr ⟨_, _, _, rfl, rfl, by kernel_rfl, by decide, rfl⟩) (by kernel_rfl) (by kernel_rfl) rfl rfl, ?_⟩
      refine fcs ⟨ob_copy 89 90 (.inl rfl) rfl (by first | exact .inl rfl | exact .inr ⟨_, _, _, rfl, rfl, by kernel_rfl, by decide, rfl⟩) (by kernel_rfl) rfl, ?_⟩
      refine fcs ⟨ob_fieldat w3 7 91 1 32 ⟨p, 0, none⟩ ⟨p, 1, none⟩ rfl rfl (by first | exact .inl rfl | exact .inr ⟨_, _, _, rfl, rfl, by kernel_rfl, by decide, rfl⟩) (by kernel_rfl) rfl rfl (fun w => by go_simp), ?_⟩
      refine fcs ⟨ob_loadat w3 91 92 3 ⟨p, 1, none⟩ (.int .i64 Y) rfl rfl (by first | exact .inl rfl | exact .inr ⟨_, _, _, rfl, rfl, by kernel_rfl, by decide, rfl⟩) (by kernel_rfl) rfl rfl (fun w' hb => load_i64 (P1.below hb).c1), ?_⟩
      refine fcs ⟨ob_lec 92 93 .i64 _ _ Y 0 true y2 rfl rfl (by first | exact .inl rfl | exact .inr ⟨_, _, _, rfl, rfl, by kernel_rfl, by decide, rfl⟩) (by kernel_rfl) rfl rfl, ?_⟩
      refine fcs ⟨ob_copy 93 94 (.inl rfl) rfl (by first | exact .inl rfl | exact .inr ⟨_, _, _, rfl, rfl, by kernel_rfl, by decide, rfl⟩) (by kernel_rfl) rfl, ?_⟩
      refine fcs ⟨ob_fieldat w3 8 95 1 32 ⟨q, 0, none⟩ ⟨q, 1, none⟩ rfl rfl (by first | exact .inl rfl | exact .inr ⟨_, _, _, rfl, rfl, by kernel_rfl, by decide, rfl⟩) (by kernel_rfl) rfl rfl (fun w => by go_simp), ?_⟩
      refine fcs ⟨ob_loadat w3 95 96 3 ⟨q, 1, none⟩ (.int .i64 V) rfl rfl (by first | exact .inl rfl | exact .inr ⟨_, _, _, rfl, rfl, by kernel_rfl, by decide, rfl⟩) (by kernel_rfl) rfl rfl (fun w' hb => load_i64 (Q1.below hb).c1), ?_⟩
      refine fcs ⟨ob_gtc 96 97 .i64 _ _ V 0 false y3 rfl rfl (by first | exact .inl rfl | exact .inr ⟨_, _, _, rfl, rfl, by kernel_rfl, by decide, rfl⟩) (by kernel_rfl) rfl rfl, ?_⟩
      refine fcs ⟨ob_copy 97 98 (.inl rfl) rfl (by first | exact .inl rfl | exact .inr ⟨_, _, _, rfl, rfl, by kernel_rfl, by decide, rfl⟩) (by kernel_rfl) rfl, ?_⟩
      refine fcs ⟨ob_fieldat w3 8 99 1 32 ⟨q, 0, none⟩ ⟨q, 1, none⟩ rfl rfl (by first | exact .inl rfl | exact .inr ⟨_, _, _, rfl, rfl, by kernel_rfl, by decide, rfl⟩) (by kernel_rfl) rfl rfl (fun w => by go_simp), ?_⟩
      refine fcs ⟨ob_loadat w3 99 100 3 ⟨q, 1, none⟩ (.int .i64 V) rfl rfl (by first | exact .inl rfl | exact .inr ⟨_, _, _, rfl, rfl, by kernel_rfl, by decide, rfl⟩) (by kernel_rfl) rfl rfl (fun w' hb => load_i64 (Q1.below hb).c1), ?_⟩
      refine fcs ⟨ob_fieldat w3 7 101 1 32 ⟨p, 0, none⟩ ⟨p, 1, none⟩ rfl rfl (by first | exact .inl rfl | exact .inr ⟨_, _, _, rfl, rfl, by kernel_rfl, by decide, rfl⟩) (by kernel_rfl) rfl rfl (fun w => by go_simp), ?_⟩
      refine fcs ⟨ob_loadat w3 101 102 3 ⟨p, 1, none⟩ (.int .i64 Y) rfl rfl (by first | exact .inl rfl | exact .inr ⟨_, _, _, rfl, rfl, by kernel_rfl, by decide, rfl⟩) (by kernel_rfl) rfl rfl (fun w' hb => load_i64 (P1.below hb).c1), ?_⟩
      refine fcs ⟨ob_lt2 .i64 100 102 103 V Y false _ _ y4 rfl rfl (by first | exact .inl rfl | exact .inr ⟨_, _, _, rfl, rfl, by kernel_rfl, by decide, rfl⟩) (by kernel_rfl) (by kernel_rfl) rfl rfl rfl, ?_⟩
      refine fcs ⟨ob_pick_else 98 103 104 _ rfl rfl (by first | exact .inl rfl | exact .inr ⟨_, _, _, rfl, rfl, by kernel_rfl, by decide, rfl⟩) (by kernel_rfl) (by kernel_rfl) rfl rfl, ?_⟩
      refine fcs ⟨ob_pick 94 104 105 _ rfl rfl (by first | exact .inl rfl | exact .inr ⟨_, _, _, rfl, rfl, by kernel_rfl, by decide, rfl⟩) (by kernel_rfl) (by kernel_rfl) rfl rfl, ?_⟩
      refine fcs ⟨ob_pick_else 90 105 106 _ rfl rfl (by first | exact .inl rfl | exact .inr ⟨_, _, _, rfl, rfl, by kernel_rfl, by decide, rfl⟩) (by kernel_rfl) (by kernel_rfl) rfl rfl, ?_⟩
      exact fnl
    intro vv w4 hvv hbv
    have hv106 : vv 106 = (.bool false) := hvv 106 (by decide)
    simp only [lay, List.foldl_cons, List.foldl_nil, List.setIfInBounds_toArray, List.set_cons_succ, List.set_cons_zero, hv106]
    clear hvv
    have P1 := P1.below hbv
    have Q1 := Q1.below hbv
    have hB := up hB hbv
    clear hbv
    have k1 := P1.c0
    have k2 := P1.c1
    have k3 := Q1.c0
    have k4 := Q1.c1
    go_wp2_with fail
    refine (c3 _).mono ?_
    rintro e w5 ⟨rfl, hb3⟩
    have P1 := P1.below hb3
    have Q1 := Q1.below hb3
    have hB := up hB hb3
    clear hb3 k1 k2 k3 k4
    have k1 := P1.c0
    have k2 := P1.c1
    have k3 := Q1.c0
    have k4 := Q1.c1
    go_wp2_with fail
    refine (awake_any _).mono ?_
    rintro e w6 ⟨rfl, hb4⟩
    go_wp2_with fail
    go_ret
    exact ⟨by rfl, up hB hb4⟩
  · refine wp_region_off (FF [(7, Fact.at_ w3 (.pointer (some ⟨p, 0, none⟩))), (8, Fact.at_ w3 (.pointer (some ⟨q, 0, none⟩))), (41, Fact.at_ w3 (.pointer (some ⟨p, 0, none⟩))), (42, Fact.eq (.int .i64 X)), (43, Fact.eq (.bool false)), (44, Fact.eq (.bool false)), (45, Fact.eq undef), (46, Fact.eq undef), (47, Fact.eq undef), (48, Fact.eq undef), (49, Fact.eq undef), (50, Fact.eq undef), (51, Fact.eq undef), (52, Fact.eq undef), (53, Fact.eq undef), (54, Fact.eq undef), (55, Fact.eq (.bool false)), (56, Fact.eq (.bool false)), (57, Fact.at_ w3 (.pointer (some ⟨p, 0, none⟩))), (58, Fact.eq (.int .i64 X)), (59, Fact.eq (.bool true)), (60, Fact.eq (.bool true)), (61, Fact.at_ w3 (.pointer (some ⟨q, 0, none⟩))), (62, Fact.eq (.int .i64 U)), (63, Fact.eq (.bool false)), (64, Fact.eq (.bool false)), (65, Fact.at_ w3 (.pointer (some ⟨q, 0, none⟩))), (66, Fact.eq (.int .i64 U)), (67, Fact.at_ w3 (.pointer (some ⟨p, 0, none⟩))), (68, Fact.eq (.int .i64 X)), (69, Fact.eq (.bool false)), (70, Fact.eq (.bool false)), (71, Fact.eq (.bool false)), (72, Fact.eq (.bool false)), (73, Fact.eq (.bool false)), (74, Fact.at_ w3 (.pointer (some ⟨p, 1, none⟩))), (75, Fact.eq (.int .i64 Y)), (76, Fact.eq (.bool true)), (77, Fact.eq (.bool true)), (78, Fact.at_ w3 (.pointer (some ⟨q, 1, none⟩))), (79, Fact.eq (.int .i64 V)), (80, Fact.eq (.bool false)), (81, Fact.eq (.bool false)), (82, Fact.at_ w3 (.pointer (some ⟨q, 1, none⟩))), (83, Fact.eq (.int .i64 V)), (84, Fact.at_ w3 (.pointer (some ⟨p, 1, none⟩))), (85, Fact.eq (.int .i64 Y)), (86, Fact.eq (.bool false)), (87, Fact.eq (.bool false)), (88, Fact.eq (.bool false)), (89, Fact.eq (.bool false)), (90, Fact.eq (.bool false)), (91, Fact.at_ w3 (.pointer (some ⟨p, 1, none⟩))), (92, Fact.eq (.int .i64 Y)), (93, Fact.eq (.bool true)), (94, Fact.eq (.bool true)), (95, Fact.at_ w3 (.pointer (some ⟨q, 1, none⟩))), (96, Fact.eq (.int .i64 V)), (97, Fact.eq (.bool false)), (98, Fact.eq (.bool false)), (99, Fact.at_ w3 (.pointer (some ⟨q, 1, none⟩))), (100, Fact.eq (.int .i64 V)), (101, Fact.at_ w3 (.pointer (some ⟨p, 1, none⟩))), (102, Fact.eq (.int .i64 Y)), (103, Fact.eq (.bool false)), (104, Fact.eq (.bool false)), (105, Fact.eq (.bool false)), (106, Fact.eq (.bool false))]) [7, 8] 121 [41, 42, 43, 44, 45, 46, 47, 48, 49, 50, 51, 52, 53, 54, 55, 56, 57, 58, 59, 60, 61, 62, 63, 64, 65, 66, 67, 68, 69, 70, 71, 72, 73, 74, 75, 76, 77, 78, 79, 80, 81, 82, 83, 84, 85, 86, 87, 88, 89, 90, 91, 92, 93, 94, 95, 96, 97, 98, 99, 100, 101, 102, 103, 104, 105, 106] rfl (by kernel_rfl) (by kernel_rfl) ?_ ?_ ?_
    · intro t ht
      simp only [List.mem_cons, List.not_mem_nil, or_false] at ht
      rcases ht with rfl | rfl
      · exact ⟨rfl, Below.refl _ _⟩
      · exact ⟨rfl, Below.refl _ _⟩
    · refine fcs ⟨ob_fieldat w3 7 41 0 32 ⟨p, 0, none⟩ ⟨p, 0, none⟩ rfl rfl (by first | exact .inl rfl | exact .inr ⟨_, _, _, rfl, rfl, by kernel_rfl, by decide, rfl⟩) (by kernel_rfl) rfl rfl (fun w => by go_simp), ?_⟩
      refine fcs ⟨ob_loadat w3 41 42 3 ⟨p, 0, none⟩ (.int .i64 X) rfl rfl (by first | exact .inl rfl | exact .inr ⟨_, _, _, rfl, rfl, by kernel_rfl, by decide, rfl⟩) (by kernel_rfl) rfl rfl (fun w' hb => load_i64 (P1.below hb).c0), ?_⟩
      refine fcs ⟨ob_gec 42 43 .i64 _ _ X 0 false x1 rfl rfl (by first | exact .inl rfl | exact .inr ⟨_, _, _, rfl, rfl, by kernel_rfl, by decide, rfl⟩) (by kernel_rfl) rfl rfl, ?_⟩
      refine fcs ⟨ob_copy 43 44 (.inl rfl) rfl (by first | exact .inl rfl | exact .inr ⟨_, _, _, rfl, rfl, by kernel_rfl, by decide, rfl⟩) (by kernel_rfl) rfl, ?_⟩
      refine fcs ⟨ob_skip 3 44 45 true rfl rfl (by kernel_rfl) (by decide) rfl rfl rfl, ?_⟩
      refine fcs ⟨ob_skip 3 44 46 true rfl rfl (by kernel_rfl) (by decide) rfl rfl rfl, ?_⟩
      refine fcs ⟨ob_skip 3 44 47 true rfl rfl (by kernel_rfl) (by decide) rfl rfl rfl, ?_⟩
      refine fcs ⟨ob_skip 3 44 48 true rfl rfl (by kernel_rfl) (by decide) rfl rfl rfl, ?_⟩
      refine fcs ⟨ob_skip2 7 48 49 false rfl rfl (by kernel_rfl) (by decide) rfl rfl rfl, ?_⟩
      refine fcs ⟨ob_skip2 7 48 50 false rfl rfl (by kernel_rfl) (by decide) rfl rfl rfl, ?_⟩
      refine fcs ⟨ob_skip2 7 48 51 false rfl rfl (by kernel_rfl) (by decide) rfl rfl rfl, ?_⟩
      refine fcs ⟨ob_skip2 7 48 52 false rfl rfl (by kernel_rfl) (by decide) rfl rfl rfl, ?_⟩
      refine fcs ⟨ob_skip2 7 48 53 false rfl rfl (by kernel_rfl) (by decide) rfl rfl rfl, ?_⟩
      refine fcs ⟨ob_skip 3 44 54 true rfl rfl (by kernel_rfl) (by decide) rfl rfl rfl, ?_⟩
      refine fcs ⟨ob_pick_no 44 54 55 _ rfl rfl (by first | exact .inl rfl | exact .inr ⟨_, _, _, rfl, rfl, by kernel_rfl, by decide, rfl⟩) (by kernel_rfl) rfl rfl, ?_⟩
      refine fcs ⟨ob_copy 55 56 (.inl rfl) rfl (by first | exact .inl rfl | exact .inr ⟨_, _, _, rfl, rfl, by kernel_rfl, by decide, rfl⟩) (by kernel_rfl) rfl, ?_⟩
      refine fcs ⟨ob_fieldat w3 7 57 0 32 ⟨p, 0, none⟩ ⟨p, 0, none⟩ rfl rfl (by first | exact .inl rfl | exact .inr ⟨_, _, _, rfl, rfl, by kernel_rfl, by decide, rfl⟩) (by kernel_rfl) rfl rfl (fun w => by go_simp), ?_⟩
      refine fcs ⟨ob_loadat w3 57 58 3 ⟨p, 0, none⟩ (.int .i64 X) rfl rfl (by first | exact .inl rfl | exact .inr ⟨_, _, _, rfl, rfl, by kernel_rfl, by decide, rfl⟩) (by kernel_rfl) rfl rfl (fun w' hb => load_i64 (P1.below hb).c0), ?_⟩
      refine fcs ⟨ob_lec 58 59 .i64 _ _ X 0 true x2 rfl rfl (by first | exact .inl rfl | exact .inr ⟨_, _, _, rfl, rfl, by kernel_rfl, by decide, rfl⟩) (by kernel_rfl) rfl rfl, ?_⟩
      refine fcs ⟨ob_copy 59 60 (.inl rfl) rfl (by first | exact .inl rfl | exact .inr ⟨_, _, _, rfl, rfl, by kernel_rfl, by decide, rfl⟩) (by kernel_rfl) rfl, ?_⟩
      refine fcs ⟨ob_fieldat w3 8 61 0 32 ⟨q, 0, none⟩ ⟨q, 0, none⟩ rfl rfl (by first | exact .inl rfl | exact .inr ⟨_, _, _, rfl, rfl, by kernel_rfl, by decide, rfl⟩) (by kernel_rfl) rfl rfl (fun w => by go_simp), ?_⟩
      refine fcs ⟨ob_loadat w3 61 62 3 ⟨q, 0, none⟩ (.int .i64 U) rfl rfl (by first | exact .inl rfl | exact .inr ⟨_, _, _, rfl, rfl, by kernel_rfl, by decide, rfl⟩) (by kernel_rfl) rfl rfl (fun w' hb => load_i64 (Q1.below hb).c0), ?_⟩
      refine fcs ⟨ob_gtc 62 63 .i64 _ _ U 0 false x3 rfl rfl (by first | exact .inl rfl | exact .inr ⟨_, _, _, rfl, rfl, by kernel_rfl, by decide, rfl⟩) (by kernel_rfl) rfl rfl, ?_⟩
      refine fcs ⟨ob_copy 63 64 (.inl rfl) rfl (by first | exact .inl rfl | exact .inr ⟨_, _, _, rfl, rfl, by kernel_rfl, by decide, rfl⟩) (by kernel_rfl) rfl, ?_⟩
      refine fcs ⟨ob_fieldat w3 8 65 0 32 ⟨q, 0, none⟩ ⟨q, 0, none⟩ rfl rfl (by first | exact .inl rfl | exact .inr ⟨_, _, _, rfl, rfl, by kernel_rfl, by decide, rfl⟩) (by kernel_rfl) rfl rfl (fun w => by go_simp), ?_⟩
      refine fcs ⟨ob_loadat w3 65 66 3 ⟨q, 0, none⟩ (.int .i64 U) rfl rfl (by first | exact .inl rfl | exact .inr ⟨_, _, _, rfl, rfl, by kernel_rfl, by decide, rfl⟩) (by kernel_rfl) rfl rfl (fun w' hb => load_i64 (Q1.below hb).c0), ?_⟩
      refine fcs ⟨ob_fieldat w3 7 67 0 32 ⟨p, 0, none⟩ ⟨p, 0, none⟩ rfl rfl (by first | exact .inl rfl | exact .inr ⟨_, _, _, rfl, rfl, by kernel_rfl, by decide, rfl⟩) (by kernel_rfl) rfl rfl (fun w => by go_simp), ?_⟩
      refine fcs ⟨ob_loadat w3 67 68 3 ⟨p, 0, none⟩ (.int .i64 X) rfl rfl (by first | exact .inl rfl | exact .inr ⟨_, _, _, rfl, rfl, by kernel_rfl, by decide, rfl⟩) (by kernel_rfl) rfl rfl (fun w' hb => load_i64 (P1.below hb).c0), ?_⟩
      refine fcs ⟨ob_lt2 .i64 66 68 69 U X false _ _ x4 rfl rfl (by first | exact .inl rfl | exact .inr ⟨_, _, _, rfl, rfl, by kernel_rfl, by decide, rfl⟩) (by kernel_rfl) (by kernel_rfl) rfl rfl rfl, ?_⟩
      refine fcs ⟨ob_pick_else 64 69 70 _ rfl rfl (by first | exact .inl rfl | exact .inr ⟨_, _, _, rfl, rfl, by kernel_rfl, by decide, rfl⟩) (by kernel_rfl) (by kernel_rfl) rfl rfl, ?_⟩
      refine fcs ⟨ob_pick 60 70 71 _ rfl rfl (by first | exact .inl rfl | exact .inr ⟨_, _, _, rfl, rfl, by kernel_rfl, by decide, rfl⟩) (by kernel_rfl) (by kernel_rfl) rfl rfl, ?_⟩
      refine fcs ⟨ob_pick_else 56 71 72 _ rfl rfl (by first | exact .inl rfl | exact .inr ⟨_, _, _, rfl, rfl, by kernel_rfl, by decide, rfl⟩) (by kernel_rfl) (by kernel_rfl) rfl rfl, ?_⟩
      refine fcs ⟨ob_copy 72 73 (.inl rfl) rfl (by first | exact .inl rfl | exact .inr ⟨_, _, _, rfl, rfl, by kernel_rfl, by decide, rfl⟩) (by kernel_rfl) rfl, ?_⟩
      refine fcs ⟨ob_fieldat w3 7 74 1 32 ⟨p, 0, none⟩ ⟨p, 1, none⟩ rfl rfl (by first | exact .inl rfl | exact .inr ⟨_, _, _, rfl, rfl, by kernel_rfl, by decide, rfl⟩) (by kernel_rfl) rfl rfl (fun w => by go_simp), ?_⟩
      refine fcs ⟨ob_loadat w3 74 75 3 ⟨p, 1, none⟩ (.int .i64 Y) rfl rfl (by first | exact .inl rfl | exact .inr ⟨_, _, _, rfl, rfl, by kernel_rfl, by decide, rfl⟩) (by kernel_rfl) rfl rfl (fun w' hb => load_i64 (P1.below hb).c1), ?_⟩
      refine fcs ⟨ob_gec 75 76 .i64 _ _ Y 0 true y1 rfl rfl (by first | exact .inl rfl | exact .inr ⟨_, _, _, rfl, rfl, by kernel_rfl, by decide, rfl⟩) (by kernel_rfl) rfl rfl, ?_⟩
      refine fcs ⟨ob_copy 76 77 (.inl rfl) rfl (by first | exact .inl rfl | exact .inr ⟨_, _, _, rfl, rfl, by kernel_rfl, by decide, rfl⟩) (by kernel_rfl) rfl, ?_⟩
      refine fcs ⟨ob_fieldat w3 8 78 1 32 ⟨q, 0, none⟩ ⟨q, 1, none⟩ rfl rfl (by first | exact .inl rfl | exact .inr ⟨_, _, _, rfl, rfl, by kernel_rfl, by decide, rfl⟩) (by kernel_rfl) rfl rfl (fun w => by go_simp), ?_⟩
      refine fcs ⟨ob_loadat w3 78 79 3 ⟨q, 1, none⟩ (.int .i64 V) rfl rfl (by first | exact .inl rfl | exact .inr ⟨_, _, _, rfl, rfl, by kernel_rfl, by decide, rfl⟩) (by kernel_rfl) rfl rfl (fun w' hb => load_i64 (Q1.below hb).c1), ?_⟩
      refine fcs ⟨ob_ltc 79 80 .i64 _ _ V 0 false y3 rfl rfl (by first | exact .inl rfl | exact .inr ⟨_, _, _, rfl, rfl, by kernel_rfl, by decide, rfl⟩) (by kernel_rfl) rfl rfl, ?_⟩
      refine fcs ⟨ob_copy 80 81 (.inl rfl) rfl (by first | exact .inl rfl | exact .inr ⟨_, _, _, rfl, rfl, by kernel_rfl, by decide, rfl⟩) (by kernel_rfl) rfl, ?_⟩
      refine fcs ⟨ob_fieldat w3 8 82 1 32 ⟨q, 0, none⟩ ⟨q, 1, none⟩ rfl rfl (by first | exact .inl rfl | exact .inr ⟨_, _, _, rfl, rfl, by kernel_rfl, by decide, rfl⟩) (by kernel_rfl) rfl rfl (fun w => by go_simp), ?_⟩
      refine fcs ⟨ob_loadat w3 82 83 3 ⟨q, 1, none⟩ (.int .i64 V) rfl rfl (by first | exact .inl rfl | exact .inr ⟨_, _, _, rfl, rfl, by kernel_rfl, by decide, rfl⟩) (by kernel_rfl) rfl rfl (fun w' hb => load_i64 (Q1.below hb).c1), ?_⟩
      refine fcs ⟨ob_fieldat w3 7 84 1 32 ⟨p, 0, none⟩ ⟨p, 1, none⟩ rfl rfl (by first | exact .inl rfl | exact .inr ⟨_, _, _, rfl, rfl, by kernel_rfl, by decide, rfl⟩) (by kernel_rfl) rfl rfl (fun w => by go_simp), ?_⟩
      refine fcs ⟨ob_loadat w3 84 85 3 ⟨p, 1, none⟩ (.int .i64 Y) rfl rfl (by first | exact .inl rfl | exact .inr ⟨_, _, _, rfl, rfl, by kernel_rfl, by decide, rfl⟩) (by kernel_rfl) rfl rfl (fun w' hb => load_i64 (P1.below hb).c1), ?_⟩
      refine fcs ⟨ob_gt2 .i64 83 85 86 V Y false _ _ y4 rfl rfl (by first | exact .inl rfl | exact .inr ⟨_, _, _, rfl, rfl, by kernel_rfl, by decide, rfl⟩) (by kernel_rfl) (by kernel_rfl) rfl rfl rfl, ?_⟩
      refine fcs ⟨ob_pick_else 81 86 87 _ rfl rfl (by first | exact .inl rfl | exact .inr ⟨_, _, _, rfl, rfl, by kernel_rfl, by decide, rfl⟩) (by kernel_rfl) (by kernel_rfl) rfl rfl, ?_⟩
      refine fcs ⟨ob_pick 77 87 88 _ rfl rfl (by first | exact .inl rfl | exact .inr ⟨_, _, _, rfl, rfl, by kernel_rfl, by decide, rfl⟩) (by kernel_rfl) (by kernel_rfl) rfl rfl, ?_⟩
      refine fcs ⟨ob_pick_else 73 88 89 _ rfl rfl (by first | exact .inl rfl | exact .inr ⟨_, _, _, rfl, rfl, by kernel_rfl, by decide, rfl⟩) (by kernel_rfl) (by kernel_rfl) rfl rfl, ?_⟩
      refine fcs ⟨ob_copy 89 90 (.inl rfl) rfl (by first | exact .inl rfl | exact .inr ⟨_, _, _, rfl, rfl, by kernel_rfl, by decide, rfl⟩) (by kernel_rfl) rfl, ?_⟩
      refine fcs ⟨ob_fieldat w3 7 91 1 32 ⟨p, 0, none⟩ ⟨p, 1, none⟩ rfl rfl (by first | exact .inl rfl | exact .inr ⟨_, _, _, rfl, rfl, by kernel_rfl, by decide, rfl⟩) (by kernel_rfl) rfl rfl (fun w => by go_simp), ?_⟩
      refine fcs ⟨ob_loadat w3 91 92 3 ⟨p, 1, none⟩ (.int .i64 Y) rfl rfl (by first | exact .inl rfl | exact .inr ⟨_, _, _, rfl, rfl, by kernel_rfl, by decide, rfl⟩) (by kernel_rfl) rfl rfl (fun w' hb => load_i64 (P1.below hb).c1), ?_⟩
      refine fcs ⟨ob_lec 92 93 .i64 _ _ Y 0 true y2 rfl rfl (by first | exact .inl rfl | exact .inr ⟨_, _, _, rfl, rfl, by kernel_rfl, by decide, rfl⟩) (by kernel_rfl) rfl rfl, ?_⟩
      refine fcs ⟨ob_copy 93 94 (.inl rfl) rfl (by first | exact .inl rfl | exact .inr ⟨_, _, _, rfl, rfl, by kernel_rfl, by decide, rfl⟩) (by kernel_rfl) rfl, ?_⟩
      refine fcs ⟨ob_fieldat w3 8 95 1 32 ⟨q, 0, none⟩ ⟨q, 1, none⟩ rfl rfl (by first | exact .inl rfl | exact .inr ⟨_, _, _, rfl, rfl, by kernel_rfl, by decide, rfl⟩) (by kernel_rfl) rfl rfl (fun w => by go_simp), ?_⟩
      refine fcs ⟨ob_loadat w3 95 96 3 ⟨q, 1, none⟩ (.int .i64 V) rfl rfl (by first | exact .inl rfl | exact .inr ⟨_, _, _, rfl, rfl, by kernel_rfl, by decide, rfl⟩) (by kernel_rfl) rfl rfl (fun w' hb => load_i64 (Q1.below hb).c1), ?_⟩
      refine fcs ⟨ob_gtc 96 97 .i64 _ _ V 0 false y5 rfl rfl (by first | exact .inl rfl | exact .inr ⟨_, _, _, rfl, rfl, by kernel_rfl, by decide, rfl⟩) (by kernel_rfl) rfl rfl, ?_⟩
      refine fcs ⟨ob_copy 97 98 (.inl rfl) rfl (by first | exact .inl rfl | exact .inr ⟨_, _, _, rfl, rfl, by kernel_rfl, by decide, rfl⟩) (by kernel_rfl) rfl, ?_⟩
      refine fcs ⟨ob_fieldat w3 8 99 1 32 ⟨q, 0, none⟩ ⟨q, 1, none⟩ rfl rfl (by first | exact .inl rfl | exact .inr ⟨_, _, _, rfl, rfl, by kernel_rfl, by decide, rfl⟩) (by kernel_rfl) rfl rfl (fun w => by go_simp), ?_⟩
      refine fcs ⟨ob_loadat w3 99 100 3 ⟨q, 1, none⟩ (.int .i64 V) rfl rfl (by first | exact .inl rfl | exact .inr ⟨_, _, _, rfl, rfl, by kernel_rfl, by decide, rfl⟩) (by kernel_rfl) rfl rfl (fun w' hb => load_i64 (Q1.below hb).c1), ?_⟩
      refine fcs ⟨ob_fieldat w3 7 101 1 32 ⟨p, 0, none⟩ ⟨p, 1, none⟩ rfl rfl (by first | exact .inl rfl | exact .inr ⟨_, _, _, rfl, rfl, by kernel_rfl, by decide, rfl⟩) (by kernel_rfl) rfl rfl (fun w => by go_simp), ?_⟩
      refine fcs ⟨ob_loadat w3 101 102 3 ⟨p, 1, none⟩ (.int .i64 Y) rfl rfl (by first | exact .inl rfl | exact .inr ⟨_, _, _, rfl, rfl, by kernel_rfl, by decide, rfl⟩) (by kernel_rfl) rfl rfl (fun w' hb => load_i64 (P1.below hb).c1), ?_⟩
      refine fcs ⟨ob_lt2 .i64 100 102 103 V Y false _ _ y6 rfl rfl (by first | exact .inl rfl | exact .inr ⟨_, _, _, rfl, rfl, by kernel_rfl, by decide, rfl⟩) (by kernel_rfl) (by kernel_rfl) rfl rfl rfl, ?_⟩
      refine fcs ⟨ob_pick_else 98 103 104 _ rfl rfl (by first | exact .inl rfl | exact .inr ⟨_, _, _, rfl, rfl, by kernel_rfl, by decide, rfl⟩) (by kernel_rfl) (by kernel_rfl) rfl rfl, ?_⟩
      refine fcs ⟨ob_pick 94 104 105 _ rfl rfl (by first | exact .inl rfl | exact .inr ⟨_, _, _, rfl, rfl, by kernel_rfl, by decide, rfl⟩) (by kernel_rfl) (by kernel_rfl) rfl rfl, ?_⟩
      refine fcs ⟨ob_pick_else 90 105 106 _ rfl rfl (by first | exact .inl rfl | exact .inr ⟨_, _, _, rfl, rfl, by kernel_rfl, by decide, rfl⟩) (by kernel_rfl) (by kernel_rfl) rfl rfl, ?_⟩
      exact fnl
    intro vv w4 hvv hbv
    have hv106 : vv 106 = (.bool false) := hvv 106 (by decide)
    simp only [lay, List.foldl_cons, List.foldl_nil, List.setIfInBounds_toArray, List.set_cons_succ, List.set_cons_zero, hv106]
    clear hvv
    have P1 := P1.below hbv
    have Q1 := Q1.below hbv
    have hB := up hB hbv
    clear hbv
    have k1 := P1.c0
    have k2 := P1.c1
    have k3 := Q1.c0
    have k4 := Q1.c1
    go_wp2_with fail
    refine (c3 _).mono ?_
    rintro e w5 ⟨rfl, hb3⟩
    have P1 := P1.below hb3
    have Q1 := Q1.below hb3
    have hB := up hB hb3
    clear hb3 k1 k2 k3 k4
    have k1 := P1.c0
    have k2 := P1.c1
    have k3 := Q1.c0
    have k4 := Q1.c1
    go_wp2_with fail
    refine (awake_any _).mono ?_
    rintro e w6 ⟨rfl, hb4⟩
    go_wp2_with fail
    go_ret
    exact ⟨by rfl, up hB hb4⟩
  · refine wp_region_off (FF [(7, Fact.at_ w3 (.pointer (some ⟨p, 0, none⟩))), (8, Fact.at_ w3 (.pointer (some ⟨q, 0, none⟩))), (41, Fact.at_ w3 (.pointer (some ⟨p, 0, none⟩))), (42, Fact.eq (.int .i64 X)), (43, Fact.eq (.bool false)), (44, Fact.eq (.bool false)), (45, Fact.eq undef), (46, Fact.eq undef), (47, Fact.eq undef), (48, Fact.eq undef), (49, Fact.eq undef), (50, Fact.eq undef), (51, Fact.eq undef), (52, Fact.eq undef), (53, Fact.eq undef), (54, Fact.eq undef), (55, Fact.eq (.bool false)), (56, Fact.eq (.bool false)), (57, Fact.at_ w3 (.pointer (some ⟨p, 0, none⟩))), (58, Fact.eq (.int .i64 X)), (59, Fact.eq (.bool true)), (60, Fact.eq (.bool true)), (61, Fact.at_ w3 (.pointer (some ⟨q, 0, none⟩))), (62, Fact.eq (.int .i64 U)), (63, Fact.eq (.bool false)), (64, Fact.eq (.bool false)), (65, Fact.at_ w3 (.pointer (some ⟨q, 0, none⟩))), (66, Fact.eq (.int .i64 U)), (67, Fact.at_ w3 (.pointer (some ⟨p, 0, none⟩))), (68, Fact.eq (.int .i64 X)), (69, Fact.eq (.bool false)), (70, Fact.eq (.bool false)), (71, Fact.eq (.bool false)), (72, Fact.eq (.bool false)), (73, Fact.eq (.bool false)), (74, Fact.at_ w3 (.pointer (some ⟨p, 1, none⟩))), (75, Fact.eq (.int .i64 Y)), (76, Fact.eq (.bool true)), (77, Fact.eq (.bool true)), (78, Fact.at_ w3 (.pointer (some ⟨q, 1, none⟩))), (79, Fact.eq (.int .i64 V)), (80, Fact.eq (.bool false)), (81, Fact.eq (.bool false)), (82, Fact.at_ w3 (.pointer (some ⟨q, 1, none⟩))), (83, Fact.eq (.int .i64 V)), (84, Fact.at_ w3 (.pointer (some ⟨p, 1, none⟩))), (85, Fact.eq (.int .i64 Y)), (86, Fact.eq (.bool false)), (87, Fact.eq (.bool false)), (88, Fact.eq (.bool false)), (89, Fact.eq (.bool false)), (90, Fact.eq (.bool false)), (91, Fact.at_ w3 (.pointer (some ⟨p, 1, none⟩))), (92, Fact.eq (.int .i64 Y)), (93, Fact.eq (.bool false)), (94, Fact.eq (.bool false)), (95, Fact.eq undef), (96, Fact.eq undef), (97, Fact.eq undef), (98, Fact.eq undef), (99, Fact.eq undef), (100, Fact.eq undef), (101, Fact.eq undef), (102, Fact.eq undef), (103, Fact.eq undef), (104, Fact.eq undef), (105, Fact.eq (.bool false)), (106, Fact.eq (.bool false))]) [7, 8] 121 [41, 42, 43, 44, 45, 46, 47, 48, 49, 50, 51, 52, 53, 54, 55, 56, 57, 58, 59, 60, 61, 62, 63, 64, 65, 66, 67, 68, 69, 70, 71, 72, 73, 74, 75, 76, 77, 78, 79, 80, 81, 82, 83, 84, 85, 86, 87, 88, 89, 90, 91, 92, 93, 94, 95, 96, 97, 98, 99, 100, 101, 102, 103, 104, 105, 106] rfl (by kernel_rfl) (by kernel_rfl) ?_ ?_ ?_
    · intro t ht
      simp only [List.mem_cons, List.not_mem_nil, or_false] at ht
      rcases ht with rfl | rfl
      · exact ⟨rfl, Below.refl _ _⟩
      · exact ⟨rfl, Below.refl _ _⟩
    · refine fcs ⟨ob_fieldat w3 7 41 0 32 ⟨p, 0, none⟩ ⟨p, 0, none⟩ rfl rfl (by first | exact .inl rfl | exact .inr ⟨_, _, _, rfl, rfl, by kernel_rfl, by decide, rfl⟩) (by kernel_rfl) rfl rfl (fun w => by go_simp), ?_⟩
      refine fcs ⟨ob_loadat w3 41 42 3 ⟨p, 0, none⟩ (.int .i64 X) rfl rfl (by first | exact .inl rfl | exact .inr ⟨_, _, _, rfl, rfl, by kernel_rfl, by decide, rfl⟩) (by kernel_rfl) rfl rfl (fun w' hb => load_i64 (P1.below hb).c0), ?_⟩
      refine fcs ⟨ob_gec 42 43 .i64 _ _ X 0 false x1 rfl rfl (by first | exact .inl rfl | exact .inr ⟨_, _, _, rfl, rfl, by kernel_rfl, by decide, rfl⟩) (by kernel_rfl) rfl rfl, ?_⟩
      refine fcs ⟨ob_copy 43 44 (.inl rfl) rfl (by first | exact .inl rfl | exact .inr ⟨_, _, _, rfl, rfl, by kernel_rfl, by decide, rfl⟩) (by kernel_rfl) rfl, ?_⟩
      refine fcs ⟨ob_skip 3 44 45 true rfl rfl (by kernel_rfl) (by decide) rfl rfl rfl, ?_⟩
      refine fcs ⟨ob_skip 3 44 46 true rfl rfl (by kernel_rfl) (by decide) rfl rfl rfl, ?_⟩
      refine fcs ⟨ob_skip 3 44 47 true rfl rfl (by kernel_rfl) (by decide) rfl rfl rfl, ?_⟩
      refine fcs ⟨ob_skip 3 44 48 true rfl rfl (by kernel_rfl) (by decide) rfl rfl rfl, ?_⟩
      refine fcs ⟨ob_skip2 7 48 49 false rfl rfl (by kernel_rfl) (by decide) rfl rfl rfl, ?_⟩
      refine fcs ⟨ob_skip2 7 48 50 false rfl rfl (by kernel_rfl) (by decide) rfl rfl rfl, ?_⟩
      refine fcs ⟨ob_skip2 7 48 51 false rfl rfl (by kernel_rfl) (by decide) rfl rfl rfl, ?_⟩
      refine fcs ⟨ob_skip2 7 48 52 false rfl rfl (by kernel_rfl) (by decide) rfl rfl rfl, ?_⟩
      refine fcs ⟨ob_skip2 7 48 53 false rfl rfl (by kernel_rfl) (by decide) rfl rfl rfl, ?_⟩
      refine fcs ⟨ob_skip 3 44 54 true rfl rfl (by kernel_rfl) (by decide) rfl rfl rfl, ?_⟩
      refine fcs ⟨ob_pick_no 44 54 55 _ rfl rfl (by first | exact .inl rfl | exact .inr ⟨_, _, _, rfl, rfl, by kernel_rfl, by decide, rfl⟩) (by kernel_rfl) rfl rfl, ?_⟩
      refine fcs ⟨ob_copy 55 56 (.inl rfl) rfl (by first | exact .inl rfl | exact .inr ⟨_, _, _, rfl, rfl, by kernel_rfl, by decide, rfl⟩) (by kernel_rfl) rfl, ?_⟩
      refine fcs ⟨ob_fieldat w3 7 57 0 32 ⟨p, 0, none⟩ ⟨p, 0, none⟩ rfl rfl (by first | exact .inl rfl | exact .inr ⟨_, _, _, rfl, rfl, by kernel_rfl, by decide, rfl⟩) (by kernel_rfl) rfl rfl (fun w => by go_simp), ?_⟩
      refine fcs ⟨ob_loadat w3 57 58 3 ⟨p, 0, none⟩ (.int .i64 X) rfl rfl (by first | exact .inl rfl | exact .inr ⟨_, _, _, rfl, rfl, by kernel_rfl, by decide, rfl⟩) (by kernel_rfl) rfl rfl (fun w' hb => load_i64 (P1.below hb).c0), ?_⟩
      refine fcs ⟨ob_lec 58 59 .i64 _ _ X 0 true x2 rfl rfl (by first | exact .inl rfl | exact .inr ⟨_, _, _, rfl, rfl, by kernel_rfl, by decide, rfl⟩) (by kernel_rfl) rfl rfl, ?_⟩
      refine fcs ⟨ob_copy 59 60 (.inl rfl) rfl (by first | exact .inl rfl | exact .inr ⟨_, _, _, rfl, rfl, by kernel_rfl, by decide, rfl⟩) (by kernel_rfl) rfl, ?_⟩
      refine fcs ⟨ob_fieldat w3 8 61 0 32 ⟨q, 0, none⟩ ⟨q, 0, none⟩ rfl rfl (by first | exact .inl rfl | exact .inr ⟨_, _, _, rfl, rfl, by kernel_rfl, by decide, rfl⟩) (by kernel_rfl) rfl rfl (fun w => by go_simp), ?_⟩
      refine fcs ⟨ob_loadat w3 61 62 3 ⟨q, 0, none⟩ (.int .i64 U) rfl rfl (by first | exact .inl rfl | exact .inr ⟨_, _, _, rfl, rfl, by kernel_rfl, by decide, rfl⟩) (by kernel_rfl) rfl rfl (fun w' hb => load_i64 (Q1.below hb).c0), ?_⟩
      refine fcs ⟨ob_gtc 62 63 .i64 _ _ U 0 false x3 rfl rfl (by first | exact .inl rfl | exact .inr ⟨_, _, _, rfl, rfl, by kernel_rfl, by decide, rfl⟩) (by kernel_rfl) rfl rfl, ?_⟩
      refine fcs ⟨ob_copy 63 64 (.inl rfl) rfl (by first | exact .inl rfl | exact .inr ⟨_, _, _, rfl, rfl, by kernel_rfl, by decide, rfl⟩) (by kernel_rfl) rfl, ?_⟩
      refine fcs ⟨ob_fieldat w3 8 65 0 32 ⟨q, 0, none⟩ ⟨q, 0, none⟩ rfl rfl (by first | exact .inl rfl | exact .inr ⟨_, _, _, rfl, rfl, by kernel_rfl, by decide, rfl⟩) (by kernel_rfl) rfl rfl (fun w => by go_simp), ?_⟩
      refine fcs ⟨ob_loadat w3 65 66 3 ⟨q, 0, none⟩ (.int .i64 U) rfl rfl (by first | exact .inl rfl | exact .inr ⟨_, _, _, rfl, rfl, by kernel_rfl, by decide, rfl⟩) (by kernel_rfl) rfl rfl (fun w' hb => load_i64 (Q1.below hb).c0), ?_⟩
      refine fcs ⟨ob_fieldat w3 7 67 0 32 ⟨p, 0, none⟩ ⟨p, 0, none⟩ rfl rfl (by first | exact .inl rfl | exact .inr ⟨_, _, _, rfl, rfl, by kernel_rfl, by decide, rfl⟩) (by kernel_rfl) rfl rfl (fun w => by go_simp), ?_⟩
      refine fcs ⟨ob_loadat w3 67 68 3 ⟨p, 0, none⟩ (.int .i64 X) rfl rfl (by first | exact .inl rfl | exact .inr ⟨_, _, _, rfl, rfl, by kernel_rfl, by decide, rfl⟩) (by kernel_rfl) rfl rfl (fun w' hb => load_i64 (P1.below hb).c0), ?_⟩
      refine fcs ⟨ob_lt2 .i64 66 68 69 U X false _ _ x4 rfl rfl (by first | exact .inl rfl | exact .inr ⟨_, _, _, rfl, rfl, by kernel_rfl, by decide, rfl⟩) (by kernel_rfl) (by kernel_rfl) rfl rfl rfl, ?_⟩
      refine fcs ⟨ob_pick_else 64 69 70 _ rfl rfl (by first | exact .inl rfl | exact .inr ⟨_, _, _, rfl, rfl, by kernel_rfl, by decide, rfl⟩) (by kernel_rfl) (by kernel_rfl) rfl rfl, ?_⟩
      refine fcs ⟨ob_pick 60 70 71 _ rfl rfl (by first | exact .inl rfl | exact .inr ⟨_, _, _, rfl, rfl, by kernel_rfl, by decide, rfl⟩) (by kernel_rfl) (by kernel_rfl) rfl rfl, ?_⟩
      refine fcs ⟨ob_pick_else 56 71 72 _ rfl rfl (by first | exact .inl rfl | exact .inr ⟨_, _, _, rfl, rfl, by kernel_rfl, by decide, rfl⟩) (by kernel_rfl) (by kernel_rfl) rfl rfl, ?_⟩
      refine fcs ⟨ob_copy 72 73 (.inl rfl) rfl (by first | exact .inl rfl | exact .inr ⟨_, _, _, rfl, rfl, by kernel_rfl, by decide, rfl⟩) (by kernel_rfl) rfl, ?_⟩
      refine fcs ⟨ob_fieldat w3 7 74 1 32 ⟨p, 0, none⟩ ⟨p, 1, none⟩ rfl rfl (by first | exact .inl rfl | exact .inr ⟨_, _, _, rfl, rfl, by kernel_rfl, by decide, rfl⟩) (by kernel_rfl) rfl rfl (fun w => by go_simp), ?_⟩
      refine fcs ⟨ob_loadat w3 74 75 3 ⟨p, 1, none⟩ (.int .i64 Y) rfl rfl (by first | exact .inl rfl | exact .inr ⟨_, _, _, rfl, rfl, by kernel_rfl, by decide, rfl⟩) (by kernel_rfl) rfl rfl (fun w' hb => load_i64 (P1.below hb).c1), ?_⟩
      refine fcs ⟨ob_gec 75 76 .i64 _ _ Y 0 true y1 rfl rfl (by first | exact .inl rfl | exact .inr ⟨_, _, _, rfl, rfl, by kernel_rfl, by decide, rfl⟩) (by kernel_rfl) rfl rfl, ?_⟩
      refine fcs ⟨ob_copy 76 77 (.inl rfl) rfl (by first | exact .inl rfl | exact .inr ⟨_, _, _, rfl, rfl, by kernel_rfl, by decide, rfl⟩) (by kernel_rfl) rfl, ?_⟩
      refine fcs ⟨ob_fieldat w3 8 78 1 32 ⟨q, 0, none⟩ ⟨q, 1, none⟩ rfl rfl (by first | exact .inl rfl | exact .inr ⟨_, _, _, rfl, rfl, by kernel_rfl, by decide, rfl⟩) (by kernel_rfl) rfl rfl (fun w => by go_simp), ?_⟩
      refine fcs ⟨ob_loadat w3 78 79 3 ⟨q, 1, none⟩ (.int .i64 V) rfl rfl (by first | exact .inl rfl | exact .inr ⟨_, _, _, rfl, rfl, by kernel_rfl, by decide, rfl⟩) (by kernel_rfl) rfl rfl (fun w' hb => load_i64 (Q1.below hb).c1), ?_⟩
      refine fcs ⟨ob_ltc 79 80 .i64 _ _ V 0 false y3 rfl rfl (by first | exact .inl rfl | exact .inr ⟨_, _, _, rfl, rfl, by kernel_rfl, by decide, rfl⟩) (by kernel_rfl) rfl rfl, ?_⟩
      refine fcs ⟨ob_copy 80 81 (.inl rfl) rfl (by first | exact .inl rfl | exact .inr ⟨_, _, _, rfl, rfl, by kernel_rfl, by decide, rfl⟩) (by kernel_rfl) rfl, ?_⟩
      refine fcs ⟨ob_fieldat w3 8 82 1 32 ⟨q, 0, none⟩ ⟨q, 1, none⟩ rfl rfl (by first | exact .inl rfl | exact .inr ⟨_, _, _, rfl, rfl, by kernel_rfl, by decide, rfl⟩) (by kernel_rfl) rfl rfl (fun w => by go_simp), ?_⟩
      refine fcs ⟨ob_loadat w3 82 83 3 ⟨q, 1, none⟩ (.int .i64 V) rfl rfl (by first | exact .inl rfl | exact .inr ⟨_, _, _, rfl, rfl, by kernel_rfl, by decide, rfl⟩) (by kernel_rfl) rfl rfl (fun w' hb => load_i64 (Q1.below hb).c1), ?_⟩
      refine fcs ⟨ob_fieldat w3 7 84 1 32 ⟨p, 0, none⟩ ⟨p, 1, none⟩ rfl rfl (by first | exact .inl rfl | exact .inr ⟨_, _, _, rfl, rfl, by kernel_rfl, by decide, rfl⟩) (by kernel_rfl) rfl rfl (fun w => by go_simp), ?_⟩
      refine fcs ⟨ob_loadat w3 84 85 3 ⟨p, 1, none⟩ (.int .i64 Y) rfl rfl (by first | exact .inl rfl | exact .inr ⟨_, _, _, rfl, rfl, by kernel_rfl, by decide, rfl⟩) (by kernel_rfl) rfl rfl (fun w' hb => load_i64 (P1.below hb).c1), ?_⟩
      refine fcs ⟨ob_gt2 .i64 83 85 86 V Y false _ _ y4 rfl rfl (by first | exact .inl rfl | exact .inr ⟨_, _, _, rfl, rfl, by kernel_rfl, by decide, rfl⟩) (by kernel_rfl) (by kernel_rfl) rfl rfl rfl, ?_⟩
      refine fcs ⟨ob_pick_else 81 86 87 _ rfl rfl (by first | exact .inl rfl | exact .inr ⟨_, _, _, rfl, rfl, by kernel_rfl, by decide, rfl⟩) (by kernel_rfl) (by kernel_rfl) rfl rfl, ?_⟩
      refine fcs ⟨ob_pick 77 87 88 _ rfl rfl (by first | exact .inl rfl | exact .inr ⟨_, _, _, rfl, rfl, by kernel_rfl, by decide, rfl⟩) (by kernel_rfl) (by kernel_rfl) rfl rfl, ?_⟩
      refine fcs ⟨ob_pick_else 73 88 89 _ rfl rfl (by first | exact .inl rfl | exact .inr ⟨_, _, _, rfl, rfl, by kernel_rfl, by decide, rfl⟩) (by kernel_rfl) (by kernel_rfl) rfl rfl, ?_⟩
      refine fcs ⟨ob_copy 89 90 (.inl rfl) rfl (by first | exact .inl rfl | exact .inr ⟨_, _, _, rfl, rfl, by kernel_rfl, by decide, rfl⟩) (by kernel_rfl) rfl, ?_⟩
      refine fcs ⟨ob_fieldat w3 7 91 1 32 ⟨p, 0, none⟩ ⟨p, 1, none⟩ rfl rfl (by first | exact .inl rfl | exact .inr ⟨_, _, _, rfl, rfl, by kernel_rfl, by decide, rfl⟩) (by kernel_rfl) rfl rfl (fun w => by go_simp), ?_⟩
      refine fcs ⟨ob_loadat w3 91 92 3 ⟨p, 1, none⟩ (.int .i64 Y) rfl rfl (by first | exact .inl rfl | exact .inr ⟨_, _, _, rfl, rfl, by kernel_rfl, by decide, rfl⟩) (by kernel_rfl) rfl rfl (fun w' hb => load_i64 (P1.below hb).c1), ?_⟩
      refine fcs ⟨ob_lec 92 93 .i64 _ _ Y 0 false y2 rfl rfl (by first | exact .inl rfl | exact .inr ⟨_, _, _, rfl, rfl, by kernel_rfl, by decide, rfl⟩) (by kernel_rfl) rfl rfl, ?_⟩
      refine fcs ⟨ob_copy 93 94 (.inl rfl) rfl (by first | exact .inl rfl | exact .inr ⟨_, _, _, rfl, rfl, by kernel_rfl, by decide, rfl⟩) (by kernel_rfl) rfl, ?_⟩
      refine fcs ⟨ob_skip 53 94 95 true rfl rfl (by kernel_rfl) (by decide) rfl rfl rfl, ?_⟩
      refine fcs ⟨ob_skip 53 94 96 true rfl rfl (by kernel_rfl) (by decide) rfl rfl rfl, ?_⟩
      refine fcs ⟨ob_skip 53 94 97 true rfl rfl (by kernel_rfl) (by decide) rfl rfl rfl, ?_⟩
      refine fcs ⟨ob_skip 53 94 98 true rfl rfl (by kernel_rfl) (by decide) rfl rfl rfl, ?_⟩
      refine fcs ⟨ob_skip2 57 98 99 false rfl rfl (by kernel_rfl) (by decide) rfl rfl rfl, ?_⟩
      refine fcs ⟨ob_skip2 57 98 100 false rfl rfl (by kernel_rfl) (by decide) rfl rfl rfl, ?_⟩
      refine fcs ⟨ob_skip2 57 98 101 false rfl rfl (by kernel_rfl) (by decide) rfl rfl rfl, ?_⟩
      refine fcs ⟨ob_skip2 57 98 102 false rfl rfl (by kernel_rfl) (by decide) rfl rfl rfl, ?_⟩
      refine fcs ⟨ob_skip2 57 98 103 false rfl rfl (by kernel_rfl) (by decide) rfl rfl rfl, ?_⟩
      refine fcs ⟨ob_skip 53 94 104 true rfl rfl (by kernel_rfl) (by decide) rfl rfl rfl, ?_⟩
      refine fcs ⟨ob_pick_no 94 104 105 _ rfl rfl (by first | exact .inl rfl | exact .inr ⟨_, _, _, rfl, rfl, by kernel_rfl, by decide, rfl⟩) (by kernel_rfl) rfl rfl, ?_⟩
      refine fcs ⟨ob_pick_else 90 105 106 _ rfl rfl (by first | exact .inl rfl | exact .inr ⟨_, _, _, rfl, rfl, by kernel_rfl, by decide, rfl⟩) (by kernel_rfl) (by kernel_rfl) rfl rfl, ?_⟩
      exact fnl
    intro vv w4 hvv hbv
    have hv106 : vv 106 = (.bool false) := hvv 106 (by decide)
    simp only [lay, List.foldl_cons, List.foldl_nil, List.setIfInBounds_toArray, List.set_cons_succ, List.set_cons_zero, hv106]
    clear hvv
    have P1 := P1.below hbv
    have Q1 := Q1.below hbv
    have hB := up hB hbv
    clear hbv
    have k1 := P1.c0
    have k2 := P1.c1
    have k3 := Q1.c0
    have k4 := Q1.c1
    go_wp2_with fail
    refine (c3 _).mono ?_
    rintro e w5 ⟨rfl, hb3⟩
    have P1 := P1.below hb3
    have Q1 := Q1.below hb3
    have hB := up hB hb3
    clear hb3 k1 k2 k3 k4
    have k1 := P1.c0
    have k2 := P1.c1
    have k3 := Q1.c0
    have k4 := Q1.c1
    go_wp2_with fail
    refine (awake_any _).mono ?_
    rintro e w6 ⟨rfl, hb4⟩
    go_wp2_with fail
    go_ret
    exact ⟨by rfl, up hB hb4⟩
  · refine wp_region_off (FF [(7, Fact.at_ w3 (.pointer (some ⟨p, 0, none⟩))), (8, Fact.at_ w3 (.pointer (some ⟨q, 0, none⟩))), (41, Fact.at_ w3 (.pointer (some ⟨p, 0, none⟩))), (42, Fact.eq (.int .i64 X)), (43, Fact.eq (.bool false)), (44, Fact.eq (.bool false)), (45, Fact.eq undef), (46, Fact.eq undef), (47, Fact.eq undef), (48, Fact.eq undef), (49, Fact.eq undef), (50, Fact.eq undef), (51, Fact.eq undef), (52, Fact.eq undef), (53, Fact.eq undef), (54, Fact.eq undef), (55, Fact.eq (.bool false)), (56, Fact.eq (.bool false)), (57, Fact.at_ w3 (.pointer (some ⟨p, 0, none⟩))), (58, Fact.eq (.int .i64 X)), (59, Fact.eq (.bool true)), (60, Fact.eq (.bool true)), (61, Fact.at_ w3 (.pointer (some ⟨q, 0, none⟩))), (62, Fact.eq (.int .i64 U)), (63, Fact.eq (.bool false)), (64, Fact.eq (.bool false)), (65, Fact.at_ w3 (.pointer (some ⟨q, 0, none⟩))), (66, Fact.eq (.int .i64 U)), (67, Fact.at_ w3 (.pointer (some ⟨p, 0, none⟩))), (68, Fact.eq (.int .i64 X)), (69, Fact.eq (.bool false)), (70, Fact.eq (.bool false)), (71, Fact.eq (.bool false)), (72, Fact.eq (.bool false)), (73, Fact.eq (.bool false)), (74, Fact.at_ w3 (.pointer (some ⟨p, 1, none⟩))), (75, Fact.eq (.int .i64 Y)), (76, Fact.eq (.bool false)), (77, Fact.eq (.bool false)), (78, Fact.eq undef), (79, Fact.eq undef), (80, Fact.eq undef), (81, Fact.eq undef), (82, Fact.eq undef), (83, Fact.eq undef), (84, Fact.eq undef), (85, Fact.eq undef), (86, Fact.eq undef), (87, Fact.eq undef), (88, Fact.eq (.bool false)), (89, Fact.eq (.bool false)), (90, Fact.eq (.bool false)), (91, Fact.at_ w3 (.pointer (some ⟨p, 1, none⟩))), (92, Fact.eq (.int .i64 Y)), (93, Fact.eq (.bool true)), (94, Fact.eq (.bool true)), (95, Fact.at_ w3 (.pointer (some ⟨q, 1, none⟩))), (96, Fact.eq (.int .i64 V)), (97, Fact.eq (.bool false)), (98, Fact.eq (.bool false)), (99, Fact.at_ w3 (.pointer (some ⟨q, 1, none⟩))), (100, Fact.eq (.int .i64 V)), (101, Fact.at_ w3 (.pointer (some ⟨p, 1, none⟩))), (102, Fact.eq (.int .i64 Y)), (103, Fact.eq (.bool false)), (104, Fact.eq (.bool false)), (105, Fact.eq (.bool false)), (106, Fact.eq (.bool false))]) [7, 8] 121 [41, 42, 43, 44, 45, 46, 47, 48, 49, 50, 51, 52, 53, 54, 55, 56, 57, 58, 59, 60, 61, 62, 63, 64, 65, 66, 67, 68, 69, 70, 71, 72, 73, 74, 75, 76, 77, 78, 79, 80, 81, 82, 83, 84, 85, 86, 87, 88, 89, 90, 91, 92, 93, 94, 95, 96, 97, 98, 99, 100, 101, 102, 103, 104, 105, 106] rfl (by kernel_rfl) (by kernel_rfl) ?_ ?_ ?_
    · intro t ht
      simp only [List.mem_cons, List.not_mem_nil, or_false] at ht
      rcases ht with rfl | rfl
      · exact ⟨rfl, Below.refl _ _⟩
      · exact ⟨rfl, Below.refl _ _⟩
    · refine fcs ⟨ob_fieldat w3 7 41 0 32 ⟨p, 0, none⟩ ⟨p, 0, none⟩ rfl rfl (by first | exact .inl rfl | exact .inr ⟨_, _, _, rfl, rfl, by kernel_rfl, by decide, rfl⟩) (by kernel_rfl) rfl rfl (fun w => by go_simp), ?_⟩
      refine fcs ⟨ob_loadat w3 41 42 3 ⟨p, 0, none⟩ (.int .i64 X) rfl rfl (by first | exact .inl rfl | exact .inr ⟨_, _, _, rfl, rfl, by kernel_rfl, by decide, rfl⟩) (by kernel_rfl) rfl rfl (fun w' hb => load_i64 (P1.below hb).c0), ?_⟩
      refine fcs ⟨ob_gec 42 43 .i64 _ _ X 0 false x1 rfl rfl (by first | exact .inl rfl | exact .inr ⟨_, _, _, rfl, rfl, by kernel_rfl, by decide, rfl⟩) (by kernel_rfl) rfl rfl, ?_⟩
      refine fcs ⟨ob_copy 43 44 (.inl rfl) rfl (by first | exact .inl rfl | exact .inr ⟨_, _, _, rfl, rfl, by kernel_rfl, by decide, rfl⟩) (by kernel_rfl) rfl, ?_⟩
      refine fcs ⟨ob_skip 3 44 45 true rfl rfl (by kernel_rfl) (by decide) rfl rfl rfl, ?_⟩
      refine fcs ⟨ob_skip 3 44 46 true rfl rfl (by kernel_rfl) (by decide) rfl rfl rfl, ?_⟩
      refine fcs ⟨ob_skip 3 44 47 true rfl rfl (by kernel_rfl) (by decide) rfl rfl rfl, ?_⟩
      refine fcs ⟨ob_skip 3 44 48 true rfl rfl (by kernel_rfl) (by decide) rfl rfl rfl, ?_⟩
      refine fcs ⟨ob_skip2 7 48 49 false rfl rfl (by kernel_rfl) (by decide) rfl rfl rfl, ?_⟩
      refine fcs ⟨ob_skip2 7 48 50 false rfl rfl (by kernel_rfl) (by decide) rfl rfl rfl, ?_⟩
      refine fcs ⟨ob_skip2 7 48 51 false rfl rfl (by kernel_rfl) (by decide) rfl rfl rfl, ?_⟩
      refine fcs ⟨ob_skip2 7 48 52 false rfl rfl (by kernel_rfl) (by decide) rfl rfl rfl, ?_⟩
      refine fcs ⟨ob_skip2 7 48 53 false rfl rfl (by kernel_rfl) (by decide) rfl rfl rfl, ?_⟩
      refine fcs ⟨ob_skip 3 44 54 true rfl rfl (by kernel_rfl) (by decide) rfl rfl rfl, ?_⟩
      refine fcs ⟨ob_pick_no 44 54 55 _ rfl rfl (by first | exact .inl rfl | exact .inr ⟨_, _, _, rfl, rfl, by kernel_rfl, by decide, rfl⟩) (by kernel_rfl) rfl rfl, ?_⟩
      refine fcs ⟨ob_copy 55 56 (.inl rfl) rfl (by first | exact .inl rfl | exact .inr ⟨_, _, _, rfl, rfl, by kernel_rfl, by decide, rfl⟩) (by kernel_rfl) rfl, ?_⟩
      refine fcs ⟨ob_fieldat w3 7 57 0 32 ⟨p, 0, none⟩ ⟨p, 0, none⟩ rfl rfl (by first | exact .inl rfl | exact .inr ⟨_, _, _, rfl, rfl, by kernel_rfl, by decide, rfl⟩) (by kernel_rfl) rfl rfl (fun w => by go_simp), ?_⟩
      refine fcs ⟨ob_loadat w3 57 58 3 ⟨p, 0, none⟩ (.int .i64 X) rfl rfl (by first | exact .inl rfl | exact .inr ⟨_, _, _, rfl, rfl, by kernel_rfl, by decide, rfl⟩) (by kernel_rfl) rfl rfl (fun w' hb => load_i64 (P1.below hb).c0), ?_⟩
      refine fcs ⟨ob_lec 58 59 .i64 _ _ X 0 true x2 rfl rfl (by first | exact .inl rfl | exact .inr ⟨_, _, _, rfl, rfl, by kernel_rfl, by decide, rfl⟩) (by kernel_rfl) rfl rfl, ?_⟩
      refine fcs ⟨ob_copy 59 60 (.inl rfl) rfl (by first | exact .inl rfl | exact .inr ⟨_, _, _, rfl, rfl, by kernel_rfl, by decide, rfl⟩) (by kernel_rfl) rfl, ?_⟩
      refine fcs ⟨ob_fieldat w3 8 61 0 32 ⟨q, 0, none⟩ ⟨q, 0, none⟩ rfl rfl (by first | exact .inl rfl | exact .inr ⟨_, _, _, rfl, rfl, by kernel_rfl, by decide, rfl⟩) (by kernel_rfl) rfl rfl (fun w => by go_simp), ?_⟩
      refine fcs ⟨ob_loadat w3 61 62 3 ⟨q, 0, none⟩ (.int .i64 U) rfl rfl (by first | exact .inl rfl | exact .inr ⟨_, _, _, rfl, rfl, by kernel_rfl, by decide, rfl⟩) (by kernel_rfl) rfl rfl (fun w' hb => load_i64 (Q1.below hb).c0), ?_⟩
      refine fcs ⟨ob_gtc 62 63 .i64 _ _ U 0 false x3 rfl rfl (by first | exact .inl rfl | exact .inr ⟨_, _, _, rfl, rfl, by kernel_rfl, by decide, rfl⟩) (by kernel_rfl) rfl rfl, ?_⟩
      refine fcs ⟨ob_copy 63 64 (.inl rfl) rfl (by first | exact .inl rfl | exact .inr ⟨_, _, _, rfl, rfl, by kernel_rfl, by decide, rfl⟩) (by kernel_rfl) rfl, ?_⟩
      refine fcs ⟨ob_fieldat w3 8 65 0 32 ⟨q, 0, none⟩ ⟨q, 0, none⟩ rfl rfl (by first | exact .inl rfl | exact .inr ⟨_, _, _, rfl, rfl, by kernel_rfl, by decide, rfl⟩) (by kernel_rfl) rfl rfl (fun w => by go_simp), ?_⟩
      refine fcs ⟨ob_loadat w3 65 66 3 ⟨q, 0, none⟩ (.int .i64 U) rfl rfl (by first | exact .inl rfl | exact .inr ⟨_, _, _, rfl, rfl, by kernel_rfl, by decide, rfl⟩) (by kernel_rfl) rfl rfl (fun w' hb => load_i64 (Q1.below hb).c0), ?_⟩
      refine fcs ⟨ob_fieldat w3 7 67 0 32 ⟨p, 0, none⟩ ⟨p, 0, none⟩ rfl rfl (by first | exact .inl rfl | exact .inr ⟨_, _, _, rfl, rfl, by kernel_rfl, by decide, rfl⟩) (by kernel_rfl) rfl rfl (fun w => by go_simp), ?_⟩
      refine fcs ⟨ob_loadat w3 67 68 3 ⟨p, 0, none⟩ (.int .i64 X) rfl rfl (by first | exact .inl rfl | exact .inr ⟨_, _, _, rfl, rfl, by kernel_rfl, by decide, rfl⟩) (by kernel_rfl) rfl rfl (fun w' hb => load_i64 (P1.below hb).c0), ?_⟩
      refine fcs ⟨ob_lt2 .i64 66 68 69 U X false _ _ x4 rfl rfl (by first | exact .inl rfl | exact .inr ⟨_, _, _, rfl, rfl, by kernel_rfl, by decide, rfl⟩) (by kernel_rfl) (by kernel_rfl) rfl rfl rfl, ?_⟩
      refine fcs ⟨ob_pick_else 64 69 70 _ rfl rfl (by first | exact .inl rfl | exact .inr ⟨_, _, _, rfl, rfl, by kernel_rfl, by decide, rfl⟩) (by kernel_rfl) (by kernel_rfl) rfl rfl, ?_⟩
      refine fcs ⟨ob_pick 60 70 71 _ rfl rfl (by first | exact .inl rfl | exact .inr ⟨_, _, _, rfl, rfl, by kernel_rfl, by decide, rfl⟩) (by kernel_rfl) (by kernel_rfl) rfl rfl, ?_⟩
      refine fcs ⟨ob_pick_else 56 71 72 _ rfl rfl (by first | exact .inl rfl | exact .inr ⟨_, _, _, rfl, rfl, by kernel_rfl, by decide, rfl⟩) (by kernel_rfl) (by kernel_rfl) rfl rfl, ?_⟩
      refine fcs ⟨ob_copy 72 73 (.inl rfl) rfl (by first | exact .inl rfl | exact .inr ⟨_, _, _, rfl, rfl, by kernel_rfl, by decide, rfl⟩) (by kernel_rfl) rfl, ?_⟩
      refine fcs ⟨ob_fieldat w3 7 74 1 32 ⟨p, 0, none⟩ ⟨p, 1, none⟩ rfl rfl (by first | exact .inl rfl | exact .inr ⟨_, _, _, rfl, rfl, by kernel_rfl, by decide, rfl⟩) (by kernel_rfl) rfl rfl (fun w => by go_simp), ?_⟩
      refine fcs ⟨ob_loadat w3 74 75 3 ⟨p, 1, none⟩ (.int .i64 Y) rfl rfl (by first | exact .inl rfl | exact .inr ⟨_, _, _, rfl, rfl, by kernel_rfl, by decide, rfl⟩) (by kernel_rfl) rfl rfl (fun w' hb => load_i64 (P1.below hb).c1), ?_⟩
      refine fcs ⟨ob_gec 75 76 .i64 _ _ Y 0 false y1 rfl rfl (by first | exact .inl rfl | exact .inr ⟨_, _, _, rfl, rfl, by kernel_rfl, by decide, rfl⟩) (by kernel_rfl) rfl rfl, ?_⟩
      refine fcs ⟨ob_copy 76 77 (.inl rfl) rfl (by first | exact .inl rfl | exact .inr ⟨_, _, _, rfl, rfl, by kernel_rfl, by decide, rfl⟩) (by kernel_rfl) rfl, ?_⟩
      refine fcs ⟨ob_skip 36 77 78 true rfl rfl (by kernel_rfl) (by decide) rfl rfl rfl, ?_⟩
      refine fcs ⟨ob_skip 36 77 79 true rfl rfl (by kernel_rfl) (by decide) rfl rfl rfl, ?_⟩
      refine fcs ⟨ob_skip 36 77 80 true rfl rfl (by kernel_rfl) (by decide) rfl rfl rfl, ?_⟩
      refine fcs ⟨ob_skip 36 77 81 true rfl rfl (by kernel_rfl) (by decide) rfl rfl rfl, ?_⟩
      refine fcs ⟨ob_skip2 40 81 82 false rfl rfl (by kernel_rfl) (by decide) rfl rfl rfl, ?_⟩
      refine fcs ⟨ob_skip2 40 81 83 false rfl rfl (by kernel_rfl) (by decide) rfl rfl rfl, ?_⟩
      refine fcs ⟨ob_skip2 40 81 84 false rfl rfl (by kernel_rfl) (by decide) rfl rfl rfl, ?_⟩
      refine fcs ⟨ob_skip2 40 81 85 false rfl rfl (by kernel_rfl) (by decide) rfl rfl rfl, ?_⟩
      refine fcs ⟨ob_skip2 40 81 86 false rfl rfl (by kernel_rfl) (by decide) rfl rfl rfl, ?_⟩
      refine fcs ⟨ob_skip 36 77 87 true rfl rfl (by kernel_rfl) (by decide) rfl rfl rfl, ?_⟩
      refine fcs ⟨ob_pick_no 77 87 88 _ rfl rfl (by first | exact .inl rfl | exact .inr ⟨_, _, _, rfl, rfl, by kernel_rfl, by decide, rfl⟩) (by kernel_rfl) rfl rfl, ?_⟩
      refine fcs ⟨ob_pick_else 73 88 89 _ rfl rfl (by first | exact .inl rfl | exact .inr ⟨_, _, _, rfl, rfl, by kernel_rfl, by decide, rfl⟩) (by kernel_rfl) (by kernel_rfl) rfl rfl, ?_⟩
      refine fcs ⟨ob_copy 89 90 (.inl rfl) rfl (by first | exact .inl rfl | exact .inr ⟨_, _, _, rfl, rfl, by kernel_rfl, by decide, rfl⟩) (by kernel_rfl) rfl, ?_⟩
      refine fcs ⟨ob_fieldat w3 7 91 1 32 ⟨p, 0, none⟩ ⟨p, 1, none⟩ rfl rfl (by first | exact .inl rfl | exact .inr ⟨_, _, _, rfl, rfl, by kernel_rfl, by decide, rfl⟩) (by kernel_rfl) rfl rfl (fun w => by go_simp), ?_⟩
      refine fcs ⟨ob_loadat w3 91 92 3 ⟨p, 1, none⟩ (.int .i64 Y) rfl rfl (by first | exact .inl rfl | exact .inr ⟨_, _, _, rfl, rfl, by kernel_rfl, by decide, rfl⟩) (by kernel_rfl) rfl rfl (fun w' hb => load_i64 (P1.below hb).c1), ?_⟩
      refine fcs ⟨ob_lec 92 93 .i64 _ _ Y 0 true y2 rfl rfl (by first | exact .inl rfl | exact .inr ⟨_, _, _, rfl, rfl, by kernel_rfl, by decide, rfl⟩) (by kernel_rfl) rfl rfl, ?_⟩
      refine fcs ⟨ob_copy 93 94 (.inl rfl) rfl (by first | exact .inl rfl | exact .inr ⟨_, _, _, rfl, rfl, by kernel_rfl, by decide, rfl⟩) (by kernel_rfl) rfl, ?_⟩
      refine fcs ⟨ob_fieldat w3 8 95 1 32 ⟨q, 0, none⟩ ⟨q, 1, none⟩ rfl rfl (by first | exact .inl rfl | exact .inr ⟨_, _, _, rfl, rfl, by kernel_rfl, by decide, rfl⟩) (by kernel_rfl) rfl rfl (fun w => by go_simp), ?_⟩
      refine fcs ⟨ob_loadat w3 95 96 3 ⟨q, 1, none⟩ (.int .i64 V) rfl rfl (by first | exact .inl rfl | exact .inr ⟨_, _, _, rfl, rfl, by kernel_rfl, by decide, rfl⟩) (by kernel_rfl) rfl rfl (fun w' hb => load_i64 (Q1.below hb).c1), ?_⟩
      refine fcs ⟨ob_gtc 96 97 .i64 _ _ V 0 false y3 rfl rfl (by first | exact .inl rfl | exact .inr ⟨_, _, _, rfl, rfl, by kernel_rfl, by decide, rfl⟩) (by kernel_rfl) rfl rfl, ?_⟩
      refine fcs ⟨ob_copy 97 98 (.inl rfl) rfl (by first | exact .inl rfl | exact .inr ⟨_, _, _, rfl, rfl, by kernel_rfl, by decide, rfl⟩) (by kernel_rfl) rfl, ?_⟩
      refine fcs ⟨ob_fieldat w3 8 99 1 32 ⟨q, 0, none⟩ ⟨q, 1, none⟩ rfl rfl (by first | exact .inl rfl | exact .inr ⟨_, _, _, rfl, rfl, by kernel_rfl, by decide, rfl⟩) (by kernel_rfl) rfl rfl (fun w => by go_simp), ?_⟩
      refine fcs ⟨ob_loadat w3 99 100 3 ⟨q, 1, none⟩ (.int .i64 V) rfl rfl (by first | exact .inl rfl | exact .inr ⟨_, _, _, rfl, rfl, by kernel_rfl, by decide, rfl⟩) (by kernel_rfl) rfl rfl (fun w' hb => load_i64 (Q1.below hb).c1), ?_⟩
      refine fcs ⟨ob_fieldat w3 7 101 1 32 ⟨p, 0, none⟩ ⟨p, 1, none⟩ rfl rfl (by first | exact .inl rfl | exact .inr ⟨_, _, _, rfl, rfl, by kernel_rfl, by decide, rfl⟩) (by kernel_rfl) rfl rfl (fun w => by go_simp), ?_⟩
      refine fcs ⟨ob_loadat w3 101 102 3 ⟨p, 1, none⟩ (.int .i64 Y) rfl rfl (by first | exact .inl rfl | exact .inr ⟨_, _, _, rfl, rfl, by kernel_rfl, by decide, rfl⟩) (by kernel_rfl) rfl rfl (fun w' hb => load_i64 (P1.below hb).c1), ?_⟩
      refine fcs ⟨ob_lt2 .i64 100 102 103 V Y false _ _ y4 rfl rfl (by first | exact .inl rfl | exact .inr ⟨_, _, _, rfl, rfl, by kernel_rfl, by decide, rfl⟩) (by kernel_rfl) (by kernel_rfl) rfl rfl rfl, ?_⟩
      refine fcs ⟨ob_pick_else 98 103 104 _ rfl rfl (by first | exact .inl rfl | exact .inr ⟨_, _, _, rfl, rfl, by kernel_rfl, by decide, rfl⟩) (by kernel_rfl) (by kernel_rfl) rfl rfl, ?_⟩
      refine fcs ⟨ob_pick 94 104 105 _ rfl rfl (by first | exact .inl rfl | exact .inr ⟨_, _, _, rfl, rfl, by kernel_rfl, by decide, rfl⟩) (by kernel_rfl) (by kernel_rfl) rfl rfl, ?_⟩
      refine fcs ⟨ob_pick_else 90 105 106 _ rfl rfl (by first | exact .inl rfl | exact .inr ⟨_, _, _, rfl, rfl, by kernel_rfl, by decide, rfl⟩) (by kernel_rfl) (by kernel_rfl) rfl rfl, ?_⟩
      exact fnl
    intro vv w4 hvv hbv
    have hv106 : vv 106 = (.bool false) := hvv 106 (by decide)
    simp only [lay, List.foldl_cons, List.foldl_nil, List.setIfInBounds_toArray, List.set_cons_succ, List.set_cons_zero, hv106]
    clear hvv
    have P1 := P1.below hbv
    have Q1 := Q1.below hbv
    have hB := up hB hbv
    clear hbv
    have k1 := P1.c0
    have k2 := P1.c1
    have k3 := Q1.c0
    have k4 := Q1.c1
    go_wp2_with fail
    refine (c3 _).mono ?_
    rintro e w5 ⟨rfl, hb3⟩
    have P1 := P1.below hb3
    have Q1 := Q1.below hb3
    have hB := up hB hb3
    clear hb3 k1 k2 k3 k4
    have k1 := P1.c0
    have k2 := P1.c1
    have k3 := Q1.c0
    have k4 := Q1.c1
    go_wp2_with fail
    refine (awake_any _).mono ?_
    rintro e w6 ⟨rfl, hb4⟩
    go_wp2_with fail
    go_ret
    exact ⟨by rfl, up hB hb4⟩
end Go.Proofs.Ytgfahenhobnjpaa

/-
  The law FractionOrders.
  An argument that is a fraction, opened: a sign and two slices of digits. No conditions.
  The row and the tied card of FractionOrders, proved: whatever the input, the law returns true, and the input reads as it did. No conditions.
-/
import Derived.Deep.Strs
import Derived.Test.YtjfehdkfogdpgaaDoorTie
import Derived.Test.YtjfehdkfogdpgaaDoorCards
import Derived.LaidMore
import Derived.Lay
import Derived.SevenTiedAt
import Derived.Stop.Joined
import Derived.ChangeMaps5
import Derived.Test.YtjfehdkfogdpgaaDoorOrE
namespace Go.Proofs.YtjfehdkfogdpgaaDoor
open Go.RowKit
theorem cp_neg (x y : Rat) : IntKind.i64.wrap (-(Rt.cp x y)) = -(Rt.cp x y) := by
  have := Rt.cp_bd x y
  rw [IntKind.wrap_i64]; omega
theorem bne_no {x y : Int} (h : x = y) : (x != y) = false := by subst h; exact bne_self_eq_false x
theorem beq_ok {x y : Int} (h : x = y) : (x == y) = true := by subst h; exact beq_self_eq_true x
theorem or_zero (x y : Rat) : ((Rt.cp x y == 0) != (decide (x = y))) = false := by
  by_cases h : x = y
  · rw [decide_eq_true h, beq_ok (Rt.cp_zero.2 h)]; rfl
  · rw [decide_eq_false h, beq_eq_false_iff_ne.2 fun e => h (Rt.cp_zero.1 e)]; rfl
theorem or_trans {x y z : Rat} (h1 : decide (Rt.cp x y ≤ 0) = true) (h2 : decide (Rt.cp y z ≤ 0) = true) : decide (Rt.cp x z > 0) = false := by
  refine decide_eq_false fun h => ?_
  have := Rt.cp_le.2 (Rat.le_trans (Rt.cp_le.1 (of_decide_eq_true h1)) (Rt.cp_le.1 (of_decide_eq_true h2)))
  omega
theorem or_mul {x y z : Rat} (h : decide (Rt.sn z ≤ 0) = false) : (Rt.cp (x * z) (y * z) == Rt.cp x y) = true := by
  refine beq_ok (Rt.cp_mul ?_)
  have h1 := of_decide_eq_false h
  rw [Rt.sn_cp, Rt.cp_le] at h1
  exact Rat.not_le.1 h1
set_option maxRecDepth 100000 in
theorem law_orders_fr (x y z : Rat) : ∀ v0 v1 v2 w, (Fact.agg (Con.fr 12 x)).holds v0 w → (Fact.agg (Con.fr 12 y)).holds v1 w → (Fact.agg (Con.fr 12 z)).holds v2 w → Calls Tryd.prog 5 #[v0, v1, v2] w (Ret (Fact.eq (.bool true)) w) := by
  intro v0 v1 v2 w hv0 hv1 hv2
  cases h1 : decide (Rt.cp x y ≤ 0) with
  | false =>
    cases h3 : decide (Rt.sn z ≤ 0) with
    | false =>
      refine sym_calls 87 [(0, Fact.agg (Con.fr 12 x)), (1, Fact.agg (Con.fr 12 y)), (2, Fact.agg (Con.fr 12 z))] Tryd.func5 rfl rfl (Nat.le_of_ble_eq_true rfl) (fcs ⟨⟨Nat.le_of_ble_eq_true rfl, hv0⟩, fcs ⟨⟨Nat.le_of_ble_eq_true rfl, hv1⟩, fcs ⟨⟨Nat.le_of_ble_eq_true rfl, hv2⟩, fnl⟩⟩⟩) fun a st => ?_
      have hb := Below.refl w.heap.size w
      refine wp_seq ?_
      refine sym_region st [(3, Fact.var' (Con.fr 12 x)), (4, Fact.var' (Con.fr 12 y)), (5, Fact.var' (Con.fr 12 z)), (6, Fact.eq (.bool false))] [3, 4, 5] 4 (by kernel_rfl) (by kernel_rfl) (by kernel_rfl) (Nat.le_of_ble_eq_true rfl) (by kernel_rfl) rfl rfl ?_ ?_
      · refine fcs ⟨obn_box 28 0 3 _ (Con.fr 12 x) rfl rfl rfl (by kernel_rfl) rfl rfl, ?_⟩
        refine fcs ⟨obn_box 28 1 4 _ (Con.fr 12 y) rfl rfl rfl (by kernel_rfl) rfl rfl, ?_⟩
        refine fcs ⟨obn_box 28 2 5 _ (Con.fr 12 z) rfl rfl rfl (by kernel_rfl) rfl rfl, ?_⟩
        refine fcs ⟨Ob.new_ (ob_const (.bool false) 6 (.inr rfl) rfl (.inl rfl) rfl) (by kernel_rfl), ?_⟩
        exact fnl
      intro a1 w1 st1 hbr1 hfr
      have hs1 := hbr1.size
      have hb := up hb hbr1
      obtain ⟨b3, c3⟩ := (show (Fact.var' (Con.fr 12 x)).holds _ _ from st1.at_ 3)
      have g3 := hfr.ge (s := 3) rfl c3.1
      obtain ⟨b4, c4⟩ := (show (Fact.var' (Con.fr 12 y)).holds _ _ from st1.at_ 4)
      have g4 := hfr.ge (s := 4) rfl c4.1
      obtain ⟨b5, c5⟩ := (show (Fact.var' (Con.fr 12 z)).holds _ _ from st1.at_ 5)
      have g5 := hfr.ge (s := 5) rfl c5.1
      have ne3_4 := hfr.apart (s := 3) (t := 4) rfl rfl (by decide) c3.1 c4.1
      have ne3_5 := hfr.apart (s := 3) (t := 5) rfl rfl (by decide) c3.1 c5.1
      have ne4_5 := hfr.apart (s := 4) (t := 5) rfl rfl (by decide) c4.1 c5.1
      have st : St 87 [(3, Fact.cell b3 (Con.fr 12 x)), (4, Fact.cell b4 (Con.fr 12 y)), (5, Fact.cell b5 (Con.fr 12 z)), (6, Fact.eq (.bool false))] a1 w1 := st1.to (fcs ⟨c3, fcs ⟨c4, fcs ⟨c5, fcs ⟨st1.at_ 6, fnl⟩⟩⟩⟩)
      clear st1 hbr1 hfr c3 c4 c5
      refine wpList_nil ?_
      refine then_normal ?_
      refine wp_seq ?_
      refine wp_seq ?_
      refine sym_region st [(8, Fact.agg (Con.fr 12 x)), (9, Fact.eq (.bool true)), (10, Fact.eq (.bool false)), (11, Fact.eq (.bool false)), (12, Fact.agg (Con.fr 12 y)), (13, Fact.eq (.bool true)), (14, Fact.eq (.bool false)), (15, Fact.eq (.bool false)), (16, Fact.eq (.bool false)), (17, Fact.agg (Con.fr 12 z)), (18, Fact.eq (.bool true)), (19, Fact.eq (.bool false)), (20, Fact.eq (.bool false))] [] 13 (by kernel_rfl) (by kernel_rfl) (by kernel_rfl) (Nat.le_of_ble_eq_true rfl) (by kernel_rfl) rfl rfl ?_ ?_
      · refine fcs ⟨Ob.new_ (ob_read 28 3 8 (Con.fr 12 x) rfl rfl (.inl rfl) (by kernel_rfl) points_cell rfl row26 info26) (by kernel_rfl), ?_⟩
        refine fcs ⟨Ob.new_ (ob_call1 17 8 9 _ rfl rfl (.inl rfl) (by kernel_rfl) (by kernel_rfl) (w_fit_yes x)) (by kernel_rfl), ?_⟩
        refine fcs ⟨Ob.new_ (ob_not 9 10 true false rfl rfl rfl (.inl rfl) (by kernel_rfl) rfl rfl) (by kernel_rfl), ?_⟩
        refine fcs ⟨Ob.new_ (ob_copy 10 11 (.inl rfl) rfl (.inl rfl) (by kernel_rfl) rfl) (by kernel_rfl), ?_⟩
        refine fcs ⟨Ob.new_ (ob_read 28 4 12 (Con.fr 12 y) rfl rfl (.inr ⟨_, _, _, rfl, rfl, by kernel_rfl, by decide, rfl⟩) (by kernel_rfl) points_cell rfl row26 info26) (by kernel_rfl), ?_⟩
        refine fcs ⟨Ob.new_ (ob_call1 17 12 13 _ rfl rfl (.inr ⟨_, _, _, rfl, rfl, by kernel_rfl, by decide, rfl⟩) (by kernel_rfl) (by kernel_rfl) (w_fit_yes y)) (by kernel_rfl), ?_⟩
        refine fcs ⟨Ob.new_ (ob_not 13 14 true false rfl rfl rfl (.inr ⟨_, _, _, rfl, rfl, by kernel_rfl, by decide, rfl⟩) (by kernel_rfl) rfl rfl) (by kernel_rfl), ?_⟩
        refine fcs ⟨Ob.new_ (ob_pick_else 11 14 15 (.bool true) rfl rfl (.inl rfl) (by kernel_rfl) (by kernel_rfl) rfl rfl) (by kernel_rfl), ?_⟩
        refine fcs ⟨Ob.new_ (ob_copy 15 16 (.inl rfl) rfl (.inl rfl) (by kernel_rfl) rfl) (by kernel_rfl), ?_⟩
        refine fcs ⟨Ob.new_ (ob_read 28 5 17 (Con.fr 12 z) rfl rfl (.inr ⟨_, _, _, rfl, rfl, by kernel_rfl, by decide, rfl⟩) (by kernel_rfl) points_cell rfl row26 info26) (by kernel_rfl), ?_⟩
        refine fcs ⟨Ob.new_ (ob_call1 17 17 18 _ rfl rfl (.inr ⟨_, _, _, rfl, rfl, by kernel_rfl, by decide, rfl⟩) (by kernel_rfl) (by kernel_rfl) (w_fit_yes z)) (by kernel_rfl), ?_⟩
        refine fcs ⟨Ob.new_ (ob_not 18 19 true false rfl rfl rfl (.inr ⟨_, _, _, rfl, rfl, by kernel_rfl, by decide, rfl⟩) (by kernel_rfl) rfl rfl) (by kernel_rfl), ?_⟩
        refine fcs ⟨Ob.new_ (ob_pick_else 16 19 20 (.bool true) rfl rfl (.inl rfl) (by kernel_rfl) (by kernel_rfl) rfl rfl) (by kernel_rfl), ?_⟩
        exact fnl
      intro a2 w2 st2 hbr2 hfr
      have hs2 := hbr2.size
      have hb := up hb hbr2
      have st : St 87 [(3, Fact.cell b3 (Con.fr 12 x)), (4, Fact.cell b4 (Con.fr 12 y)), (5, Fact.cell b5 (Con.fr 12 z)), (6, Fact.eq (.bool false)), (20, Fact.eq (.bool false))] a2 w2 := st2.to (fcs ⟨st2.at_ 3, fcs ⟨st2.at_ 4, fcs ⟨st2.at_ 5, fcs ⟨st2.at_ 6, fcs ⟨st2.at_ 20, fnl⟩⟩⟩⟩⟩)
      clear st2 hbr2 hfr
      refine wpList_nil ?_
      refine then_normal ?_
      refine wp_cond_false (st.at_ 20) ?_
      refine wp_skip ?_
      refine then_normal ?_
      refine wp_seq ?_
      refine sym_region st [(22, Fact.agg (Con.fr 12 x)), (23, Fact.agg (Con.fr 12 y)), (24, Fact.eq (.int .i64 (Rt.cp x y))), (7, Fact.eq (.int .i64 (Rt.cp x y)))] [] 4 (by kernel_rfl) (by kernel_rfl) (by kernel_rfl) (Nat.le_of_ble_eq_true rfl) (by kernel_rfl) rfl rfl ?_ ?_
      · refine fcs ⟨Ob.new_ (ob_read 28 3 22 (Con.fr 12 x) rfl rfl (.inl rfl) (by kernel_rfl) points_cell rfl row26 info26) (by kernel_rfl), ?_⟩
        refine fcs ⟨Ob.new_ (ob_read 28 4 23 (Con.fr 12 y) rfl rfl (.inl rfl) (by kernel_rfl) points_cell rfl row26 info26) (by kernel_rfl), ?_⟩
        refine fcs ⟨Ob.new_ (ob_call2 18 22 23 24 _ rfl rfl (.inl rfl) (by kernel_rfl) (by kernel_rfl) (by kernel_rfl) (q_cmp 12 12 x y (by omega))) (by kernel_rfl), ?_⟩
        refine fcs ⟨Ob.new_ (ob_copy 24 7 (.inr rfl) rfl (.inl rfl) (by kernel_rfl) rfl) (by kernel_rfl), ?_⟩
        exact fnl
      intro a3 w3 st3 hbr3 hfr
      have hs3 := hbr3.size
      have hb := up hb hbr3
      have st : St 87 [(3, Fact.cell b3 (Con.fr 12 x)), (4, Fact.cell b4 (Con.fr 12 y)), (5, Fact.cell b5 (Con.fr 12 z)), (6, Fact.eq (.bool false)), (7, Fact.eq (.int .i64 (Rt.cp x y)))] a3 w3 := st3.to (fcs ⟨st3.at_ 3, fcs ⟨st3.at_ 4, fcs ⟨st3.at_ 5, fcs ⟨st3.at_ 6, fcs ⟨st3.at_ 7, fnl⟩⟩⟩⟩⟩)
      clear st3 hbr3 hfr
      refine wpList_nil ?_
      refine then_normal ?_
      refine wp_seq ?_
      refine wp_seq ?_
      refine sym_region st [(25, Fact.eq (.int .i64 (Rt.cp x y))), (26, Fact.agg (Con.fr 12 x)), (27, Fact.agg (Con.fr 12 y)), (28, Fact.agg (Con.fr 25 (x - y))), (29, Fact.eq (.int .i64 (Rt.sn (x - y)))), (30, Fact.eq (.bool false)), (31, Fact.eq (.bool false)), (32, Fact.agg (Con.fr 12 y)), (33, Fact.agg (Con.fr 12 x)), (34, Fact.eq (.int .i64 (Rt.cp y x))), (35, Fact.eq (.int .i64 (Rt.cp x y))), (36, Fact.eq (.int .i64 (-(Rt.cp x y)))), (37, Fact.eq (.bool false)), (38, Fact.eq (.bool false)), (39, Fact.eq (.bool false)), (40, Fact.eq (.int .i64 (Rt.cp x y))), (41, Fact.eq (.bool ((Rt.cp x y) == 0))), (42, Fact.agg (Con.fr 12 x)), (43, Fact.agg (Con.fr 12 y)), (44, Fact.eq (.bool (decide (x = y)))), (45, Fact.eq (.bool false)), (46, Fact.eq (.bool false))] [] 22 (by kernel_rfl) (by kernel_rfl) (by kernel_rfl) (Nat.le_of_ble_eq_true rfl) (by kernel_rfl) rfl rfl ?_ ?_
      · refine fcs ⟨Ob.new_ (ob_copy 7 25 (.inl rfl) rfl (.inl rfl) (by kernel_rfl) rfl) (by kernel_rfl), ?_⟩
        refine fcs ⟨Ob.new_ (ob_read 28 3 26 (Con.fr 12 x) rfl rfl (.inl rfl) (by kernel_rfl) points_cell rfl row26 info26) (by kernel_rfl), ?_⟩
        refine fcs ⟨Ob.new_ (ob_read 28 4 27 (Con.fr 12 y) rfl rfl (.inl rfl) (by kernel_rfl) points_cell rfl row26 info26) (by kernel_rfl), ?_⟩
        refine fcs ⟨Ob.new_ (ob_call2 20 26 27 28 _ rfl rfl (.inl rfl) (by kernel_rfl) (by kernel_rfl) (by kernel_rfl) (q_sub 12 12 x y (by omega))) (by kernel_rfl), ?_⟩
        refine fcs ⟨Ob.new_ (ob_call1 19 28 29 _ rfl rfl (.inl rfl) (by kernel_rfl) (by kernel_rfl) (q_sign 25 (x - y))) (by kernel_rfl), ?_⟩
        refine fcs ⟨Ob.new_ (ob_nei 25 29 30 .i64 3 _ (Rt.cp x y) (Rt.sn (x - y)) false (bne_no (Rt.cp_sub x y)) rfl rfl (.inl rfl) (by kernel_rfl) (by kernel_rfl) rfl rfl rfl) (by kernel_rfl), ?_⟩
        refine fcs ⟨Ob.new_ (ob_copy 30 31 (.inl rfl) rfl (.inl rfl) (by kernel_rfl) rfl) (by kernel_rfl), ?_⟩
        refine fcs ⟨Ob.new_ (ob_read 28 4 32 (Con.fr 12 y) rfl rfl (.inr ⟨_, _, _, rfl, rfl, by kernel_rfl, by decide, rfl⟩) (by kernel_rfl) points_cell rfl row26 info26) (by kernel_rfl), ?_⟩
        refine fcs ⟨Ob.new_ (ob_read 28 3 33 (Con.fr 12 x) rfl rfl (.inr ⟨_, _, _, rfl, rfl, by kernel_rfl, by decide, rfl⟩) (by kernel_rfl) points_cell rfl row26 info26) (by kernel_rfl), ?_⟩
        refine fcs ⟨Ob.new_ (ob_call2 18 32 33 34 _ rfl rfl (.inr ⟨_, _, _, rfl, rfl, by kernel_rfl, by decide, rfl⟩) (by kernel_rfl) (by kernel_rfl) (by kernel_rfl) (q_cmp 12 12 y x (by omega))) (by kernel_rfl), ?_⟩
        refine fcs ⟨Ob.new_ (ob_copy 7 35 (.inl rfl) rfl (.inr ⟨_, _, _, rfl, rfl, by kernel_rfl, by decide, rfl⟩) (by kernel_rfl) rfl) (by kernel_rfl), ?_⟩
        refine fcs ⟨Ob.new_ (ob_negk .i64 35 36 (Rt.cp x y) (-(Rt.cp x y)) _ (cp_neg _ _) rfl rfl (.inr ⟨_, _, _, rfl, rfl, by kernel_rfl, by decide, rfl⟩) (by kernel_rfl) rfl rfl) (by kernel_rfl), ?_⟩
        refine fcs ⟨Ob.new_ (ob_nei 34 36 37 .i64 3 _ (Rt.cp y x) (-(Rt.cp x y)) false (bne_no (Rt.cp_swap x y)) rfl rfl (.inr ⟨_, _, _, rfl, rfl, by kernel_rfl, by decide, rfl⟩) (by kernel_rfl) (by kernel_rfl) rfl rfl rfl) (by kernel_rfl), ?_⟩
        refine fcs ⟨Ob.new_ (ob_pick_else 31 37 38 (.bool true) rfl rfl (.inl rfl) (by kernel_rfl) (by kernel_rfl) rfl rfl) (by kernel_rfl), ?_⟩
        refine fcs ⟨Ob.new_ (ob_copy 38 39 (.inl rfl) rfl (.inl rfl) (by kernel_rfl) rfl) (by kernel_rfl), ?_⟩
        refine fcs ⟨Ob.new_ (ob_copy 7 40 (.inl rfl) rfl (.inr ⟨_, _, _, rfl, rfl, by kernel_rfl, by decide, rfl⟩) (by kernel_rfl) rfl) (by kernel_rfl), ?_⟩
        refine fcs ⟨Ob.new_ (ob_eqc 40 41 .i64 3 _ (Rt.cp x y) 0 ((Rt.cp x y) == 0) rfl rfl rfl (.inr ⟨_, _, _, rfl, rfl, by kernel_rfl, by decide, rfl⟩) (by kernel_rfl) rfl rfl) (by kernel_rfl), ?_⟩
        refine fcs ⟨Ob.new_ (ob_read 28 3 42 (Con.fr 12 x) rfl rfl (.inr ⟨_, _, _, rfl, rfl, by kernel_rfl, by decide, rfl⟩) (by kernel_rfl) points_cell rfl row26 info26) (by kernel_rfl), ?_⟩
        refine fcs ⟨Ob.new_ (ob_read 28 4 43 (Con.fr 12 y) rfl rfl (.inr ⟨_, _, _, rfl, rfl, by kernel_rfl, by decide, rfl⟩) (by kernel_rfl) points_cell rfl row26 info26) (by kernel_rfl), ?_⟩
        refine fcs ⟨Ob.new_ (ob_call2 8 42 43 44 _ rfl rfl (.inr ⟨_, _, _, rfl, rfl, by kernel_rfl, by decide, rfl⟩) (by kernel_rfl) (by kernel_rfl) (by kernel_rfl) (z_same 12 12 x y (decide (x = y)) rfl)) (by kernel_rfl), ?_⟩
        refine fcs ⟨Ob.new_ (ob_neb 41 44 45 ((Rt.cp x y) == 0) (decide (x = y)) false (or_zero x y) rfl rfl (.inr ⟨_, _, _, rfl, rfl, by kernel_rfl, by decide, rfl⟩) (by kernel_rfl) (by kernel_rfl) rfl rfl rfl) (by kernel_rfl), ?_⟩
        refine fcs ⟨Ob.new_ (ob_pick_else 39 45 46 (.bool true) rfl rfl (.inl rfl) (by kernel_rfl) (by kernel_rfl) rfl rfl) (by kernel_rfl), ?_⟩
        exact fnl
      intro a4 w4 st4 hbr4 hfr
      have hs4 := hbr4.size
      have hb := up hb hbr4
      have st : St 87 [(3, Fact.cell b3 (Con.fr 12 x)), (4, Fact.cell b4 (Con.fr 12 y)), (5, Fact.cell b5 (Con.fr 12 z)), (6, Fact.eq (.bool false)), (7, Fact.eq (.int .i64 (Rt.cp x y))), (46, Fact.eq (.bool false))] a4 w4 := st4.to (fcs ⟨st4.at_ 3, fcs ⟨st4.at_ 4, fcs ⟨st4.at_ 5, fcs ⟨st4.at_ 6, fcs ⟨st4.at_ 7, fcs ⟨st4.at_ 46, fnl⟩⟩⟩⟩⟩⟩)
      clear st4 hbr4 hfr
      refine wpList_nil ?_
      refine then_normal ?_
      refine wp_cond_false (st.at_ 46) ?_
      refine wp_skip ?_
      refine then_normal ?_
      refine wp_seq ?_
      refine wp_seq ?_
      refine sym_region st [(47, Fact.eq (.int .i64 (Rt.cp x y))), (48, Fact.eq (.bool false)), (49, Fact.eq (.bool false)), (50, Fact.eq undef), (51, Fact.eq undef), (52, Fact.eq undef), (53, Fact.eq undef), (54, Fact.eq (.bool false)), (55, Fact.eq (.bool false)), (56, Fact.eq undef), (57, Fact.eq undef), (58, Fact.eq undef), (59, Fact.eq undef), (60, Fact.eq (.bool false))] [] 14 (by kernel_rfl) (by kernel_rfl) (by kernel_rfl) (Nat.le_of_ble_eq_true rfl) (by kernel_rfl) rfl rfl ?_ ?_
      · refine fcs ⟨Ob.new_ (ob_copy 7 47 (.inl rfl) rfl (.inl rfl) (by kernel_rfl) rfl) (by kernel_rfl), ?_⟩
        refine fcs ⟨Ob.new_ (ob_lec 47 48 .i64 3 _ (Rt.cp x y) 0 false h1 rfl rfl (.inl rfl) (by kernel_rfl) rfl rfl) (by kernel_rfl), ?_⟩
        refine fcs ⟨Ob.new_ (ob_copy 48 49 (.inl rfl) rfl (.inl rfl) (by kernel_rfl) rfl) (by kernel_rfl), ?_⟩
        refine fcs ⟨Ob.new_ (ob_skip 2 49 50 true rfl rfl (by kernel_rfl) (by decide) rfl rfl rfl) (by kernel_rfl), ?_⟩
        refine fcs ⟨Ob.new_ (ob_skip 2 49 51 true rfl rfl (by kernel_rfl) (by decide) rfl rfl rfl) (by kernel_rfl), ?_⟩
        refine fcs ⟨Ob.new_ (ob_skip 2 49 52 true rfl rfl (by kernel_rfl) (by decide) rfl rfl rfl) (by kernel_rfl), ?_⟩
        refine fcs ⟨Ob.new_ (ob_skip 2 49 53 true rfl rfl (by kernel_rfl) (by decide) rfl rfl rfl) (by kernel_rfl), ?_⟩
        refine fcs ⟨Ob.new_ (ob_pick_no 49 53 54 (.bool false) rfl rfl (.inl rfl) (by kernel_rfl) rfl rfl) (by kernel_rfl), ?_⟩
        refine fcs ⟨Ob.new_ (ob_copy 54 55 (.inl rfl) rfl (.inl rfl) (by kernel_rfl) rfl) (by kernel_rfl), ?_⟩
        refine fcs ⟨Ob.new_ (ob_skip 8 55 56 true rfl rfl (by kernel_rfl) (by decide) rfl rfl rfl) (by kernel_rfl), ?_⟩
        refine fcs ⟨Ob.new_ (ob_skip 8 55 57 true rfl rfl (by kernel_rfl) (by decide) rfl rfl rfl) (by kernel_rfl), ?_⟩
        refine fcs ⟨Ob.new_ (ob_skip 8 55 58 true rfl rfl (by kernel_rfl) (by decide) rfl rfl rfl) (by kernel_rfl), ?_⟩
        refine fcs ⟨Ob.new_ (ob_skip 8 55 59 true rfl rfl (by kernel_rfl) (by decide) rfl rfl rfl) (by kernel_rfl), ?_⟩
        refine fcs ⟨Ob.new_ (ob_pick_no 55 59 60 (.bool false) rfl rfl (.inl rfl) (by kernel_rfl) rfl rfl) (by kernel_rfl), ?_⟩
        exact fnl
      intro a5 w5 st5 hbr5 hfr
      have hs5 := hbr5.size
      have hb := up hb hbr5
      have st : St 87 [(3, Fact.cell b3 (Con.fr 12 x)), (4, Fact.cell b4 (Con.fr 12 y)), (5, Fact.cell b5 (Con.fr 12 z)), (6, Fact.eq (.bool false)), (7, Fact.eq (.int .i64 (Rt.cp x y))), (60, Fact.eq (.bool false))] a5 w5 := st5.to (fcs ⟨st5.at_ 3, fcs ⟨st5.at_ 4, fcs ⟨st5.at_ 5, fcs ⟨st5.at_ 6, fcs ⟨st5.at_ 7, fcs ⟨st5.at_ 60, fnl⟩⟩⟩⟩⟩⟩)
      clear st5 hbr5 hfr
      refine wpList_nil ?_
      refine then_normal ?_
      refine wp_cond_false (st.at_ 60) ?_
      refine wp_skip ?_
      refine then_normal ?_
      refine wp_seq ?_
      refine wp_seq ?_
      refine sym_region st [(61, Fact.agg (Con.fr 12 x)), (62, Fact.agg (Con.fr 12 z)), (63, Fact.agg (Con.fr 25 (x + z))), (64, Fact.agg (Con.fr 12 y)), (65, Fact.agg (Con.fr 12 z)), (66, Fact.agg (Con.fr 25 (y + z))), (67, Fact.eq (.int .i64 (Rt.cp (x + z) (y + z)))), (68, Fact.eq (.int .i64 (Rt.cp x y))), (69, Fact.eq (.bool false))] [] 9 (by kernel_rfl) (by kernel_rfl) (by kernel_rfl) (Nat.le_of_ble_eq_true rfl) (by kernel_rfl) rfl rfl ?_ ?_
      · refine fcs ⟨Ob.new_ (ob_read 28 3 61 (Con.fr 12 x) rfl rfl (.inl rfl) (by kernel_rfl) points_cell rfl row26 info26) (by kernel_rfl), ?_⟩
        refine fcs ⟨Ob.new_ (ob_read 28 5 62 (Con.fr 12 z) rfl rfl (.inl rfl) (by kernel_rfl) points_cell rfl row26 info26) (by kernel_rfl), ?_⟩
        refine fcs ⟨Ob.new_ (ob_call2 21 61 62 63 _ rfl rfl (.inl rfl) (by kernel_rfl) (by kernel_rfl) (by kernel_rfl) (q_add 12 12 x z (by omega))) (by kernel_rfl), ?_⟩
        refine fcs ⟨Ob.new_ (ob_read 28 4 64 (Con.fr 12 y) rfl rfl (.inl rfl) (by kernel_rfl) points_cell rfl row26 info26) (by kernel_rfl), ?_⟩
        refine fcs ⟨Ob.new_ (ob_read 28 5 65 (Con.fr 12 z) rfl rfl (.inl rfl) (by kernel_rfl) points_cell rfl row26 info26) (by kernel_rfl), ?_⟩
        refine fcs ⟨Ob.new_ (ob_call2 21 64 65 66 _ rfl rfl (.inl rfl) (by kernel_rfl) (by kernel_rfl) (by kernel_rfl) (q_add 12 12 y z (by omega))) (by kernel_rfl), ?_⟩
        refine fcs ⟨Ob.new_ (ob_call2 18 63 66 67 _ rfl rfl (.inl rfl) (by kernel_rfl) (by kernel_rfl) (by kernel_rfl) (q_cmp 25 25 (x + z) (y + z) (by omega))) (by kernel_rfl), ?_⟩
        refine fcs ⟨Ob.new_ (ob_copy 7 68 (.inl rfl) rfl (.inl rfl) (by kernel_rfl) rfl) (by kernel_rfl), ?_⟩
        refine fcs ⟨Ob.new_ (ob_nei 67 68 69 .i64 3 _ (Rt.cp (x + z) (y + z)) (Rt.cp x y) false (bne_no (Rt.cp_add x y z)) rfl rfl (.inl rfl) (by kernel_rfl) (by kernel_rfl) rfl rfl rfl) (by kernel_rfl), ?_⟩
        exact fnl
      intro a6 w6 st6 hbr6 hfr
      have hs6 := hbr6.size
      have hb := up hb hbr6
      have st : St 87 [(3, Fact.cell b3 (Con.fr 12 x)), (4, Fact.cell b4 (Con.fr 12 y)), (5, Fact.cell b5 (Con.fr 12 z)), (6, Fact.eq (.bool false)), (7, Fact.eq (.int .i64 (Rt.cp x y))), (69, Fact.eq (.bool false))] a6 w6 := st6.to (fcs ⟨st6.at_ 3, fcs ⟨st6.at_ 4, fcs ⟨st6.at_ 5, fcs ⟨st6.at_ 6, fcs ⟨st6.at_ 7, fcs ⟨st6.at_ 69, fnl⟩⟩⟩⟩⟩⟩)
      clear st6 hbr6 hfr
      refine wpList_nil ?_
      refine then_normal ?_
      refine wp_cond_false (st.at_ 69) ?_
      refine wp_skip ?_
      refine then_normal ?_
      refine wp_seq ?_
      have st := st.to (ks' := [(3, Fact.cell b3 (Con.fr 12 x)), (4, Fact.cell b4 (Con.fr 12 y)), (5, Fact.cell b5 (Con.fr 12 z)), (7, Fact.eq (.int .i64 (Rt.cp x y))), (69, Fact.eq (.bool false))]) (fcs ⟨st.at_ 3, fcs ⟨st.at_ 4, fcs ⟨st.at_ 5, fcs ⟨st.at_ 7, fcs ⟨st.at_ 69, fnl⟩⟩⟩⟩⟩)
      refine sym_region st [(70, Fact.agg (Con.fr 12 z)), (71, Fact.eq (.int .i64 (Rt.sn z))), (72, Fact.eq (.bool false)), (73, Fact.eq (.bool false)), (74, Fact.agg (Con.fr 12 x)), (75, Fact.agg (Con.fr 12 z)), (76, Fact.agg (Con.fr 24 (x * z))), (77, Fact.agg (Con.fr 12 y)), (78, Fact.agg (Con.fr 12 z)), (79, Fact.agg (Con.fr 24 (y * z))), (80, Fact.eq (.int .i64 (Rt.cp (x * z) (y * z)))), (81, Fact.eq (.int .i64 (Rt.cp x y))), (82, Fact.eq (.bool true)), (83, Fact.eq (.bool true)), (84, Fact.eq (.bool true)), (85, Fact.eq (.bool true)), (86, Fact.eq (.bool true)), (6, Fact.eq (.bool true))] [] 18 (by kernel_rfl) (by kernel_rfl) (by kernel_rfl) (Nat.le_of_ble_eq_true rfl) (by kernel_rfl) rfl rfl ?_ ?_
      · refine fcs ⟨Ob.new_ (ob_read 28 5 70 (Con.fr 12 z) rfl rfl (.inl rfl) (by kernel_rfl) points_cell rfl row26 info26) (by kernel_rfl), ?_⟩
        refine fcs ⟨Ob.new_ (ob_call1 19 70 71 _ rfl rfl (.inl rfl) (by kernel_rfl) (by kernel_rfl) (q_sign 12 z)) (by kernel_rfl), ?_⟩
        refine fcs ⟨Ob.new_ (ob_lec 71 72 .i64 3 _ (Rt.sn z) 0 false h3 rfl rfl (.inl rfl) (by kernel_rfl) rfl rfl) (by kernel_rfl), ?_⟩
        refine fcs ⟨Ob.new_ (ob_copy 72 73 (.inl rfl) rfl (.inl rfl) (by kernel_rfl) rfl) (by kernel_rfl), ?_⟩
        refine fcs ⟨Ob.new_ (ob_read 28 3 74 (Con.fr 12 x) rfl rfl (.inr ⟨_, _, _, rfl, rfl, by kernel_rfl, by decide, rfl⟩) (by kernel_rfl) points_cell rfl row26 info26) (by kernel_rfl), ?_⟩
        refine fcs ⟨Ob.new_ (ob_read 28 5 75 (Con.fr 12 z) rfl rfl (.inr ⟨_, _, _, rfl, rfl, by kernel_rfl, by decide, rfl⟩) (by kernel_rfl) points_cell rfl row26 info26) (by kernel_rfl), ?_⟩
        refine fcs ⟨Ob.new_ (ob_call2 22 74 75 76 _ rfl rfl (.inr ⟨_, _, _, rfl, rfl, by kernel_rfl, by decide, rfl⟩) (by kernel_rfl) (by kernel_rfl) (by kernel_rfl) (q_mul 12 12 x z (by omega))) (by kernel_rfl), ?_⟩
        refine fcs ⟨Ob.new_ (ob_read 28 4 77 (Con.fr 12 y) rfl rfl (.inr ⟨_, _, _, rfl, rfl, by kernel_rfl, by decide, rfl⟩) (by kernel_rfl) points_cell rfl row26 info26) (by kernel_rfl), ?_⟩
        refine fcs ⟨Ob.new_ (ob_read 28 5 78 (Con.fr 12 z) rfl rfl (.inr ⟨_, _, _, rfl, rfl, by kernel_rfl, by decide, rfl⟩) (by kernel_rfl) points_cell rfl row26 info26) (by kernel_rfl), ?_⟩
        refine fcs ⟨Ob.new_ (ob_call2 22 77 78 79 _ rfl rfl (.inr ⟨_, _, _, rfl, rfl, by kernel_rfl, by decide, rfl⟩) (by kernel_rfl) (by kernel_rfl) (by kernel_rfl) (q_mul 12 12 y z (by omega))) (by kernel_rfl), ?_⟩
        refine fcs ⟨Ob.new_ (ob_call2 18 76 79 80 _ rfl rfl (.inr ⟨_, _, _, rfl, rfl, by kernel_rfl, by decide, rfl⟩) (by kernel_rfl) (by kernel_rfl) (by kernel_rfl) (q_cmp 24 24 (x * z) (y * z) (by omega))) (by kernel_rfl), ?_⟩
        refine fcs ⟨Ob.new_ (ob_copy 7 81 (.inl rfl) rfl (.inr ⟨_, _, _, rfl, rfl, by kernel_rfl, by decide, rfl⟩) (by kernel_rfl) rfl) (by kernel_rfl), ?_⟩
        refine fcs ⟨Ob.new_ (ob_eqi 80 81 82 .i64 3 _ (Rt.cp (x * z) (y * z)) (Rt.cp x y) true (or_mul h3) rfl rfl (.inr ⟨_, _, _, rfl, rfl, by kernel_rfl, by decide, rfl⟩) (by kernel_rfl) (by kernel_rfl) rfl rfl rfl) (by kernel_rfl), ?_⟩
        refine fcs ⟨Ob.new_ (ob_pick_else 73 82 83 (.bool true) rfl rfl (.inl rfl) (by kernel_rfl) (by kernel_rfl) rfl rfl) (by kernel_rfl), ?_⟩
        refine fcs ⟨Ob.new_ (ob_copy 83 84 (.inl rfl) rfl (.inl rfl) (by kernel_rfl) rfl) (by kernel_rfl), ?_⟩
        refine fcs ⟨Ob.new_ (ob_call0 12 85 _ rfl rfl (.inr ⟨_, _, _, rfl, rfl, by kernel_rfl, by decide, rfl⟩) (by kernel_rfl) w_awake) (by kernel_rfl), ?_⟩
        refine fcs ⟨Ob.new_ (ob_pick 84 85 86 _ rfl rfl (.inl rfl) (by kernel_rfl) (by kernel_rfl) rfl rfl) (by kernel_rfl), ?_⟩
        refine fcs ⟨Ob.new_ (ob_copy 86 6 (.inr rfl) rfl (.inl rfl) (by kernel_rfl) rfl) (by kernel_rfl), ?_⟩
        exact fnl
      intro a7 w7 st7 hbr7 hfr
      have hs7 := hbr7.size
      have hb := up hb hbr7
      have st : St 87 [(6, Fact.eq (.bool true))] a7 w7 := st7.to (fcs ⟨st7.at_ 6, fnl⟩)
      clear st7 hbr7 hfr
      refine wpList_nil ?_
      refine then_normal ?_
      refine wp_ret ?_
      exact sym_ret1 rfl st.defers (resAt_tmp st 6) hb (fun _ h => h)
    | true =>
      refine sym_calls 87 [(0, Fact.agg (Con.fr 12 x)), (1, Fact.agg (Con.fr 12 y)), (2, Fact.agg (Con.fr 12 z))] Tryd.func5 rfl rfl (Nat.le_of_ble_eq_true rfl) (fcs ⟨⟨Nat.le_of_ble_eq_true rfl, hv0⟩, fcs ⟨⟨Nat.le_of_ble_eq_true rfl, hv1⟩, fcs ⟨⟨Nat.le_of_ble_eq_true rfl, hv2⟩, fnl⟩⟩⟩) fun a st => ?_
      have hb := Below.refl w.heap.size w
      refine wp_seq ?_
      refine sym_region st [(3, Fact.var' (Con.fr 12 x)), (4, Fact.var' (Con.fr 12 y)), (5, Fact.var' (Con.fr 12 z)), (6, Fact.eq (.bool false))] [3, 4, 5] 4 (by kernel_rfl) (by kernel_rfl) (by kernel_rfl) (Nat.le_of_ble_eq_true rfl) (by kernel_rfl) rfl rfl ?_ ?_
      · refine fcs ⟨obn_box 28 0 3 _ (Con.fr 12 x) rfl rfl rfl (by kernel_rfl) rfl rfl, ?_⟩
        refine fcs ⟨obn_box 28 1 4 _ (Con.fr 12 y) rfl rfl rfl (by kernel_rfl) rfl rfl, ?_⟩
        refine fcs ⟨obn_box 28 2 5 _ (Con.fr 12 z) rfl rfl rfl (by kernel_rfl) rfl rfl, ?_⟩
        refine fcs ⟨Ob.new_ (ob_const (.bool false) 6 (.inr rfl) rfl (.inl rfl) rfl) (by kernel_rfl), ?_⟩
        exact fnl
      intro a1 w1 st1 hbr1 hfr
      have hs1 := hbr1.size
      have hb := up hb hbr1
      obtain ⟨b3, c3⟩ := (show (Fact.var' (Con.fr 12 x)).holds _ _ from st1.at_ 3)
      have g3 := hfr.ge (s := 3) rfl c3.1
      obtain ⟨b4, c4⟩ := (show (Fact.var' (Con.fr 12 y)).holds _ _ from st1.at_ 4)
      have g4 := hfr.ge (s := 4) rfl c4.1
      obtain ⟨b5, c5⟩ := (show (Fact.var' (Con.fr 12 z)).holds _ _ from st1.at_ 5)
      have g5 := hfr.ge (s := 5) rfl c5.1
      have ne3_4 := hfr.apart (s := 3) (t := 4) rfl rfl (by decide) c3.1 c4.1
      have ne3_5 := hfr.apart (s := 3) (t := 5) rfl rfl (by decide) c3.1 c5.1
      have ne4_5 := hfr.apart (s := 4) (t := 5) rfl rfl (by decide) c4.1 c5.1
      have st : St 87 [(3, Fact.cell b3 (Con.fr 12 x)), (4, Fact.cell b4 (Con.fr 12 y)), (5, Fact.cell b5 (Con.fr 12 z)), (6, Fact.eq (.bool false))] a1 w1 := st1.to (fcs ⟨c3, fcs ⟨c4, fcs ⟨c5, fcs ⟨st1.at_ 6, fnl⟩⟩⟩⟩)
      clear st1 hbr1 hfr c3 c4 c5
      refine wpList_nil ?_
      refine then_normal ?_
      refine wp_seq ?_
      refine wp_seq ?_
      refine sym_region st [(8, Fact.agg (Con.fr 12 x)), (9, Fact.eq (.bool true)), (10, Fact.eq (.bool false)), (11, Fact.eq (.bool false)), (12, Fact.agg (Con.fr 12 y)), (13, Fact.eq (.bool true)), (14, Fact.eq (.bool false)), (15, Fact.eq (.bool false)), (16, Fact.eq (.bool false)), (17, Fact.agg (Con.fr 12 z)), (18, Fact.eq (.bool true)), (19, Fact.eq (.bool false)), (20, Fact.eq (.bool false))] [] 13 (by kernel_rfl) (by kernel_rfl) (by kernel_rfl) (Nat.le_of_ble_eq_true rfl) (by kernel_rfl) rfl rfl ?_ ?_
      · refine fcs ⟨Ob.new_ (ob_read 28 3 8 (Con.fr 12 x) rfl rfl (.inl rfl) (by kernel_rfl) points_cell rfl row26 info26) (by kernel_rfl), ?_⟩
        refine fcs ⟨Ob.new_ (ob_call1 17 8 9 _ rfl rfl (.inl rfl) (by kernel_rfl) (by kernel_rfl) (w_fit_yes x)) (by kernel_rfl), ?_⟩
        refine fcs ⟨Ob.new_ (ob_not 9 10 true false rfl rfl rfl (.inl rfl) (by kernel_rfl) rfl rfl) (by kernel_rfl), ?_⟩
        refine fcs ⟨Ob.new_ (ob_copy 10 11 (.inl rfl) rfl (.inl rfl) (by kernel_rfl) rfl) (by kernel_rfl), ?_⟩
        refine fcs ⟨Ob.new_ (ob_read 28 4 12 (Con.fr 12 y) rfl rfl (.inr ⟨_, _, _, rfl, rfl, by kernel_rfl, by decide, rfl⟩) (by kernel_rfl) points_cell rfl row26 info26) (by kernel_rfl), ?_⟩
        refine fcs ⟨Ob.new_ (ob_call1 17 12 13 _ rfl rfl (.inr ⟨_, _, _, rfl, rfl, by kernel_rfl, by decide, rfl⟩) (by kernel_rfl) (by kernel_rfl) (w_fit_yes y)) (by kernel_rfl), ?_⟩
        refine fcs ⟨Ob.new_ (ob_not 13 14 true false rfl rfl rfl (.inr ⟨_, _, _, rfl, rfl, by kernel_rfl, by decide, rfl⟩) (by kernel_rfl) rfl rfl) (by kernel_rfl), ?_⟩
        refine fcs ⟨Ob.new_ (ob_pick_else 11 14 15 (.bool true) rfl rfl (.inl rfl) (by kernel_rfl) (by kernel_rfl) rfl rfl) (by kernel_rfl), ?_⟩
        refine fcs ⟨Ob.new_ (ob_copy 15 16 (.inl rfl) rfl (.inl rfl) (by kernel_rfl) rfl) (by kernel_rfl), ?_⟩
        refine fcs ⟨Ob.new_ (ob_read 28 5 17 (Con.fr 12 z) rfl rfl (.inr ⟨_, _, _, rfl, rfl, by kernel_rfl, by decide, rfl⟩) (by kernel_rfl) points_cell rfl row26 info26) (by kernel_rfl), ?_⟩
        refine fcs ⟨Ob.new_ (ob_call1 17 17 18 _ rfl rfl (.inr ⟨_, _, _, rfl, rfl, by kernel_rfl, by decide, rfl⟩) (by kernel_rfl) (by kernel_rfl) (w_fit_yes z)) (by kernel_rfl), ?_⟩
        refine fcs ⟨Ob.new_ (ob_not 18 19 true false rfl rfl rfl (.inr ⟨_, _, _, rfl, rfl, by kernel_rfl, by decide, rfl⟩) (by kernel_rfl) rfl rfl) (by kernel_rfl), ?_⟩
        refine fcs ⟨Ob.new_ (ob_pick_else 16 19 20 (.bool true) rfl rfl (.inl rfl) (by kernel_rfl) (by kernel_rfl) rfl rfl) (by kernel_rfl), ?_⟩
        exact fnl
      intro a2 w2 st2 hbr2 hfr
      have hs2 := hbr2.size
      have hb := up hb hbr2
      have st : St 87 [(3, Fact.cell b3 (Con.fr 12 x)), (4, Fact.cell b4 (Con.fr 12 y)), (5, Fact.cell b5 (Con.fr 12 z)), (6, Fact.eq (.bool false)), (20, Fact.eq (.bool false))] a2 w2 := st2.to (fcs ⟨st2.at_ 3, fcs ⟨st2.at_ 4, fcs ⟨st2.at_ 5, fcs ⟨st2.at_ 6, fcs ⟨st2.at_ 20, fnl⟩⟩⟩⟩⟩)
      clear st2 hbr2 hfr
      refine wpList_nil ?_
      refine then_normal ?_
      refine wp_cond_false (st.at_ 20) ?_
      refine wp_skip ?_
      refine then_normal ?_
      refine wp_seq ?_
      refine sym_region st [(22, Fact.agg (Con.fr 12 x)), (23, Fact.agg (Con.fr 12 y)), (24, Fact.eq (.int .i64 (Rt.cp x y))), (7, Fact.eq (.int .i64 (Rt.cp x y)))] [] 4 (by kernel_rfl) (by kernel_rfl) (by kernel_rfl) (Nat.le_of_ble_eq_true rfl) (by kernel_rfl) rfl rfl ?_ ?_
      · refine fcs ⟨Ob.new_ (ob_read 28 3 22 (Con.fr 12 x) rfl rfl (.inl rfl) (by kernel_rfl) points_cell rfl row26 info26) (by kernel_rfl), ?_⟩
        refine fcs ⟨Ob.new_ (ob_read 28 4 23 (Con.fr 12 y) rfl rfl (.inl rfl) (by kernel_rfl) points_cell rfl row26 info26) (by kernel_rfl), ?_⟩
        refine fcs ⟨Ob.new_ (ob_call2 18 22 23 24 _ rfl rfl (.inl rfl) (by kernel_rfl) (by kernel_rfl) (by kernel_rfl) (q_cmp 12 12 x y (by omega))) (by kernel_rfl), ?_⟩
        refine fcs ⟨Ob.new_ (ob_copy 24 7 (.inr rfl) rfl (.inl rfl) (by kernel_rfl) rfl) (by kernel_rfl), ?_⟩
        exact fnl
      intro a3 w3 st3 hbr3 hfr
      have hs3 := hbr3.size
      have hb := up hb hbr3
      have st : St 87 [(3, Fact.cell b3 (Con.fr 12 x)), (4, Fact.cell b4 (Con.fr 12 y)), (5, Fact.cell b5 (Con.fr 12 z)), (6, Fact.eq (.bool false)), (7, Fact.eq (.int .i64 (Rt.cp x y)))] a3 w3 := st3.to (fcs ⟨st3.at_ 3, fcs ⟨st3.at_ 4, fcs ⟨st3.at_ 5, fcs ⟨st3.at_ 6, fcs ⟨st3.at_ 7, fnl⟩⟩⟩⟩⟩)
      clear st3 hbr3 hfr
      refine wpList_nil ?_
      refine then_normal ?_
      refine wp_seq ?_
      refine wp_seq ?_
      refine sym_region st [(25, Fact.eq (.int .i64 (Rt.cp x y))), (26, Fact.agg (Con.fr 12 x)), (27, Fact.agg (Con.fr 12 y)), (28, Fact.agg (Con.fr 25 (x - y))), (29, Fact.eq (.int .i64 (Rt.sn (x - y)))), (30, Fact.eq (.bool false)), (31, Fact.eq (.bool false)), (32, Fact.agg (Con.fr 12 y)), (33, Fact.agg (Con.fr 12 x)), (34, Fact.eq (.int .i64 (Rt.cp y x))), (35, Fact.eq (.int .i64 (Rt.cp x y))), (36, Fact.eq (.int .i64 (-(Rt.cp x y)))), (37, Fact.eq (.bool false)), (38, Fact.eq (.bool false)), (39, Fact.eq (.bool false)), (40, Fact.eq (.int .i64 (Rt.cp x y))), (41, Fact.eq (.bool ((Rt.cp x y) == 0))), (42, Fact.agg (Con.fr 12 x)), (43, Fact.agg (Con.fr 12 y)), (44, Fact.eq (.bool (decide (x = y)))), (45, Fact.eq (.bool false)), (46, Fact.eq (.bool false))] [] 22 (by kernel_rfl) (by kernel_rfl) (by kernel_rfl) (Nat.le_of_ble_eq_true rfl) (by kernel_rfl) rfl rfl ?_ ?_
      · refine fcs ⟨Ob.new_ (ob_copy 7 25 (.inl rfl) rfl (.inl rfl) (by kernel_rfl) rfl) (by kernel_rfl), ?_⟩
        refine fcs ⟨Ob.new_ (ob_read 28 3 26 (Con.fr 12 x) rfl rfl (.inl rfl) (by kernel_rfl) points_cell rfl row26 info26) (by kernel_rfl), ?_⟩
        refine fcs ⟨Ob.new_ (ob_read 28 4 27 (Con.fr 12 y) rfl rfl (.inl rfl) (by kernel_rfl) points_cell rfl row26 info26) (by kernel_rfl), ?_⟩
        refine fcs ⟨Ob.new_ (ob_call2 20 26 27 28 _ rfl rfl (.inl rfl) (by kernel_rfl) (by kernel_rfl) (by kernel_rfl) (q_sub 12 12 x y (by omega))) (by kernel_rfl), ?_⟩
        refine fcs ⟨Ob.new_ (ob_call1 19 28 29 _ rfl rfl (.inl rfl) (by kernel_rfl) (by kernel_rfl) (q_sign 25 (x - y))) (by kernel_rfl), ?_⟩
        refine fcs ⟨Ob.new_ (ob_nei 25 29 30 .i64 3 _ (Rt.cp x y) (Rt.sn (x - y)) false (bne_no (Rt.cp_sub x y)) rfl rfl (.inl rfl) (by kernel_rfl) (by kernel_rfl) rfl rfl rfl) (by kernel_rfl), ?_⟩
        refine fcs ⟨Ob.new_ (ob_copy 30 31 (.inl rfl) rfl (.inl rfl) (by kernel_rfl) rfl) (by kernel_rfl), ?_⟩
        refine fcs ⟨Ob.new_ (ob_read 28 4 32 (Con.fr 12 y) rfl rfl (.inr ⟨_, _, _, rfl, rfl, by kernel_rfl, by decide, rfl⟩) (by kernel_rfl) points_cell rfl row26 info26) (by kernel_rfl), ?_⟩
        refine fcs ⟨Ob.new_ (ob_read 28 3 33 (Con.fr 12 x) rfl rfl (.inr ⟨_, _, _, rfl, rfl, by kernel_rfl, by decide, rfl⟩) (by kernel_rfl) points_cell rfl row26 info26) (by kernel_rfl), ?_⟩
        refine fcs ⟨Ob.new_ (ob_call2 18 32 33 34 _ rfl rfl (.inr ⟨_, _, _, rfl, rfl, by kernel_rfl, by decide, rfl⟩) (by kernel_rfl) (by kernel_rfl) (by kernel_rfl) (q_cmp 12 12 y x (by omega))) (by kernel_rfl), ?_⟩
        refine fcs ⟨Ob.new_ (ob_copy 7 35 (.inl rfl) rfl (.inr ⟨_, _, _, rfl, rfl, by kernel_rfl, by decide, rfl⟩) (by kernel_rfl) rfl) (by kernel_rfl), ?_⟩
        refine fcs ⟨Ob.new_ (ob_negk .i64 35 36 (Rt.cp x y) (-(Rt.cp x y)) _ (cp_neg _ _) rfl rfl (.inr ⟨_, _, _, rfl, rfl, by kernel_rfl, by decide, rfl⟩) (by kernel_rfl) rfl rfl) (by kernel_rfl), ?_⟩
        refine fcs ⟨Ob.new_ (ob_nei 34 36 37 .i64 3 _ (Rt.cp y x) (-(Rt.cp x y)) false (bne_no (Rt.cp_swap x y)) rfl rfl (.inr ⟨_, _, _, rfl, rfl, by kernel_rfl, by decide, rfl⟩) (by kernel_rfl) (by kernel_rfl) rfl rfl rfl) (by kernel_rfl), ?_⟩
        refine fcs ⟨Ob.new_ (ob_pick_else 31 37 38 (.bool true) rfl rfl (.inl rfl) (by kernel_rfl) (by kernel_rfl) rfl rfl) (by kernel_rfl), ?_⟩
        refine fcs ⟨Ob.new_ (ob_copy 38 39 (.inl rfl) rfl (.inl rfl) (by kernel_rfl) rfl) (by kernel_rfl), ?_⟩
        refine fcs ⟨Ob.new_ (ob_copy 7 40 (.inl rfl) rfl (.inr ⟨_, _, _, rfl, rfl, by kernel_rfl, by decide, rfl⟩) (by kernel_rfl) rfl) (by kernel_rfl), ?_⟩
        refine fcs ⟨Ob.new_ (ob_eqc 40 41 .i64 3 _ (Rt.cp x y) 0 ((Rt.cp x y) == 0) rfl rfl rfl (.inr ⟨_, _, _, rfl, rfl, by kernel_rfl, by decide, rfl⟩) (by kernel_rfl) rfl rfl) (by kernel_rfl), ?_⟩
        refine fcs ⟨Ob.new_ (ob_read 28 3 42 (Con.fr 12 x) rfl rfl (.inr ⟨_, _, _, rfl, rfl, by kernel_rfl, by decide, rfl⟩) (by kernel_rfl) points_cell rfl row26 info26) (by kernel_rfl), ?_⟩
        refine fcs ⟨Ob.new_ (ob_read 28 4 43 (Con.fr 12 y) rfl rfl (.inr ⟨_, _, _, rfl, rfl, by kernel_rfl, by decide, rfl⟩) (by kernel_rfl) points_cell rfl row26 info26) (by kernel_rfl), ?_⟩
        refine fcs ⟨Ob.new_ (ob_call2 8 42 43 44 _ rfl rfl (.inr ⟨_, _, _, rfl, rfl, by kernel_rfl, by decide, rfl⟩) (by kernel_rfl) (by kernel_rfl) (by kernel_rfl) (z_same 12 12 x y (decide (x = y)) rfl)) (by kernel_rfl), ?_⟩
        refine fcs ⟨Ob.new_ (ob_neb 41 44 45 ((Rt.cp x y) == 0) (decide (x = y)) false (or_zero x y) rfl rfl (.inr ⟨_, _, _, rfl, rfl, by kernel_rfl, by decide, rfl⟩) (by kernel_rfl) (by kernel_rfl) rfl rfl rfl) (by kernel_rfl), ?_⟩
        refine fcs ⟨Ob.new_ (ob_pick_else 39 45 46 (.bool true) rfl rfl (.inl rfl) (by kernel_rfl) (by kernel_rfl) rfl rfl) (by kernel_rfl), ?_⟩
        exact fnl
      intro a4 w4 st4 hbr4 hfr
      have hs4 := hbr4.size
      have hb := up hb hbr4
      have st : St 87 [(3, Fact.cell b3 (Con.fr 12 x)), (4, Fact.cell b4 (Con.fr 12 y)), (5, Fact.cell b5 (Con.fr 12 z)), (6, Fact.eq (.bool false)), (7, Fact.eq (.int .i64 (Rt.cp x y))), (46, Fact.eq (.bool false))] a4 w4 := st4.to (fcs ⟨st4.at_ 3, fcs ⟨st4.at_ 4, fcs ⟨st4.at_ 5, fcs ⟨st4.at_ 6, fcs ⟨st4.at_ 7, fcs ⟨st4.at_ 46, fnl⟩⟩⟩⟩⟩⟩)
      clear st4 hbr4 hfr
      refine wpList_nil ?_
      refine then_normal ?_
      refine wp_cond_false (st.at_ 46) ?_
      refine wp_skip ?_
      refine then_normal ?_
      refine wp_seq ?_
      refine wp_seq ?_
      refine sym_region st [(47, Fact.eq (.int .i64 (Rt.cp x y))), (48, Fact.eq (.bool false)), (49, Fact.eq (.bool false)), (50, Fact.eq undef), (51, Fact.eq undef), (52, Fact.eq undef), (53, Fact.eq undef), (54, Fact.eq (.bool false)), (55, Fact.eq (.bool false)), (56, Fact.eq undef), (57, Fact.eq undef), (58, Fact.eq undef), (59, Fact.eq undef), (60, Fact.eq (.bool false))] [] 14 (by kernel_rfl) (by kernel_rfl) (by kernel_rfl) (Nat.le_of_ble_eq_true rfl) (by kernel_rfl) rfl rfl ?_ ?_
      · refine fcs ⟨Ob.new_ (ob_copy 7 47 (.inl rfl) rfl (.inl rfl) (by kernel_rfl) rfl) (by kernel_rfl), ?_⟩
        refine fcs ⟨Ob.new_ (ob_lec 47 48 .i64 3 _ (Rt.cp x y) 0 false h1 rfl rfl (.inl rfl) (by kernel_rfl) rfl rfl) (by kernel_rfl), ?_⟩
        refine fcs ⟨Ob.new_ (ob_copy 48 49 (.inl rfl) rfl (.inl rfl) (by kernel_rfl) rfl) (by kernel_rfl), ?_⟩
        refine fcs ⟨Ob.new_ (ob_skip 2 49 50 true rfl rfl (by kernel_rfl) (by decide) rfl rfl rfl) (by kernel_rfl), ?_⟩
        refine fcs ⟨Ob.new_ (ob_skip 2 49 51 true rfl rfl (by kernel_rfl) (by decide) rfl rfl rfl) (by kernel_rfl), ?_⟩
        refine fcs ⟨Ob.new_ (ob_skip 2 49 52 true rfl rfl (by kernel_rfl) (by decide) rfl rfl rfl) (by kernel_rfl), ?_⟩
        refine fcs ⟨Ob.new_ (ob_skip 2 49 53 true rfl rfl (by kernel_rfl) (by decide) rfl rfl rfl) (by kernel_rfl), ?_⟩
        refine fcs ⟨Ob.new_ (ob_pick_no 49 53 54 (.bool false) rfl rfl (.inl rfl) (by kernel_rfl) rfl rfl) (by kernel_rfl), ?_⟩
        refine fcs ⟨Ob.new_ (ob_copy 54 55 (.inl rfl) rfl (.inl rfl) (by kernel_rfl) rfl) (by kernel_rfl), ?_⟩
        refine fcs ⟨Ob.new_ (ob_skip 8 55 56 true rfl rfl (by kernel_rfl) (by decide) rfl rfl rfl) (by kernel_rfl), ?_⟩
        refine fcs ⟨Ob.new_ (ob_skip 8 55 57 true rfl rfl (by kernel_rfl) (by decide) rfl rfl rfl) (by kernel_rfl), ?_⟩
        refine fcs ⟨Ob.new_ (ob_skip 8 55 58 true rfl rfl (by kernel_rfl) (by decide) rfl rfl rfl) (by kernel_rfl), ?_⟩
        refine fcs ⟨Ob.new_ (ob_skip 8 55 59 true rfl rfl (by kernel_rfl) (by decide) rfl rfl rfl) (by kernel_rfl), ?_⟩
        refine fcs ⟨Ob.new_ (ob_pick_no 55 59 60 (.bool false) rfl rfl (.inl rfl) (by kernel_rfl) rfl rfl) (by kernel_rfl), ?_⟩
        exact fnl
      intro a5 w5 st5 hbr5 hfr
      have hs5 := hbr5.size
      have hb := up hb hbr5
      have st : St 87 [(3, Fact.cell b3 (Con.fr 12 x)), (4, Fact.cell b4 (Con.fr 12 y)), (5, Fact.cell b5 (Con.fr 12 z)), (6, Fact.eq (.bool false)), (7, Fact.eq (.int .i64 (Rt.cp x y))), (60, Fact.eq (.bool false))] a5 w5 := st5.to (fcs ⟨st5.at_ 3, fcs ⟨st5.at_ 4, fcs ⟨st5.at_ 5, fcs ⟨st5.at_ 6, fcs ⟨st5.at_ 7, fcs ⟨st5.at_ 60, fnl⟩⟩⟩⟩⟩⟩)
      clear st5 hbr5 hfr
      refine wpList_nil ?_
      refine then_normal ?_
      refine wp_cond_false (st.at_ 60) ?_
      refine wp_skip ?_
      refine then_normal ?_
      refine wp_seq ?_
      refine wp_seq ?_
      refine sym_region st [(61, Fact.agg (Con.fr 12 x)), (62, Fact.agg (Con.fr 12 z)), (63, Fact.agg (Con.fr 25 (x + z))), (64, Fact.agg (Con.fr 12 y)), (65, Fact.agg (Con.fr 12 z)), (66, Fact.agg (Con.fr 25 (y + z))), (67, Fact.eq (.int .i64 (Rt.cp (x + z) (y + z)))), (68, Fact.eq (.int .i64 (Rt.cp x y))), (69, Fact.eq (.bool false))] [] 9 (by kernel_rfl) (by kernel_rfl) (by kernel_rfl) (Nat.le_of_ble_eq_true rfl) (by kernel_rfl) rfl rfl ?_ ?_
      · refine fcs ⟨Ob.new_ (ob_read 28 3 61 (Con.fr 12 x) rfl rfl (.inl rfl) (by kernel_rfl) points_cell rfl row26 info26) (by kernel_rfl), ?_⟩
        refine fcs ⟨Ob.new_ (ob_read 28 5 62 (Con.fr 12 z) rfl rfl (.inl rfl) (by kernel_rfl) points_cell rfl row26 info26) (by kernel_rfl), ?_⟩
        refine fcs ⟨Ob.new_ (ob_call2 21 61 62 63 _ rfl rfl (.inl rfl) (by kernel_rfl) (by kernel_rfl) (by kernel_rfl) (q_add 12 12 x z (by omega))) (by kernel_rfl), ?_⟩
        refine fcs ⟨Ob.new_ (ob_read 28 4 64 (Con.fr 12 y) rfl rfl (.inl rfl) (by kernel_rfl) points_cell rfl row26 info26) (by kernel_rfl), ?_⟩
        refine fcs ⟨Ob.new_ (ob_read 28 5 65 (Con.fr 12 z) rfl rfl (.inl rfl) (by kernel_rfl) points_cell rfl row26 info26) (by kernel_rfl), ?_⟩
        refine fcs ⟨Ob.new_ (ob_call2 21 64 65 66 _ rfl rfl (.inl rfl) (by kernel_rfl) (by kernel_rfl) (by kernel_rfl) (q_add 12 12 y z (by omega))) (by kernel_rfl), ?_⟩
        refine fcs ⟨Ob.new_ (ob_call2 18 63 66 67 _ rfl rfl (.inl rfl) (by kernel_rfl) (by kernel_rfl) (by kernel_rfl) (q_cmp 25 25 (x + z) (y + z) (by omega))) (by kernel_rfl), ?_⟩
        refine fcs ⟨Ob.new_ (ob_copy 7 68 (.inl rfl) rfl (.inl rfl) (by kernel_rfl) rfl) (by kernel_rfl), ?_⟩
        refine fcs ⟨Ob.new_ (ob_nei 67 68 69 .i64 3 _ (Rt.cp (x + z) (y + z)) (Rt.cp x y) false (bne_no (Rt.cp_add x y z)) rfl rfl (.inl rfl) (by kernel_rfl) (by kernel_rfl) rfl rfl rfl) (by kernel_rfl), ?_⟩
        exact fnl
      intro a6 w6 st6 hbr6 hfr
      have hs6 := hbr6.size
      have hb := up hb hbr6
      have st : St 87 [(3, Fact.cell b3 (Con.fr 12 x)), (4, Fact.cell b4 (Con.fr 12 y)), (5, Fact.cell b5 (Con.fr 12 z)), (6, Fact.eq (.bool false)), (7, Fact.eq (.int .i64 (Rt.cp x y))), (69, Fact.eq (.bool false))] a6 w6 := st6.to (fcs ⟨st6.at_ 3, fcs ⟨st6.at_ 4, fcs ⟨st6.at_ 5, fcs ⟨st6.at_ 6, fcs ⟨st6.at_ 7, fcs ⟨st6.at_ 69, fnl⟩⟩⟩⟩⟩⟩)
      clear st6 hbr6 hfr
      refine wpList_nil ?_
      refine then_normal ?_
      refine wp_cond_false (st.at_ 69) ?_
      refine wp_skip ?_
      refine then_normal ?_
      refine wp_seq ?_
      have st := st.to (ks' := [(3, Fact.cell b3 (Con.fr 12 x)), (4, Fact.cell b4 (Con.fr 12 y)), (5, Fact.cell b5 (Con.fr 12 z)), (7, Fact.eq (.int .i64 (Rt.cp x y))), (69, Fact.eq (.bool false))]) (fcs ⟨st.at_ 3, fcs ⟨st.at_ 4, fcs ⟨st.at_ 5, fcs ⟨st.at_ 7, fcs ⟨st.at_ 69, fnl⟩⟩⟩⟩⟩)
      refine sym_region st [(70, Fact.agg (Con.fr 12 z)), (71, Fact.eq (.int .i64 (Rt.sn z))), (72, Fact.eq (.bool true)), (73, Fact.eq (.bool true)), (74, Fact.eq undef), (75, Fact.eq undef), (76, Fact.eq undef), (77, Fact.eq undef), (78, Fact.eq undef), (79, Fact.eq undef), (80, Fact.eq undef), (81, Fact.eq undef), (82, Fact.eq undef), (83, Fact.eq (.bool true)), (84, Fact.eq (.bool true)), (85, Fact.eq (.bool true)), (86, Fact.eq (.bool true)), (6, Fact.eq (.bool true))] [] 18 (by kernel_rfl) (by kernel_rfl) (by kernel_rfl) (Nat.le_of_ble_eq_true rfl) (by kernel_rfl) rfl rfl ?_ ?_
      · refine fcs ⟨Ob.new_ (ob_read 28 5 70 (Con.fr 12 z) rfl rfl (.inl rfl) (by kernel_rfl) points_cell rfl row26 info26) (by kernel_rfl), ?_⟩
        refine fcs ⟨Ob.new_ (ob_call1 19 70 71 _ rfl rfl (.inl rfl) (by kernel_rfl) (by kernel_rfl) (q_sign 12 z)) (by kernel_rfl), ?_⟩
        refine fcs ⟨Ob.new_ (ob_lec 71 72 .i64 3 _ (Rt.sn z) 0 true h3 rfl rfl (.inl rfl) (by kernel_rfl) rfl rfl) (by kernel_rfl), ?_⟩
        refine fcs ⟨Ob.new_ (ob_copy 72 73 (.inl rfl) rfl (.inl rfl) (by kernel_rfl) rfl) (by kernel_rfl), ?_⟩
        refine fcs ⟨Ob.new_ (ob_skip 3 73 74 false rfl rfl (by kernel_rfl) (by decide) rfl rfl rfl) (by kernel_rfl), ?_⟩
        refine fcs ⟨Ob.new_ (ob_skip 3 73 75 false rfl rfl (by kernel_rfl) (by decide) rfl rfl rfl) (by kernel_rfl), ?_⟩
        refine fcs ⟨Ob.new_ (ob_skip 3 73 76 false rfl rfl (by kernel_rfl) (by decide) rfl rfl rfl) (by kernel_rfl), ?_⟩
        refine fcs ⟨Ob.new_ (ob_skip 3 73 77 false rfl rfl (by kernel_rfl) (by decide) rfl rfl rfl) (by kernel_rfl), ?_⟩
        refine fcs ⟨Ob.new_ (ob_skip 3 73 78 false rfl rfl (by kernel_rfl) (by decide) rfl rfl rfl) (by kernel_rfl), ?_⟩
        refine fcs ⟨Ob.new_ (ob_skip 3 73 79 false rfl rfl (by kernel_rfl) (by decide) rfl rfl rfl) (by kernel_rfl), ?_⟩
        refine fcs ⟨Ob.new_ (ob_skip 3 73 80 false rfl rfl (by kernel_rfl) (by decide) rfl rfl rfl) (by kernel_rfl), ?_⟩
        refine fcs ⟨Ob.new_ (ob_skip 3 73 81 false rfl rfl (by kernel_rfl) (by decide) rfl rfl rfl) (by kernel_rfl), ?_⟩
        refine fcs ⟨Ob.new_ (ob_skip 3 73 82 false rfl rfl (by kernel_rfl) (by decide) rfl rfl rfl) (by kernel_rfl), ?_⟩
        refine fcs ⟨Ob.new_ (ob_pick_or 73 82 83 (.bool true) rfl rfl (.inl rfl) (by kernel_rfl) rfl rfl) (by kernel_rfl), ?_⟩
        refine fcs ⟨Ob.new_ (ob_copy 83 84 (.inl rfl) rfl (.inl rfl) (by kernel_rfl) rfl) (by kernel_rfl), ?_⟩
        refine fcs ⟨Ob.new_ (ob_call0 12 85 _ rfl rfl (.inr ⟨_, _, _, rfl, rfl, by kernel_rfl, by decide, rfl⟩) (by kernel_rfl) w_awake) (by kernel_rfl), ?_⟩
        refine fcs ⟨Ob.new_ (ob_pick 84 85 86 _ rfl rfl (.inl rfl) (by kernel_rfl) (by kernel_rfl) rfl rfl) (by kernel_rfl), ?_⟩
        refine fcs ⟨Ob.new_ (ob_copy 86 6 (.inr rfl) rfl (.inl rfl) (by kernel_rfl) rfl) (by kernel_rfl), ?_⟩
        exact fnl
      intro a7 w7 st7 hbr7 hfr
      have hs7 := hbr7.size
      have hb := up hb hbr7
      have st : St 87 [(6, Fact.eq (.bool true))] a7 w7 := st7.to (fcs ⟨st7.at_ 6, fnl⟩)
      clear st7 hbr7 hfr
      refine wpList_nil ?_
      refine then_normal ?_
      refine wp_ret ?_
      exact sym_ret1 rfl st.defers (resAt_tmp st 6) hb (fun _ h => h)
  | true =>
    cases h2 : decide (Rt.cp y z ≤ 0) with
    | false =>
      cases h3 : decide (Rt.sn z ≤ 0) with
      | false =>
        refine sym_calls 87 [(0, Fact.agg (Con.fr 12 x)), (1, Fact.agg (Con.fr 12 y)), (2, Fact.agg (Con.fr 12 z))] Tryd.func5 rfl rfl (Nat.le_of_ble_eq_true rfl) (fcs ⟨⟨Nat.le_of_ble_eq_true rfl, hv0⟩, fcs ⟨⟨Nat.le_of_ble_eq_true rfl, hv1⟩, fcs ⟨⟨Nat.le_of_ble_eq_true rfl, hv2⟩, fnl⟩⟩⟩) fun a st => ?_
        have hb := Below.refl w.heap.size w
        refine wp_seq ?_
        refine sym_region st [(3, Fact.var' (Con.fr 12 x)), (4, Fact.var' (Con.fr 12 y)), (5, Fact.var' (Con.fr 12 z)), (6, Fact.eq (.bool false))] [3, 4, 5] 4 (by kernel_rfl) (by kernel_rfl) (by kernel_rfl) (Nat.le_of_ble_eq_true rfl) (by kernel_rfl) rfl rfl ?_ ?_
        · refine fcs ⟨obn_box 28 0 3 _ (Con.fr 12 x) rfl rfl rfl (by kernel_rfl) rfl rfl, ?_⟩
          refine fcs ⟨obn_box 28 1 4 _ (Con.fr 12 y) rfl rfl rfl (by kernel_rfl) rfl rfl, ?_⟩
          refine fcs ⟨obn_box 28 2 5 _ (Con.fr 12 z) rfl rfl rfl (by kernel_rfl) rfl rfl, ?_⟩
          refine fcs ⟨Ob.new_ (ob_const (.bool false) 6 (.inr rfl) rfl (.inl rfl) rfl) (by kernel_rfl), ?_⟩
          exact fnl
        intro a1 w1 st1 hbr1 hfr
        have hs1 := hbr1.size
        have hb := up hb hbr1
        obtain ⟨b3, c3⟩ := (show (Fact.var' (Con.fr 12 x)).holds _ _ from st1.at_ 3)
        have g3 := hfr.ge (s := 3) rfl c3.1
        obtain ⟨b4, c4⟩ := (show (Fact.var' (Con.fr 12 y)).holds _ _ from st1.at_ 4)
        have g4 := hfr.ge (s := 4) rfl c4.1
        obtain ⟨b5, c5⟩ := (show (Fact.var' (Con.fr 12 z)).holds _ _ from st1.at_ 5)
        have g5 := hfr.ge (s := 5) rfl c5.1
        have ne3_4 := hfr.apart (s := 3) (t := 4) rfl rfl (by decide) c3.1 c4.1
        have ne3_5 := hfr.apart (s := 3) (t := 5) rfl rfl (by decide) c3.1 c5.1
        have ne4_5 := hfr.apart (s := 4) (t := 5) rfl rfl (by decide) c4.1 c5.1
        have st : St 87 [(3, Fact.cell b3 (Con.fr 12 x)), (4, Fact.cell b4 (Con.fr 12 y)), (5, Fact.cell b5 (Con.fr 12 z)), (6, Fact.eq (.bool false))] a1 w1 := st1.to (fcs ⟨c3, fcs ⟨c4, fcs ⟨c5, fcs ⟨st1.at_ 6, fnl⟩⟩⟩⟩)
        clear st1 hbr1 hfr c3 c4 c5
        refine wpList_nil ?_
        refine then_normal ?_
        refine wp_seq ?_
        refine wp_seq ?_
        refine sym_region st [(8, Fact.agg (Con.fr 12 x)), (9, Fact.eq (.bool true)), (10, Fact.eq (.bool false)), (11, Fact.eq (.bool false)), (12, Fact.agg (Con.fr 12 y)), (13, Fact.eq (.bool true)), (14, Fact.eq (.bool false)), (15, Fact.eq (.bool false)), (16, Fact.eq (.bool false)), (17, Fact.agg (Con.fr 12 z)), (18, Fact.eq (.bool true)), (19, Fact.eq (.bool false)), (20, Fact.eq (.bool false))] [] 13 (by kernel_rfl) (by kernel_rfl) (by kernel_rfl) (Nat.le_of_ble_eq_true rfl) (by kernel_rfl) rfl rfl ?_ ?_
        · refine fcs ⟨Ob.new_ (ob_read 28 3 8 (Con.fr 12 x) rfl rfl (.inl rfl) (by kernel_rfl) points_cell rfl row26 info26) (by kernel_rfl), ?_⟩
          refine fcs ⟨Ob.new_ (ob_call1 17 8 9 _ rfl rfl (.inl rfl) (by kernel_rfl) (by kernel_rfl) (w_fit_yes x)) (by kernel_rfl), ?_⟩
          refine fcs ⟨Ob.new_ (ob_not 9 10 true false rfl rfl rfl (.inl rfl) (by kernel_rfl) rfl rfl) (by kernel_rfl), ?_⟩
          refine fcs ⟨Ob.new_ (ob_copy 10 11 (.inl rfl) rfl (.inl rfl) (by kernel_rfl) rfl) (by kernel_rfl), ?_⟩
          refine fcs ⟨Ob.new_ (ob_read 28 4 12 (Con.fr 12 y) rfl rfl (.inr ⟨_, _, _, rfl, rfl, by kernel_rfl, by decide, rfl⟩) (by kernel_rfl) points_cell rfl row26 info26) (by kernel_rfl), ?_⟩
          refine fcs ⟨Ob.new_ (ob_call1 17 12 13 _ rfl rfl (.inr ⟨_, _, _, rfl, rfl, by kernel_rfl, by decide, rfl⟩) (by kernel_rfl) (by kernel_rfl) (w_fit_yes y)) (by kernel_rfl), ?_⟩
          refine fcs ⟨Ob.new_ (ob_not 13 14 true false rfl rfl rfl (.inr ⟨_, _, _, rfl, rfl, by kernel_rfl, by decide, rfl⟩) (by kernel_rfl) rfl rfl) (by kernel_rfl), ?_⟩
          refine fcs ⟨Ob.new_ (ob_pick_else 11 14 15 (.bool true) rfl rfl (.inl rfl) (by kernel_rfl) (by kernel_rfl) rfl rfl) (by kernel_rfl), ?_⟩
          refine fcs ⟨Ob.new_ (ob_copy 15 16 (.inl rfl) rfl (.inl rfl) (by kernel_rfl) rfl) (by kernel_rfl), ?_⟩
          refine fcs ⟨Ob.new_ (ob_read 28 5 17 (Con.fr 12 z) rfl rfl (.inr ⟨_, _, _, rfl, rfl, by kernel_rfl, by decide, rfl⟩) (by kernel_rfl) points_cell rfl row26 info26) (by kernel_rfl), ?_⟩
          refine fcs ⟨Ob.new_ (ob_call1 17 17 18 _ rfl rfl (.inr ⟨_, _, _, rfl, rfl, by kernel_rfl, by decide, rfl⟩) (by kernel_rfl) (by kernel_rfl) (w_fit_yes z)) (by kernel_rfl), ?_⟩
          refine fcs ⟨Ob.new_ (ob_not 18 19 true false rfl rfl rfl (.inr ⟨_, _, _, rfl, rfl, by kernel_rfl, by decide, rfl⟩) (by kernel_rfl) rfl rfl) (by kernel_rfl), ?_⟩
          refine fcs ⟨Ob.new_ (ob_pick_else 16 19 20 (.bool true) rfl rfl (.inl rfl) (by kernel_rfl) (by kernel_rfl) rfl rfl) (by kernel_rfl), ?_⟩
          exact fnl
        intro a2 w2 st2 hbr2 hfr
        have hs2 := hbr2.size
        have hb := up hb hbr2
        have st : St 87 [(3, Fact.cell b3 (Con.fr 12 x)), (4, Fact.cell b4 (Con.fr 12 y)), (5, Fact.cell b5 (Con.fr 12 z)), (6, Fact.eq (.bool false)), (20, Fact.eq (.bool false))] a2 w2 := st2.to (fcs ⟨st2.at_ 3, fcs ⟨st2.at_ 4, fcs ⟨st2.at_ 5, fcs ⟨st2.at_ 6, fcs ⟨st2.at_ 20, fnl⟩⟩⟩⟩⟩)
        clear st2 hbr2 hfr
        refine wpList_nil ?_
        refine then_normal ?_
        refine wp_cond_false (st.at_ 20) ?_
        refine wp_skip ?_
        refine then_normal ?_
        refine wp_seq ?_
        refine sym_region st [(22, Fact.agg (Con.fr 12 x)), (23, Fact.agg (Con.fr 12 y)), (24, Fact.eq (.int .i64 (Rt.cp x y))), (7, Fact.eq (.int .i64 (Rt.cp x y)))] [] 4 (by kernel_rfl) (by kernel_rfl) (by kernel_rfl) (Nat.le_of_ble_eq_true rfl) (by kernel_rfl) rfl rfl ?_ ?_
        · refine fcs ⟨Ob.new_ (ob_read 28 3 22 (Con.fr 12 x) rfl rfl (.inl rfl) (by kernel_rfl) points_cell rfl row26 info26) (by kernel_rfl), ?_⟩
          refine fcs ⟨Ob.new_ (ob_read 28 4 23 (Con.fr 12 y) rfl rfl (.inl rfl) (by kernel_rfl) points_cell rfl row26 info26) (by kernel_rfl), ?_⟩
          refine fcs ⟨Ob.new_ (ob_call2 18 22 23 24 _ rfl rfl (.inl rfl) (by kernel_rfl) (by kernel_rfl) (by kernel_rfl) (q_cmp 12 12 x y (by omega))) (by kernel_rfl), ?_⟩
          refine fcs ⟨Ob.new_ (ob_copy 24 7 (.inr rfl) rfl (.inl rfl) (by kernel_rfl) rfl) (by kernel_rfl), ?_⟩
          exact fnl
        intro a3 w3 st3 hbr3 hfr
        have hs3 := hbr3.size
        have hb := up hb hbr3
        have st : St 87 [(3, Fact.cell b3 (Con.fr 12 x)), (4, Fact.cell b4 (Con.fr 12 y)), (5, Fact.cell b5 (Con.fr 12 z)), (6, Fact.eq (.bool false)), (7, Fact.eq (.int .i64 (Rt.cp x y)))] a3 w3 := st3.to (fcs ⟨st3.at_ 3, fcs ⟨st3.at_ 4, fcs ⟨st3.at_ 5, fcs ⟨st3.at_ 6, fcs ⟨st3.at_ 7, fnl⟩⟩⟩⟩⟩)
        clear st3 hbr3 hfr
        refine wpList_nil ?_
        refine then_normal ?_
        refine wp_seq ?_
        refine wp_seq ?_
        refine sym_region st [(25, Fact.eq (.int .i64 (Rt.cp x y))), (26, Fact.agg (Con.fr 12 x)), (27, Fact.agg (Con.fr 12 y)), (28, Fact.agg (Con.fr 25 (x - y))), (29, Fact.eq (.int .i64 (Rt.sn (x - y)))), (30, Fact.eq (.bool false)), (31, Fact.eq (.bool false)), (32, Fact.agg (Con.fr 12 y)), (33, Fact.agg (Con.fr 12 x)), (34, Fact.eq (.int .i64 (Rt.cp y x))), (35, Fact.eq (.int .i64 (Rt.cp x y))), (36, Fact.eq (.int .i64 (-(Rt.cp x y)))), (37, Fact.eq (.bool false)), (38, Fact.eq (.bool false)), (39, Fact.eq (.bool false)), (40, Fact.eq (.int .i64 (Rt.cp x y))), (41, Fact.eq (.bool ((Rt.cp x y) == 0))), (42, Fact.agg (Con.fr 12 x)), (43, Fact.agg (Con.fr 12 y)), (44, Fact.eq (.bool (decide (x = y)))), (45, Fact.eq (.bool false)), (46, Fact.eq (.bool false))] [] 22 (by kernel_rfl) (by kernel_rfl) (by kernel_rfl) (Nat.le_of_ble_eq_true rfl) (by kernel_rfl) rfl rfl ?_ ?_
        · refine fcs ⟨Ob.new_ (ob_copy 7 25 (.inl rfl) rfl (.inl rfl) (by kernel_rfl) rfl) (by kernel_rfl), ?_⟩
          refine fcs ⟨Ob.new_ (ob_read 28 3 26 (Con.fr 12 x) rfl rfl (.inl rfl) (by kernel_rfl) points_cell rfl row26 info26) (by kernel_rfl), ?_⟩
          refine fcs ⟨Ob.new_ (ob_read 28 4 27 (Con.fr 12 y) rfl rfl (.inl rfl) (by kernel_rfl) points_cell rfl row26 info26) (by kernel_rfl), ?_⟩
          refine fcs ⟨Ob.new_ (ob_call2 20 26 27 28 _ rfl rfl (.inl rfl) (by kernel_rfl) (by kernel_rfl) (by kernel_rfl) (q_sub 12 12 x y (by omega))) (by kernel_rfl), ?_⟩
          refine fcs ⟨Ob.new_ (ob_call1 19 28 29 _ rfl rfl (.inl rfl) (by kernel_rfl) (by kernel_rfl) (q_sign 25 (x - y))) (by kernel_rfl), ?_⟩
          refine fcs ⟨Ob.new_ (ob_nei 25 29 30 .i64 3 _ (Rt.cp x y) (Rt.sn (x - y)) false (bne_no (Rt.cp_sub x y)) rfl rfl (.inl rfl) (by kernel_rfl) (by kernel_rfl) rfl rfl rfl) (by kernel_rfl), ?_⟩
          refine fcs ⟨Ob.new_ (ob_copy 30 31 (.inl rfl) rfl (.inl rfl) (by kernel_rfl) rfl) (by kernel_rfl), ?_⟩
          refine fcs ⟨Ob.new_ (ob_read 28 4 32 (Con.fr 12 y) rfl rfl (.inr ⟨_, _, _, rfl, rfl, by kernel_rfl, by decide, rfl⟩) (by kernel_rfl) points_cell rfl row26 info26) (by kernel_rfl), ?_⟩
          refine fcs ⟨Ob.new_ (ob_read 28 3 33 (Con.fr 12 x) rfl rfl (.inr ⟨_, _, _, rfl, rfl, by kernel_rfl, by decide, rfl⟩) (by kernel_rfl) points_cell rfl row26 info26) (by kernel_rfl), ?_⟩
          refine fcs ⟨Ob.new_ (ob_call2 18 32 33 34 _ rfl rfl (.inr ⟨_, _, _, rfl, rfl, by kernel_rfl, by decide, rfl⟩) (by kernel_rfl) (by kernel_rfl) (by kernel_rfl) (q_cmp 12 12 y x (by omega))) (by kernel_rfl), ?_⟩
          refine fcs ⟨Ob.new_ (ob_copy 7 35 (.inl rfl) rfl (.inr ⟨_, _, _, rfl, rfl, by kernel_rfl, by decide, rfl⟩) (by kernel_rfl) rfl) (by kernel_rfl), ?_⟩
          refine fcs ⟨Ob.new_ (ob_negk .i64 35 36 (Rt.cp x y) (-(Rt.cp x y)) _ (cp_neg _ _) rfl rfl (.inr ⟨_, _, _, rfl, rfl, by kernel_rfl, by decide, rfl⟩) (by kernel_rfl) rfl rfl) (by kernel_rfl), ?_⟩
          refine fcs ⟨Ob.new_ (ob_nei 34 36 37 .i64 3 _ (Rt.cp y x) (-(Rt.cp x y)) false (bne_no (Rt.cp_swap x y)) rfl rfl (.inr ⟨_, _, _, rfl, rfl, by kernel_rfl, by decide, rfl⟩) (by kernel_rfl) (by kernel_rfl) rfl rfl rfl) (by kernel_rfl), ?_⟩
          refine fcs ⟨Ob.new_ (ob_pick_else 31 37 38 (.bool true) rfl rfl (.inl rfl) (by kernel_rfl) (by kernel_rfl) rfl rfl) (by kernel_rfl), ?_⟩
          refine fcs ⟨Ob.new_ (ob_copy 38 39 (.inl rfl) rfl (.inl rfl) (by kernel_rfl) rfl) (by kernel_rfl), ?_⟩
          refine fcs ⟨Ob.new_ (ob_copy 7 40 (.inl rfl) rfl (.inr ⟨_, _, _, rfl, rfl, by kernel_rfl, by decide, rfl⟩) (by kernel_rfl) rfl) (by kernel_rfl), ?_⟩
          refine fcs ⟨Ob.new_ (ob_eqc 40 41 .i64 3 _ (Rt.cp x y) 0 ((Rt.cp x y) == 0) rfl rfl rfl (.inr ⟨_, _, _, rfl, rfl, by kernel_rfl, by decide, rfl⟩) (by kernel_rfl) rfl rfl) (by kernel_rfl), ?_⟩
          refine fcs ⟨Ob.new_ (ob_read 28 3 42 (Con.fr 12 x) rfl rfl (.inr ⟨_, _, _, rfl, rfl, by kernel_rfl, by decide, rfl⟩) (by kernel_rfl) points_cell rfl row26 info26) (by kernel_rfl), ?_⟩
          refine fcs ⟨Ob.new_ (ob_read 28 4 43 (Con.fr 12 y) rfl rfl (.inr ⟨_, _, _, rfl, rfl, by kernel_rfl, by decide, rfl⟩) (by kernel_rfl) points_cell rfl row26 info26) (by kernel_rfl), ?_⟩
          refine fcs ⟨Ob.new_ (ob_call2 8 42 43 44 _ rfl rfl (.inr ⟨_, _, _, rfl, rfl, by kernel_rfl, by decide, rfl⟩) (by kernel_rfl) (by kernel_rfl) (by kernel_rfl) (z_same 12 12 x y (decide (x = y)) rfl)) (by kernel_rfl), ?_⟩
          refine fcs ⟨Ob.new_ (ob_neb 41 44 45 ((Rt.cp x y) == 0) (decide (x = y)) false (or_zero x y) rfl rfl (.inr ⟨_, _, _, rfl, rfl, by kernel_rfl, by decide, rfl⟩) (by kernel_rfl) (by kernel_rfl) rfl rfl rfl) (by kernel_rfl), ?_⟩
          refine fcs ⟨Ob.new_ (ob_pick_else 39 45 46 (.bool true) rfl rfl (.inl rfl) (by kernel_rfl) (by kernel_rfl) rfl rfl) (by kernel_rfl), ?_⟩
          exact fnl
        intro a4 w4 st4 hbr4 hfr
        have hs4 := hbr4.size
        have hb := up hb hbr4
        have st : St 87 [(3, Fact.cell b3 (Con.fr 12 x)), (4, Fact.cell b4 (Con.fr 12 y)), (5, Fact.cell b5 (Con.fr 12 z)), (6, Fact.eq (.bool false)), (7, Fact.eq (.int .i64 (Rt.cp x y))), (46, Fact.eq (.bool false))] a4 w4 := st4.to (fcs ⟨st4.at_ 3, fcs ⟨st4.at_ 4, fcs ⟨st4.at_ 5, fcs ⟨st4.at_ 6, fcs ⟨st4.at_ 7, fcs ⟨st4.at_ 46, fnl⟩⟩⟩⟩⟩⟩)
        clear st4 hbr4 hfr
        refine wpList_nil ?_
        refine then_normal ?_
        refine wp_cond_false (st.at_ 46) ?_
        refine wp_skip ?_
        refine then_normal ?_
        refine wp_seq ?_
        refine wp_seq ?_
        refine sym_region st [(47, Fact.eq (.int .i64 (Rt.cp x y))), (48, Fact.eq (.bool true)), (49, Fact.eq (.bool true)), (50, Fact.agg (Con.fr 12 y)), (51, Fact.agg (Con.fr 12 z)), (52, Fact.eq (.int .i64 (Rt.cp y z))), (53, Fact.eq (.bool false)), (54, Fact.eq (.bool false)), (55, Fact.eq (.bool false)), (56, Fact.eq undef), (57, Fact.eq undef), (58, Fact.eq undef), (59, Fact.eq undef), (60, Fact.eq (.bool false))] [] 14 (by kernel_rfl) (by kernel_rfl) (by kernel_rfl) (Nat.le_of_ble_eq_true rfl) (by kernel_rfl) rfl rfl ?_ ?_
        · refine fcs ⟨Ob.new_ (ob_copy 7 47 (.inl rfl) rfl (.inl rfl) (by kernel_rfl) rfl) (by kernel_rfl), ?_⟩
          refine fcs ⟨Ob.new_ (ob_lec 47 48 .i64 3 _ (Rt.cp x y) 0 true h1 rfl rfl (.inl rfl) (by kernel_rfl) rfl rfl) (by kernel_rfl), ?_⟩
          refine fcs ⟨Ob.new_ (ob_copy 48 49 (.inl rfl) rfl (.inl rfl) (by kernel_rfl) rfl) (by kernel_rfl), ?_⟩
          refine fcs ⟨Ob.new_ (ob_read 28 4 50 (Con.fr 12 y) rfl rfl (.inr ⟨_, _, _, rfl, rfl, by kernel_rfl, by decide, rfl⟩) (by kernel_rfl) points_cell rfl row26 info26) (by kernel_rfl), ?_⟩
          refine fcs ⟨Ob.new_ (ob_read 28 5 51 (Con.fr 12 z) rfl rfl (.inr ⟨_, _, _, rfl, rfl, by kernel_rfl, by decide, rfl⟩) (by kernel_rfl) points_cell rfl row26 info26) (by kernel_rfl), ?_⟩
          refine fcs ⟨Ob.new_ (ob_call2 18 50 51 52 _ rfl rfl (.inr ⟨_, _, _, rfl, rfl, by kernel_rfl, by decide, rfl⟩) (by kernel_rfl) (by kernel_rfl) (by kernel_rfl) (q_cmp 12 12 y z (by omega))) (by kernel_rfl), ?_⟩
          refine fcs ⟨Ob.new_ (ob_lec 52 53 .i64 3 _ (Rt.cp y z) 0 false h2 rfl rfl (.inr ⟨_, _, _, rfl, rfl, by kernel_rfl, by decide, rfl⟩) (by kernel_rfl) rfl rfl) (by kernel_rfl), ?_⟩
          refine fcs ⟨Ob.new_ (ob_pick 49 53 54 _ rfl rfl (.inl rfl) (by kernel_rfl) (by kernel_rfl) rfl rfl) (by kernel_rfl), ?_⟩
          refine fcs ⟨Ob.new_ (ob_copy 54 55 (.inl rfl) rfl (.inl rfl) (by kernel_rfl) rfl) (by kernel_rfl), ?_⟩
          refine fcs ⟨Ob.new_ (ob_skip 8 55 56 true rfl rfl (by kernel_rfl) (by decide) rfl rfl rfl) (by kernel_rfl), ?_⟩
          refine fcs ⟨Ob.new_ (ob_skip 8 55 57 true rfl rfl (by kernel_rfl) (by decide) rfl rfl rfl) (by kernel_rfl), ?_⟩
          refine fcs ⟨Ob.new_ (ob_skip 8 55 58 true rfl rfl (by kernel_rfl) (by decide) rfl rfl rfl) (by kernel_rfl), ?_⟩
          refine fcs ⟨Ob.new_ (ob_skip 8 55 59 true rfl rfl (by kernel_rfl) (by decide) rfl rfl rfl) (by kernel_rfl), ?_⟩
          refine fcs ⟨Ob.new_ (ob_pick_no 55 59 60 (.bool false) rfl rfl (.inl rfl) (by kernel_rfl) rfl rfl) (by kernel_rfl), ?_⟩
          exact fnl
        intro a5 w5 st5 hbr5 hfr
        have hs5 := hbr5.size
        have hb := up hb hbr5
        have st : St 87 [(3, Fact.cell b3 (Con.fr 12 x)), (4, Fact.cell b4 (Con.fr 12 y)), (5, Fact.cell b5 (Con.fr 12 z)), (6, Fact.eq (.bool false)), (7, Fact.eq (.int .i64 (Rt.cp x y))), (60, Fact.eq (.bool false))] a5 w5 := st5.to (fcs ⟨st5.at_ 3, fcs ⟨st5.at_ 4, fcs ⟨st5.at_ 5, fcs ⟨st5.at_ 6, fcs ⟨st5.at_ 7, fcs ⟨st5.at_ 60, fnl⟩⟩⟩⟩⟩⟩)
        clear st5 hbr5 hfr
        refine wpList_nil ?_
        refine then_normal ?_
        refine wp_cond_false (st.at_ 60) ?_
        refine wp_skip ?_
        refine then_normal ?_
        refine wp_seq ?_
        refine wp_seq ?_
        refine sym_region st [(61, Fact.agg (Con.fr 12 x)), (62, Fact.agg (Con.fr 12 z)), (63, Fact.agg (Con.fr 25 (x + z))), (64, Fact.agg (Con.fr 12 y)), (65, Fact.agg (Con.fr 12 z)), (66, Fact.agg (Con.fr 25 (y + z))), (67, Fact.eq (.int .i64 (Rt.cp (x + z) (y + z)))), (68, Fact.eq (.int .i64 (Rt.cp x y))), (69, Fact.eq (.bool false))] [] 9 (by kernel_rfl) (by kernel_rfl) (by kernel_rfl) (Nat.le_of_ble_eq_true rfl) (by kernel_rfl) rfl rfl ?_ ?_
        · refine fcs ⟨Ob.new_ (ob_read 28 3 61 (Con.fr 12 x) rfl rfl (.inl rfl) (by kernel_rfl) points_cell rfl row26 info26) (by kernel_rfl), ?_⟩
          refine fcs ⟨Ob.new_ (ob_read 28 5 62 (Con.fr 12 z) rfl rfl (.inl rfl) (by kernel_rfl) points_cell rfl row26 info26) (by kernel_rfl), ?_⟩
          refine fcs ⟨Ob.new_ (ob_call2 21 61 62 63 _ rfl rfl (.inl rfl) (by kernel_rfl) (by kernel_rfl) (by kernel_rfl) (q_add 12 12 x z (by omega))) (by kernel_rfl), ?_⟩
          refine fcs ⟨Ob.new_ (ob_read 28 4 64 (Con.fr 12 y) rfl rfl (.inl rfl) (by kernel_rfl) points_cell rfl row26 info26) (by kernel_rfl), ?_⟩
          refine fcs ⟨Ob.new_ (ob_read 28 5 65 (Con.fr 12 z) rfl rfl (.inl rfl) (by kernel_rfl) points_cell rfl row26 info26) (by kernel_rfl), ?_⟩
          refine fcs ⟨Ob.new_ (ob_call2 21 64 65 66 _ rfl rfl (.inl rfl) (by kernel_rfl) (by kernel_rfl) (by kernel_rfl) (q_add 12 12 y z (by omega))) (by kernel_rfl), ?_⟩
          refine fcs ⟨Ob.new_ (ob_call2 18 63 66 67 _ rfl rfl (.inl rfl) (by kernel_rfl) (by kernel_rfl) (by kernel_rfl) (q_cmp 25 25 (x + z) (y + z) (by omega))) (by kernel_rfl), ?_⟩
          refine fcs ⟨Ob.new_ (ob_copy 7 68 (.inl rfl) rfl (.inl rfl) (by kernel_rfl) rfl) (by kernel_rfl), ?_⟩
          refine fcs ⟨Ob.new_ (ob_nei 67 68 69 .i64 3 _ (Rt.cp (x + z) (y + z)) (Rt.cp x y) false (bne_no (Rt.cp_add x y z)) rfl rfl (.inl rfl) (by kernel_rfl) (by kernel_rfl) rfl rfl rfl) (by kernel_rfl), ?_⟩
          exact fnl
        intro a6 w6 st6 hbr6 hfr
        have hs6 := hbr6.size
        have hb := up hb hbr6
        have st : St 87 [(3, Fact.cell b3 (Con.fr 12 x)), (4, Fact.cell b4 (Con.fr 12 y)), (5, Fact.cell b5 (Con.fr 12 z)), (6, Fact.eq (.bool false)), (7, Fact.eq (.int .i64 (Rt.cp x y))), (69, Fact.eq (.bool false))] a6 w6 := st6.to (fcs ⟨st6.at_ 3, fcs ⟨st6.at_ 4, fcs ⟨st6.at_ 5, fcs ⟨st6.at_ 6, fcs ⟨st6.at_ 7, fcs ⟨st6.at_ 69, fnl⟩⟩⟩⟩⟩⟩)
        clear st6 hbr6 hfr
        refine wpList_nil ?_
        refine then_normal ?_
        refine wp_cond_false (st.at_ 69) ?_
        refine wp_skip ?_
        refine then_normal ?_
        refine wp_seq ?_
        have st := st.to (ks' := [(3, Fact.cell b3 (Con.fr 12 x)), (4, Fact.cell b4 (Con.fr 12 y)), (5, Fact.cell b5 (Con.fr 12 z)), (7, Fact.eq (.int .i64 (Rt.cp x y))), (69, Fact.eq (.bool false))]) (fcs ⟨st.at_ 3, fcs ⟨st.at_ 4, fcs ⟨st.at_ 5, fcs ⟨st.at_ 7, fcs ⟨st.at_ 69, fnl⟩⟩⟩⟩⟩)
        refine sym_region st [(70, Fact.agg (Con.fr 12 z)), (71, Fact.eq (.int .i64 (Rt.sn z))), (72, Fact.eq (.bool false)), (73, Fact.eq (.bool false)), (74, Fact.agg (Con.fr 12 x)), (75, Fact.agg (Con.fr 12 z)), (76, Fact.agg (Con.fr 24 (x * z))), (77, Fact.agg (Con.fr 12 y)), (78, Fact.agg (Con.fr 12 z)), (79, Fact.agg (Con.fr 24 (y * z))), (80, Fact.eq (.int .i64 (Rt.cp (x * z) (y * z)))), (81, Fact.eq (.int .i64 (Rt.cp x y))), (82, Fact.eq (.bool true)), (83, Fact.eq (.bool true)), (84, Fact.eq (.bool true)), (85, Fact.eq (.bool true)), (86, Fact.eq (.bool true)), (6, Fact.eq (.bool true))] [] 18 (by kernel_rfl) (by kernel_rfl) (by kernel_rfl) (Nat.le_of_ble_eq_true rfl) (by kernel_rfl) rfl rfl ?_ ?_
        · refine fcs ⟨Ob.new_ (ob_read 28 5 70 (Con.fr 12 z) rfl rfl (.inl rfl) (by kernel_rfl) points_cell rfl row26 info26) (by kernel_rfl), ?_⟩
          refine fcs ⟨Ob.new_ (ob_call1 19 70 71 _ rfl rfl (.inl rfl) (by kernel_rfl) (by kernel_rfl) (q_sign 12 z)) (by kernel_rfl), ?_⟩
          refine fcs ⟨Ob.new_ (ob_lec 71 72 .i64 3 _ (Rt.sn z) 0 false h3 rfl rfl (.inl rfl) (by kernel_rfl) rfl rfl) (by kernel_rfl), ?_⟩
          refine fcs ⟨Ob.new_ (ob_copy 72 73 (.inl rfl) rfl (.inl rfl) (by kernel_rfl) rfl) (by kernel_rfl), ?_⟩
          refine fcs ⟨Ob.new_ (ob_read 28 3 74 (Con.fr 12 x) rfl rfl (.inr ⟨_, _, _, rfl, rfl, by kernel_rfl, by decide, rfl⟩) (by kernel_rfl) points_cell rfl row26 info26) (by kernel_rfl), ?_⟩
          refine fcs ⟨Ob.new_ (ob_read 28 5 75 (Con.fr 12 z) rfl rfl (.inr ⟨_, _, _, rfl, rfl, by kernel_rfl, by decide, rfl⟩) (by kernel_rfl) points_cell rfl row26 info26) (by kernel_rfl), ?_⟩
          refine fcs ⟨Ob.new_ (ob_call2 22 74 75 76 _ rfl rfl (.inr ⟨_, _, _, rfl, rfl, by kernel_rfl, by decide, rfl⟩) (by kernel_rfl) (by kernel_rfl) (by kernel_rfl) (q_mul 12 12 x z (by omega))) (by kernel_rfl), ?_⟩
          refine fcs ⟨Ob.new_ (ob_read 28 4 77 (Con.fr 12 y) rfl rfl (.inr ⟨_, _, _, rfl, rfl, by kernel_rfl, by decide, rfl⟩) (by kernel_rfl) points_cell rfl row26 info26) (by kernel_rfl), ?_⟩
          refine fcs ⟨Ob.new_ (ob_read 28 5 78 (Con.fr 12 z) rfl rfl (.inr ⟨_, _, _, rfl, rfl, by kernel_rfl, by decide, rfl⟩) (by kernel_rfl) points_cell rfl row26 info26) (by kernel_rfl), ?_⟩
          refine fcs ⟨Ob.new_ (ob_call2 22 77 78 79 _ rfl rfl (.inr ⟨_, _, _, rfl, rfl, by kernel_rfl, by decide, rfl⟩) (by kernel_rfl) (by kernel_rfl) (by kernel_rfl) (q_mul 12 12 y z (by omega))) (by kernel_rfl), ?_⟩
          refine fcs ⟨Ob.new_ (ob_call2 18 76 79 80 _ rfl rfl (.inr ⟨_, _, _, rfl, rfl, by kernel_rfl, by decide, rfl⟩) (by kernel_rfl) (by kernel_rfl) (by kernel_rfl) (q_cmp 24 24 (x * z) (y * z) (by omega))) (by kernel_rfl), ?_⟩
          refine fcs ⟨Ob.new_ (ob_copy 7 81 (.inl rfl) rfl (.inr ⟨_, _, _, rfl, rfl, by kernel_rfl, by decide, rfl⟩) (by kernel_rfl) rfl) (by kernel_rfl), ?_⟩
          refine fcs ⟨Ob.new_ (ob_eqi 80 81 82 .i64 3 _ (Rt.cp (x * z) (y * z)) (Rt.cp x y) true (or_mul h3) rfl rfl (.inr ⟨_, _, _, rfl, rfl, by kernel_rfl, by decide, rfl⟩) (by kernel_rfl) (by kernel_rfl) rfl rfl rfl) (by kernel_rfl), ?_⟩
          refine fcs ⟨Ob.new_ (ob_pick_else 73 82 83 (.bool true) rfl rfl (.inl rfl) (by kernel_rfl) (by kernel_rfl) rfl rfl) (by kernel_rfl), ?_⟩
          refine fcs ⟨Ob.new_ (ob_copy 83 84 (.inl rfl) rfl (.inl rfl) (by kernel_rfl) rfl) (by kernel_rfl), ?_⟩
          refine fcs ⟨Ob.new_ (ob_call0 12 85 _ rfl rfl (.inr ⟨_, _, _, rfl, rfl, by kernel_rfl, by decide, rfl⟩) (by kernel_rfl) w_awake) (by kernel_rfl), ?_⟩
          refine fcs ⟨Ob.new_ (ob_pick 84 85 86 _ rfl rfl (.inl rfl) (by kernel_rfl) (by kernel_rfl) rfl rfl) (by kernel_rfl), ?_⟩
          refine fcs ⟨Ob.new_ (ob_copy 86 6 (.inr rfl) rfl (.inl rfl) (by kernel_rfl) rfl) (by kernel_rfl), ?_⟩
          exact fnl
        intro a7 w7 st7 hbr7 hfr
        have hs7 := hbr7.size
        have hb := up hb hbr7
        have st : St 87 [(6, Fact.eq (.bool true))] a7 w7 := st7.to (fcs ⟨st7.at_ 6, fnl⟩)
        clear st7 hbr7 hfr
        refine wpList_nil ?_
        refine then_normal ?_
        refine wp_ret ?_
        exact sym_ret1 rfl st.defers (resAt_tmp st 6) hb (fun _ h => h)
      | true =>
        refine sym_calls 87 [(0, Fact.agg (Con.fr 12 x)), (1, Fact.agg (Con.fr 12 y)), (2, Fact.agg (Con.fr 12 z))] Tryd.func5 rfl rfl (Nat.le_of_ble_eq_true rfl) (fcs ⟨⟨Nat.le_of_ble_eq_true rfl, hv0⟩, fcs ⟨⟨Nat.le_of_ble_eq_true rfl, hv1⟩, fcs ⟨⟨Nat.le_of_ble_eq_true rfl, hv2⟩, fnl⟩⟩⟩) fun a st => ?_
        have hb := Below.refl w.heap.size w
        refine wp_seq ?_
        refine sym_region st [(3, Fact.var' (Con.fr 12 x)), (4, Fact.var' (Con.fr 12 y)), (5, Fact.var' (Con.fr 12 z)), (6, Fact.eq (.bool false))] [3, 4, 5] 4 (by kernel_rfl) (by kernel_rfl) (by kernel_rfl) (Nat.le_of_ble_eq_true rfl) (by kernel_rfl) rfl rfl ?_ ?_
        · refine fcs ⟨obn_box 28 0 3 _ (Con.fr 12 x) rfl rfl rfl (by kernel_rfl) rfl rfl, ?_⟩
          refine fcs ⟨obn_box 28 1 4 _ (Con.fr 12 y) rfl rfl rfl (by kernel_rfl) rfl rfl, ?_⟩
          refine fcs ⟨obn_box 28 2 5 _ (Con.fr 12 z) rfl rfl rfl (by kernel_rfl) rfl rfl, ?_⟩
          refine fcs ⟨Ob.new_ (ob_const (.bool false) 6 (.inr rfl) rfl (.inl rfl) rfl) (by kernel_rfl), ?_⟩
          exact fnl
        intro a1 w1 st1 hbr1 hfr
        have hs1 := hbr1.size
        have hb := up hb hbr1
        obtain ⟨b3, c3⟩ := (show (Fact.var' (Con.fr 12 x)).holds _ _ from st1.at_ 3)
        have g3 := hfr.ge (s := 3) rfl c3.1
        obtain ⟨b4, c4⟩ := (show (Fact.var' (Con.fr 12 y)).holds _ _ from st1.at_ 4)
        have g4 := hfr.ge (s := 4) rfl c4.1
        obtain ⟨b5, c5⟩ := (show (Fact.var' (Con.fr 12 z)).holds _ _ from st1.at_ 5)
        have g5 := hfr.ge (s := 5) rfl c5.1
        have ne3_4 := hfr.apart (s := 3) (t := 4) rfl rfl (by decide) c3.1 c4.1
        have ne3_5 := hfr.apart (s := 3) (t := 5) rfl rfl (by decide) c3.1 c5.1
        have ne4_5 := hfr.apart (s := 4) (t := 5) rfl rfl (by decide) c4.1 c5.1
        have st : St 87 [(3, Fact.cell b3 (Con.fr 12 x)), (4, Fact.cell b4 (Con.fr 12 y)), (5, Fact.cell b5 (Con.fr 12 z)), (6, Fact.eq (.bool false))] a1 w1 := st1.to (fcs ⟨c3, fcs ⟨c4, fcs ⟨c5, fcs ⟨st1.at_ 6, fnl⟩⟩⟩⟩)
        clear st1 hbr1 hfr c3 c4 c5
        refine wpList_nil ?_
        refine then_normal ?_
        refine wp_seq ?_
        refine wp_seq ?_
        refine sym_region st [(8, Fact.agg (Con.fr 12 x)), (9, Fact.eq (.bool true)), (10, Fact.eq (.bool false)), (11, Fact.eq (.bool false)), (12, Fact.agg (Con.fr 12 y)), (13, Fact.eq (.bool true)), (14, Fact.eq (.bool false)), (15, Fact.eq (.bool false)), (16, Fact.eq (.bool false)), (17, Fact.agg (Con.fr 12 z)), (18, Fact.eq (.bool true)), (19, Fact.eq (.bool false)), (20, Fact.eq (.bool false))] [] 13 (by kernel_rfl) (by kernel_rfl) (by kernel_rfl) (Nat.le_of_ble_eq_true rfl) (by kernel_rfl) rfl rfl ?_ ?_
        · refine fcs ⟨Ob.new_ (ob_read 28 3 8 (Con.fr 12 x) rfl rfl (.inl rfl) (by kernel_rfl) points_cell rfl row26 info26) (by kernel_rfl), ?_⟩
          refine fcs ⟨Ob.new_ (ob_call1 17 8 9 _ rfl rfl (.inl rfl) (by kernel_rfl) (by kernel_rfl) (w_fit_yes x)) (by kernel_rfl), ?_⟩
          refine fcs ⟨Ob.new_ (ob_not 9 10 true false rfl rfl rfl (.inl rfl) (by kernel_rfl) rfl rfl) (by kernel_rfl), ?_⟩
          refine fcs ⟨Ob.new_ (ob_copy 10 11 (.inl rfl) rfl (.inl rfl) (by kernel_rfl) rfl) (by kernel_rfl), ?_⟩
          refine fcs ⟨Ob.new_ (ob_read 28 4 12 (Con.fr 12 y) rfl rfl (.inr ⟨_, _, _, rfl, rfl, by kernel_rfl, by decide, rfl⟩) (by kernel_rfl) points_cell rfl row26 info26) (by kernel_rfl), ?_⟩
          refine fcs ⟨Ob.new_ (ob_call1 17 12 13 _ rfl rfl (.inr ⟨_, _, _, rfl, rfl, by kernel_rfl, by decide, rfl⟩) (by kernel_rfl) (by kernel_rfl) (w_fit_yes y)) (by kernel_rfl), ?_⟩
          refine fcs ⟨Ob.new_ (ob_not 13 14 true false rfl rfl rfl (.inr ⟨_, _, _, rfl, rfl, by kernel_rfl, by decide, rfl⟩) (by kernel_rfl) rfl rfl) (by kernel_rfl), ?_⟩
          refine fcs ⟨Ob.new_ (ob_pick_else 11 14 15 (.bool true) rfl rfl (.inl rfl) (by kernel_rfl) (by kernel_rfl) rfl rfl) (by kernel_rfl), ?_⟩
          refine fcs ⟨Ob.new_ (ob_copy 15 16 (.inl rfl) rfl (.inl rfl) (by kernel_rfl) rfl) (by kernel_rfl), ?_⟩
          refine fcs ⟨Ob.new_ (ob_read 28 5 17 (Con.fr 12 z) rfl rfl (.inr ⟨_, _, _, rfl, rfl, by kernel_rfl, by decide, rfl⟩) (by kernel_rfl) points_cell rfl row26 info26) (by kernel_rfl), ?_⟩
          refine fcs ⟨Ob.new_ (ob_call1 17 17 18 _ rfl rfl (.inr ⟨_, _, _, rfl, rfl, by kernel_rfl, by decide, rfl⟩) (by kernel_rfl) (by kernel_rfl) (w_fit_yes z)) (by kernel_rfl), ?_⟩
          refine fcs ⟨Ob.new_ (ob_not 18 19 true false rfl rfl rfl (.inr ⟨_, _, _, rfl, rfl, by kernel_rfl, by decide, rfl⟩) (by kernel_rfl) rfl rfl) (by kernel_rfl), ?_⟩
          refine fcs ⟨Ob.new_ (ob_pick_else 16 19 20 (.bool true) rfl rfl (.inl rfl) (by kernel_rfl) (by kernel_rfl) rfl rfl) (by kernel_rfl), ?_⟩
          exact fnl
        intro a2 w2 st2 hbr2 hfr
        have hs2 := hbr2.size
        have hb := up hb hbr2
        have st : St 87 [(3, Fact.cell b3 (Con.fr 12 x)), (4, Fact.cell b4 (Con.fr 12 y)), (5, Fact.cell b5 (Con.fr 12 z)), (6, Fact.eq (.bool false)), (20, Fact.eq (.bool false))] a2 w2 := st2.to (fcs ⟨st2.at_ 3, fcs ⟨st2.at_ 4, fcs ⟨st2.at_ 5, fcs ⟨st2.at_ 6, fcs ⟨st2.at_ 20, fnl⟩⟩⟩⟩⟩)
        clear st2 hbr2 hfr
        refine wpList_nil ?_
        refine then_normal ?_
        refine wp_cond_false (st.at_ 20) ?_
        refine wp_skip ?_
        refine then_normal ?_
        refine wp_seq ?_
        refine sym_region st [(22, Fact.agg (Con.fr 12 x)), (23, Fact.agg (Con.fr 12 y)), (24, Fact.eq (.int .i64 (Rt.cp x y))), (7, Fact.eq (.int .i64 (Rt.cp x y)))] [] 4 (by kernel_rfl) (by kernel_rfl) (by kernel_rfl) (Nat.le_of_ble_eq_true rfl) (by kernel_rfl) rfl rfl ?_ ?_
        · refine fcs ⟨Ob.new_ (ob_read 28 3 22 (Con.fr 12 x) rfl rfl (.inl rfl) (by kernel_rfl) points_cell rfl row26 info26) (by kernel_rfl), ?_⟩
          refine fcs ⟨Ob.new_ (ob_read 28 4 23 (Con.fr 12 y) rfl rfl (.inl rfl) (by kernel_rfl) points_cell rfl row26 info26) (by kernel_rfl), ?_⟩
          refine fcs ⟨Ob.new_ (ob_call2 18 22 23 24 _ rfl rfl (.inl rfl) (by kernel_rfl) (by kernel_rfl) (by kernel_rfl) (q_cmp 12 12 x y (by omega))) (by kernel_rfl), ?_⟩
          refine fcs ⟨Ob.new_ (ob_copy 24 7 (.inr rfl) rfl (.inl rfl) (by kernel_rfl) rfl) (by kernel_rfl), ?_⟩
          exact fnl
        intro a3 w3 st3 hbr3 hfr
        have hs3 := hbr3.size
        have hb := up hb hbr3
        have st : St 87 [(3, Fact.cell b3 (Con.fr 12 x)), (4, Fact.cell b4 (Con.fr 12 y)), (5, Fact.cell b5 (Con.fr 12 z)), (6, Fact.eq (.bool false)), (7, Fact.eq (.int .i64 (Rt.cp x y)))] a3 w3 := st3.to (fcs ⟨st3.at_ 3, fcs ⟨st3.at_ 4, fcs ⟨st3.at_ 5, fcs ⟨st3.at_ 6, fcs ⟨st3.at_ 7, fnl⟩⟩⟩⟩⟩)
        clear st3 hbr3 hfr
        refine wpList_nil ?_
        refine then_normal ?_
        refine wp_seq ?_
        refine wp_seq ?_
        refine sym_region st [(25, Fact.eq (.int .i64 (Rt.cp x y))), (26, Fact.agg (Con.fr 12 x)), (27, Fact.agg (Con.fr 12 y)), (28, Fact.agg (Con.fr 25 (x - y))), (29, Fact.eq (.int .i64 (Rt.sn (x - y)))), (30, Fact.eq (.bool false)), (31, Fact.eq (.bool false)), (32, Fact.agg (Con.fr 12 y)), (33, Fact.agg (Con.fr 12 x)), (34, Fact.eq (.int .i64 (Rt.cp y x))), (35, Fact.eq (.int .i64 (Rt.cp x y))), (36, Fact.eq (.int .i64 (-(Rt.cp x y)))), (37, Fact.eq (.bool false)), (38, Fact.eq (.bool false)), (39, Fact.eq (.bool false)), (40, Fact.eq (.int .i64 (Rt.cp x y))), (41, Fact.eq (.bool ((Rt.cp x y) == 0))), (42, Fact.agg (Con.fr 12 x)), (43, Fact.agg (Con.fr 12 y)), (44, Fact.eq (.bool (decide (x = y)))), (45, Fact.eq (.bool false)), (46, Fact.eq (.bool false))] [] 22 (by kernel_rfl) (by kernel_rfl) (by kernel_rfl) (Nat.le_of_ble_eq_true rfl) (by kernel_rfl) rfl rfl ?_ ?_
        · refine fcs ⟨Ob.new_ (ob_copy 7 25 (.inl rfl) rfl (.inl rfl) (by kernel_rfl) rfl) (by kernel_rfl), ?_⟩
          refine fcs ⟨Ob.new_ (ob_read 28 3 26 (Con.fr 12 x) rfl rfl (.inl rfl) (by kernel_rfl) points_cell rfl row26 info26) (by kernel_rfl), ?_⟩
          refine fcs ⟨Ob.new_ (ob_read 28 4 27 (Con.fr 12 y) rfl rfl (.inl rfl) (by kernel_rfl) points_cell rfl row26 info26) (by kernel_rfl), ?_⟩
          refine fcs ⟨Ob.new_ (ob_call2 20 26 27 28 _ rfl rfl (.inl rfl) (by kernel_rfl) (by kernel_rfl) (by kernel_rfl) (q_sub 12 12 x y (by omega))) (by kernel_rfl), ?_⟩
          refine fcs ⟨Ob.new_ (ob_call1 19 28 29 _ rfl rfl (.inl rfl) (by kernel_rfl) (by kernel_rfl) (q_sign 25 (x - y))) (by kernel_rfl), ?_⟩
          refine fcs ⟨Ob.new_ (ob_nei 25 29 30 .i64 3 _ (Rt.cp x y) (Rt.sn (x - y)) false (bne_no (Rt.cp_sub x y)) rfl rfl (.inl rfl) (by kernel_rfl) (by kernel_rfl) rfl rfl rfl) (by kernel_rfl), ?_⟩
          refine fcs ⟨Ob.new_ (ob_copy 30 31 (.inl rfl) rfl (.inl rfl) (by kernel_rfl) rfl) (by kernel_rfl), ?_⟩
          refine fcs ⟨Ob.new_ (ob_read 28 4 32 (Con.fr 12 y) rfl rfl (.inr ⟨_, _, _, rfl, rfl, by kernel_rfl, by decide, rfl⟩) (by kernel_rfl) points_cell rfl row26 info26) (by kernel_rfl), ?_⟩
          refine fcs ⟨Ob.new_ (ob_read 28 3 33 (Con.fr 12 x) rfl rfl (.inr ⟨_, _, _, rfl, rfl, by kernel_rfl, by decide, rfl⟩) (by kernel_rfl) points_cell rfl row26 info26) (by kernel_rfl), ?_⟩
          refine fcs ⟨Ob.new_ (ob_call2 18 32 33 34 _ rfl rfl (.inr ⟨_, _, _, rfl, rfl, by kernel_rfl, by decide, rfl⟩) (by kernel_rfl) (by kernel_rfl) (by kernel_rfl) (q_cmp 12 12 y x (by omega))) (by kernel_rfl), ?_⟩
          refine fcs ⟨Ob.new_ (ob_copy 7 35 (.inl rfl) rfl (.inr ⟨_, _, _, rfl, rfl, by kernel_rfl, by decide, rfl⟩) (by kernel_rfl) rfl) (by kernel_rfl), ?_⟩
          refine fcs ⟨Ob.new_ (ob_negk .i64 35 36 (Rt.cp x y) (-(Rt.cp x y)) _ (cp_neg _ _) rfl rfl (.inr ⟨_, _, _, rfl, rfl, by kernel_rfl, by decide, rfl⟩) (by kernel_rfl) rfl rfl) (by kernel_rfl), ?_⟩
          refine fcs ⟨Ob.new_ (ob_nei 34 36 37 .i64 3 _ (Rt.cp y x) (-(Rt.cp x y)) false (bne_no (Rt.cp_swap x y)) rfl rfl (.inr ⟨_, _, _, rfl, rfl, by kernel_rfl, by decide, rfl⟩) (by kernel_rfl) (by kernel_rfl) rfl rfl rfl) (by kernel_rfl), ?_⟩
          refine fcs ⟨Ob.new_ (ob_pick_else 31 37 38 (.bool true) rfl rfl (.inl rfl) (by kernel_rfl) (by kernel_rfl) rfl rfl) (by kernel_rfl), ?_⟩
          refine fcs ⟨Ob.new_ (ob_copy 38 39 (.inl rfl) rfl (.inl rfl) (by kernel_rfl) rfl) (by kernel_rfl), ?_⟩
          refine fcs ⟨Ob.new_ (ob_copy 7 40 (.inl rfl) rfl (.inr ⟨_, _, _, rfl, rfl, by kernel_rfl, by decide, rfl⟩) (by kernel_rfl) rfl) (by kernel_rfl), ?_⟩
          refine fcs ⟨Ob.new_ (ob_eqc 40 41 .i64 3 _ (Rt.cp x y) 0 ((Rt.cp x y) == 0) rfl rfl rfl (.inr ⟨_, _, _, rfl, rfl, by kernel_rfl, by decide, rfl⟩) (by kernel_rfl) rfl rfl) (by kernel_rfl), ?_⟩
          refine fcs ⟨Ob.new_ (ob_read 28 3 42 (Con.fr 12 x) rfl rfl (.inr ⟨_, _, _, rfl, rfl, by kernel_rfl, by decide, rfl⟩) (by kernel_rfl) points_cell rfl row26 info26) (by kernel_rfl), ?_⟩
          refine fcs ⟨Ob.new_ (ob_read 28 4 43 (Con.fr 12 y) rfl rfl (.inr ⟨_, _, _, rfl, rfl, by kernel_rfl, by decide, rfl⟩) (by kernel_rfl) points_cell rfl row26 info26) (by kernel_rfl), ?_⟩
          refine fcs ⟨Ob.new_ (ob_call2 8 42 43 44 _ rfl rfl (.inr ⟨_, _, _, rfl, rfl, by kernel_rfl, by decide, rfl⟩) (by kernel_rfl) (by kernel_rfl) (by kernel_rfl) (z_same 12 12 x y (decide (x = y)) rfl)) (by kernel_rfl), ?_⟩
          refine fcs ⟨Ob.new_ (ob_neb 41 44 45 ((Rt.cp x y) == 0) (decide (x = y)) false (or_zero x y) rfl rfl (.inr ⟨_, _, _, rfl, rfl, by kernel_rfl, by decide, rfl⟩) (by kernel_rfl) (by kernel_rfl) rfl rfl rfl) (by kernel_rfl), ?_⟩
          refine fcs ⟨Ob.new_ (ob_pick_else 39 45 46 (.bool true) rfl rfl (.inl rfl) (by kernel_rfl) (by kernel_rfl) rfl rfl) (by kernel_rfl), ?_⟩
          exact fnl
        intro a4 w4 st4 hbr4 hfr
        have hs4 := hbr4.size
        have hb := up hb hbr4
        have st : St 87 [(3, Fact.cell b3 (Con.fr 12 x)), (4, Fact.cell b4 (Con.fr 12 y)), (5, Fact.cell b5 (Con.fr 12 z)), (6, Fact.eq (.bool false)), (7, Fact.eq (.int .i64 (Rt.cp x y))), (46, Fact.eq (.bool false))] a4 w4 := st4.to (fcs ⟨st4.at_ 3, fcs ⟨st4.at_ 4, fcs ⟨st4.at_ 5, fcs ⟨st4.at_ 6, fcs ⟨st4.at_ 7, fcs ⟨st4.at_ 46, fnl⟩⟩⟩⟩⟩⟩)
        clear st4 hbr4 hfr
        refine wpList_nil ?_
        refine then_normal ?_
        refine wp_cond_false (st.at_ 46) ?_
        refine wp_skip ?_
        refine then_normal ?_
        refine wp_seq ?_
        refine wp_seq ?_
        refine sym_region st [(47, Fact.eq (.int .i64 (Rt.cp x y))), (48, Fact.eq (.bool true)), (49, Fact.eq (.bool true)), (50, Fact.agg (Con.fr 12 y)), (51, Fact.agg (Con.fr 12 z)), (52, Fact.eq (.int .i64 (Rt.cp y z))), (53, Fact.eq (.bool false)), (54, Fact.eq (.bool false)), (55, Fact.eq (.bool false)), (56, Fact.eq undef), (57, Fact.eq undef), (58, Fact.eq undef), (59, Fact.eq undef), (60, Fact.eq (.bool false))] [] 14 (by kernel_rfl) (by kernel_rfl) (by kernel_rfl) (Nat.le_of_ble_eq_true rfl) (by kernel_rfl) rfl rfl ?_ ?_
        · refine fcs ⟨Ob.new_ (ob_copy 7 47 (.inl rfl) rfl (.inl rfl) (by kernel_rfl) rfl) (by kernel_rfl), ?_⟩
          refine fcs ⟨Ob.new_ (ob_lec 47 48 .i64 3 _ (Rt.cp x y) 0 true h1 rfl rfl (.inl rfl) (by kernel_rfl) rfl rfl) (by kernel_rfl), ?_⟩
          refine fcs ⟨Ob.new_ (ob_copy 48 49 (.inl rfl) rfl (.inl rfl) (by kernel_rfl) rfl) (by kernel_rfl), ?_⟩
          refine fcs ⟨Ob.new_ (ob_read 28 4 50 (Con.fr 12 y) rfl rfl (.inr ⟨_, _, _, rfl, rfl, by kernel_rfl, by decide, rfl⟩) (by kernel_rfl) points_cell rfl row26 info26) (by kernel_rfl), ?_⟩
          refine fcs ⟨Ob.new_ (ob_read 28 5 51 (Con.fr 12 z) rfl rfl (.inr ⟨_, _, _, rfl, rfl, by kernel_rfl, by decide, rfl⟩) (by kernel_rfl) points_cell rfl row26 info26) (by kernel_rfl), ?_⟩
          refine fcs ⟨Ob.new_ (ob_call2 18 50 51 52 _ rfl rfl (.inr ⟨_, _, _, rfl, rfl, by kernel_rfl, by decide, rfl⟩) (by kernel_rfl) (by kernel_rfl) (by kernel_rfl) (q_cmp 12 12 y z (by omega))) (by kernel_rfl), ?_⟩
          refine fcs ⟨Ob.new_ (ob_lec 52 53 .i64 3 _ (Rt.cp y z) 0 false h2 rfl rfl (.inr ⟨_, _, _, rfl, rfl, by kernel_rfl, by decide, rfl⟩) (by kernel_rfl) rfl rfl) (by kernel_rfl), ?_⟩
          refine fcs ⟨Ob.new_ (ob_pick 49 53 54 _ rfl rfl (.inl rfl) (by kernel_rfl) (by kernel_rfl) rfl rfl) (by kernel_rfl), ?_⟩
          refine fcs ⟨Ob.new_ (ob_copy 54 55 (.inl rfl) rfl (.inl rfl) (by kernel_rfl) rfl) (by kernel_rfl), ?_⟩
          refine fcs ⟨Ob.new_ (ob_skip 8 55 56 true rfl rfl (by kernel_rfl) (by decide) rfl rfl rfl) (by kernel_rfl), ?_⟩
          refine fcs ⟨Ob.new_ (ob_skip 8 55 57 true rfl rfl (by kernel_rfl) (by decide) rfl rfl rfl) (by kernel_rfl), ?_⟩
          refine fcs ⟨Ob.new_ (ob_skip 8 55 58 true rfl rfl (by kernel_rfl) (by decide) rfl rfl rfl) (by kernel_rfl), ?_⟩
          refine fcs ⟨Ob.new_ (ob_skip 8 55 59 true rfl rfl (by kernel_rfl) (by decide) rfl rfl rfl) (by kernel_rfl), ?_⟩
          refine fcs ⟨Ob.new_ (ob_pick_no 55 59 60 (.bool false) rfl rfl (.inl rfl) (by kernel_rfl) rfl rfl) (by kernel_rfl), ?_⟩
          exact fnl
        intro a5 w5 st5 hbr5 hfr
        have hs5 := hbr5.size
        have hb := up hb hbr5
        have st : St 87 [(3, Fact.cell b3 (Con.fr 12 x)), (4, Fact.cell b4 (Con.fr 12 y)), (5, Fact.cell b5 (Con.fr 12 z)), (6, Fact.eq (.bool false)), (7, Fact.eq (.int .i64 (Rt.cp x y))), (60, Fact.eq (.bool false))] a5 w5 := st5.to (fcs ⟨st5.at_ 3, fcs ⟨st5.at_ 4, fcs ⟨st5.at_ 5, fcs ⟨st5.at_ 6, fcs ⟨st5.at_ 7, fcs ⟨st5.at_ 60, fnl⟩⟩⟩⟩⟩⟩)
        clear st5 hbr5 hfr
        refine wpList_nil ?_
        refine then_normal ?_
        refine wp_cond_false (st.at_ 60) ?_
        refine wp_skip ?_
        refine then_normal ?_
        refine wp_seq ?_
        refine wp_seq ?_
        refine sym_region st [(61, Fact.agg (Con.fr 12 x)), (62, Fact.agg (Con.fr 12 z)), (63, Fact.agg (Con.fr 25 (x + z))), (64, Fact.agg (Con.fr 12 y)), (65, Fact.agg (Con.fr 12 z)), (66, Fact.agg (Con.fr 25 (y + z))), (67, Fact.eq (.int .i64 (Rt.cp (x + z) (y + z)))), (68, Fact.eq (.int .i64 (Rt.cp x y))), (69, Fact.eq (.bool false))] [] 9 (by kernel_rfl) (by kernel_rfl) (by kernel_rfl) (Nat.le_of_ble_eq_true rfl) (by kernel_rfl) rfl rfl ?_ ?_
        · refine fcs ⟨Ob.new_ (ob_read 28 3 61 (Con.fr 12 x) rfl rfl (.inl rfl) (by kernel_rfl) points_cell rfl row26 info26) (by kernel_rfl), ?_⟩
          refine fcs ⟨Ob.new_ (ob_read 28 5 62 (Con.fr 12 z) rfl rfl (.inl rfl) (by kernel_rfl) points_cell rfl row26 info26) (by kernel_rfl), ?_⟩
          refine fcs ⟨Ob.new_ (ob_call2 21 61 62 63 _ rfl rfl (.inl rfl) (by kernel_rfl) (by kernel_rfl) (by kernel_rfl) (q_add 12 12 x z (by omega))) (by kernel_rfl), ?_⟩
          refine fcs ⟨Ob.new_ (ob_read 28 4 64 (Con.fr 12 y) rfl rfl (.inl rfl) (by kernel_rfl) points_cell rfl row26 info26) (by kernel_rfl), ?_⟩
          refine fcs ⟨Ob.new_ (ob_read 28 5 65 (Con.fr 12 z) rfl rfl (.inl rfl) (by kernel_rfl) points_cell rfl row26 info26) (by kernel_rfl), ?_⟩
          refine fcs ⟨Ob.new_ (ob_call2 21 64 65 66 _ rfl rfl (.inl rfl) (by kernel_rfl) (by kernel_rfl) (by kernel_rfl) (q_add 12 12 y z (by omega))) (by kernel_rfl), ?_⟩
          refine fcs ⟨Ob.new_ (ob_call2 18 63 66 67 _ rfl rfl (.inl rfl) (by kernel_rfl) (by kernel_rfl) (by kernel_rfl) (q_cmp 25 25 (x + z) (y + z) (by omega))) (by kernel_rfl), ?_⟩
          refine fcs ⟨Ob.new_ (ob_copy 7 68 (.inl rfl) rfl (.inl rfl) (by kernel_rfl) rfl) (by kernel_rfl), ?_⟩
          refine fcs ⟨Ob.new_ (ob_nei 67 68 69 .i64 3 _ (Rt.cp (x + z) (y + z)) (Rt.cp x y) false (bne_no (Rt.cp_add x y z)) rfl rfl (.inl rfl) (by kernel_rfl) (by kernel_rfl) rfl rfl rfl) (by kernel_rfl), ?_⟩
          exact fnl
        intro a6 w6 st6 hbr6 hfr
        have hs6 := hbr6.size
        have hb := up hb hbr6
        have st : St 87 [(3, Fact.cell b3 (Con.fr 12 x)), (4, Fact.cell b4 (Con.fr 12 y)), (5, Fact.cell b5 (Con.fr 12 z)), (6, Fact.eq (.bool false)), (7, Fact.eq (.int .i64 (Rt.cp x y))), (69, Fact.eq (.bool false))] a6 w6 := st6.to (fcs ⟨st6.at_ 3, fcs ⟨st6.at_ 4, fcs ⟨st6.at_ 5, fcs ⟨st6.at_ 6, fcs ⟨st6.at_ 7, fcs ⟨st6.at_ 69, fnl⟩⟩⟩⟩⟩⟩)
        clear st6 hbr6 hfr
        refine wpList_nil ?_
        refine then_normal ?_
        refine wp_cond_false (st.at_ 69) ?_
        refine wp_skip ?_
        refine then_normal ?_
        refine wp_seq ?_
        have st := st.to (ks' := [(3, Fact.cell b3 (Con.fr 12 x)), (4, Fact.cell b4 (Con.fr 12 y)), (5, Fact.cell b5 (Con.fr 12 z)), (7, Fact.eq (.int .i64 (Rt.cp x y))), (69, Fact.eq (.bool false))]) (fcs ⟨st.at_ 3, fcs ⟨st.at_ 4, fcs ⟨st.at_ 5, fcs ⟨st.at_ 7, fcs ⟨st.at_ 69, fnl⟩⟩⟩⟩⟩)
        refine sym_region st [(70, Fact.agg (Con.fr 12 z)), (71, Fact.eq (.int .i64 (Rt.sn z))), (72, Fact.eq (.bool true)), (73, Fact.eq (.bool true)), (74, Fact.eq undef), (75, Fact.eq undef), (76, Fact.eq undef), (77, Fact.eq undef), (78, Fact.eq undef), (79, Fact.eq undef), (80, Fact.eq undef), (81, Fact.eq undef), (82, Fact.eq undef), (83, Fact.eq (.bool true)), (84, Fact.eq (.bool true)), (85, Fact.eq (.bool true)), (86, Fact.eq (.bool true)), (6, Fact.eq (.bool true))] [] 18 (by kernel_rfl) (by kernel_rfl) (by kernel_rfl) (Nat.le_of_ble_eq_true rfl) (by kernel_rfl) rfl rfl ?_ ?_
        · refine fcs ⟨Ob.new_ (ob_read 28 5 70 (Con.fr 12 z) rfl rfl (.inl rfl) (by kernel_rfl) points_cell rfl row26 info26) (by kernel_rfl), ?_⟩
          refine fcs ⟨Ob.new_ (ob_call1 19 70 71 _ rfl rfl (.inl rfl) (by kernel_rfl) (by kernel_rfl) (q_sign 12 z)) (by kernel_rfl), ?_⟩
          refine fcs ⟨Ob.new_ (ob_lec 71 72 .i64 3 _ (Rt.sn z) 0 true h3 rfl rfl (.inl rfl) (by kernel_rfl) rfl rfl) (by kernel_rfl), ?_⟩
          refine fcs ⟨Ob.new_ (ob_copy 72 73 (.inl rfl) rfl (.inl rfl) (by kernel_rfl) rfl) (by kernel_rfl), ?_⟩
          refine fcs ⟨Ob.new_ (ob_skip 3 73 74 false rfl rfl (by kernel_rfl) (by decide) rfl rfl rfl) (by kernel_rfl), ?_⟩
          refine fcs ⟨Ob.new_ (ob_skip 3 73 75 false rfl rfl (by kernel_rfl) (by decide) rfl rfl rfl) (by kernel_rfl), ?_⟩
          refine fcs ⟨Ob.new_ (ob_skip 3 73 76 false rfl rfl (by kernel_rfl) (by decide) rfl rfl rfl) (by kernel_rfl), ?_⟩
          refine fcs ⟨Ob.new_ (ob_skip 3 73 77 false rfl rfl (by kernel_rfl) (by decide) rfl rfl rfl) (by kernel_rfl), ?_⟩
          refine fcs ⟨Ob.new_ (ob_skip 3 73 78 false rfl rfl (by kernel_rfl) (by decide) rfl rfl rfl) (by kernel_rfl), ?_⟩
          refine fcs ⟨Ob.new_ (ob_skip 3 73 79 false rfl rfl (by kernel_rfl) (by decide) rfl rfl rfl) (by kernel_rfl), ?_⟩
          refine fcs ⟨Ob.new_ (ob_skip 3 73 80 false rfl rfl (by kernel_rfl) (by decide) rfl rfl rfl) (by kernel_rfl), ?_⟩
          refine fcs ⟨Ob.new_ (ob_skip 3 73 81 false rfl rfl (by kernel_rfl) (by decide) rfl rfl rfl) (by kernel_rfl), ?_⟩
          refine fcs ⟨Ob.new_ (ob_skip 3 73 82 false rfl rfl (by kernel_rfl) (by decide) rfl rfl rfl) (by kernel_rfl), ?_⟩
          refine fcs ⟨Ob.new_ (ob_pick_or 73 82 83 (.bool true) rfl rfl (.inl rfl) (by kernel_rfl) rfl rfl) (by kernel_rfl), ?_⟩
          refine fcs ⟨Ob.new_ (ob_copy 83 84 (.inl rfl) rfl (.inl rfl) (by kernel_rfl) rfl) (by kernel_rfl), ?_⟩
          refine fcs ⟨Ob.new_ (ob_call0 12 85 _ rfl rfl (.inr ⟨_, _, _, rfl, rfl, by kernel_rfl, by decide, rfl⟩) (by kernel_rfl) w_awake) (by kernel_rfl), ?_⟩
          refine fcs ⟨Ob.new_ (ob_pick 84 85 86 _ rfl rfl (.inl rfl) (by kernel_rfl) (by kernel_rfl) rfl rfl) (by kernel_rfl), ?_⟩
          refine fcs ⟨Ob.new_ (ob_copy 86 6 (.inr rfl) rfl (.inl rfl) (by kernel_rfl) rfl) (by kernel_rfl), ?_⟩
          exact fnl
        intro a7 w7 st7 hbr7 hfr
        have hs7 := hbr7.size
        have hb := up hb hbr7
        have st : St 87 [(6, Fact.eq (.bool true))] a7 w7 := st7.to (fcs ⟨st7.at_ 6, fnl⟩)
        clear st7 hbr7 hfr
        refine wpList_nil ?_
        refine then_normal ?_
        refine wp_ret ?_
        exact sym_ret1 rfl st.defers (resAt_tmp st 6) hb (fun _ h => h)
    | true =>
      cases h3 : decide (Rt.sn z ≤ 0) with
      | false =>
        refine sym_calls 87 [(0, Fact.agg (Con.fr 12 x)), (1, Fact.agg (Con.fr 12 y)), (2, Fact.agg (Con.fr 12 z))] Tryd.func5 rfl rfl (Nat.le_of_ble_eq_true rfl) (fcs ⟨⟨Nat.le_of_ble_eq_true rfl, hv0⟩, fcs ⟨⟨Nat.le_of_ble_eq_true rfl, hv1⟩, fcs ⟨⟨Nat.le_of_ble_eq_true rfl, hv2⟩, fnl⟩⟩⟩) fun a st => ?_
        have hb := Below.refl w.heap.size w
        refine wp_seq ?_
        refine sym_region st [(3, Fact.var' (Con.fr 12 x)), (4, Fact.var' (Con.fr 12 y)), (5, Fact.var' (Con.fr 12 z)), (6, Fact.eq (.bool false))] [3, 4, 5] 4 (by kernel_rfl) (by kernel_rfl) (by kernel_rfl) (Nat.le_of_ble_eq_true rfl) (by kernel_rfl) rfl rfl ?_ ?_
        · refine fcs ⟨obn_box 28 0 3 _ (Con.fr 12 x) rfl rfl rfl (by kernel_rfl) rfl rfl, ?_⟩
          refine fcs ⟨obn_box 28 1 4 _ (Con.fr 12 y) rfl rfl rfl (by kernel_rfl) rfl rfl, ?_⟩
          refine fcs ⟨obn_box 28 2 5 _ (Con.fr 12 z) rfl rfl rfl (by kernel_rfl) rfl rfl, ?_⟩
          refine fcs ⟨Ob.new_ (ob_const (.bool false) 6 (.inr rfl) rfl (.inl rfl) rfl) (by kernel_rfl), ?_⟩
          exact fnl
        intro a1 w1 st1 hbr1 hfr
        have hs1 := hbr1.size
        have hb := up hb hbr1
        obtain ⟨b3, c3⟩ := (show (Fact.var' (Con.fr 12 x)).holds _ _ from st1.at_ 3)
        have g3 := hfr.ge (s := 3) rfl c3.1
        obtain ⟨b4, c4⟩ := (show (Fact.var' (Con.fr 12 y)).holds _ _ from st1.at_ 4)
        have g4 := hfr.ge (s := 4) rfl c4.1
        obtain ⟨b5, c5⟩ := (show (Fact.var' (Con.fr 12 z)).holds _ _ from st1.at_ 5)
        have g5 := hfr.ge (s := 5) rfl c5.1
        have ne3_4 := hfr.apart (s := 3) (t := 4) rfl rfl (by decide) c3.1 c4.1
        have ne3_5 := hfr.apart (s := 3) (t := 5) rfl rfl (by decide) c3.1 c5.1
        have ne4_5 := hfr.apart (s := 4) (t := 5) rfl rfl (by decide) c4.1 c5.1
        have st : St 87 [(3, Fact.cell b3 (Con.fr 12 x)), (4, Fact.cell b4 (Con.fr 12 y)), (5, Fact.cell b5 (Con.fr 12 z)), (6, Fact.eq (.bool false))] a1 w1 := st1.to (fcs ⟨c3, fcs ⟨c4, fcs ⟨c5, fcs ⟨st1.at_ 6, fnl⟩⟩⟩⟩)
        clear st1 hbr1 hfr c3 c4 c5
        refine wpList_nil ?_
        refine then_normal ?_
        refine wp_seq ?_
        refine wp_seq ?_
        refine sym_region st [(8, Fact.agg (Con.fr 12 x)), (9, Fact.eq (.bool true)), (10, Fact.eq (.bool false)), (11, Fact.eq (.bool false)), (12, Fact.agg (Con.fr 12 y)), (13, Fact.eq (.bool true)), (14, Fact.eq (.bool false)), (15, Fact.eq (.bool false)), (16, Fact.eq (.bool false)), (17, Fact.agg (Con.fr 12 z)), (18, Fact.eq (.bool true)), (19, Fact.eq (.bool false)), (20, Fact.eq (.bool false))] [] 13 (by kernel_rfl) (by kernel_rfl) (by kernel_rfl) (Nat.le_of_ble_eq_true rfl) (by kernel_rfl) rfl rfl ?_ ?_
        · refine fcs ⟨Ob.new_ (ob_read 28 3 8 (Con.fr 12 x) rfl rfl (.inl rfl) (by kernel_rfl) points_cell rfl row26 info26) (by kernel_rfl), ?_⟩
          refine fcs ⟨Ob.new_ (ob_call1 17 8 9 _ rfl rfl (.inl rfl) (by kernel_rfl) (by kernel_rfl) (w_fit_yes x)) (by kernel_rfl), ?_⟩
          refine fcs ⟨Ob.new_ (ob_not 9 10 true false rfl rfl rfl (.inl rfl) (by kernel_rfl) rfl rfl) (by kernel_rfl), ?_⟩
          refine fcs ⟨Ob.new_ (ob_copy 10 11 (.inl rfl) rfl (.inl rfl) (by kernel_rfl) rfl) (by kernel_rfl), ?_⟩
          refine fcs ⟨Ob.new_ (ob_read 28 4 12 (Con.fr 12 y) rfl rfl (.inr ⟨_, _, _, rfl, rfl, by kernel_rfl, by decide, rfl⟩) (by kernel_rfl) points_cell rfl row26 info26) (by kernel_rfl), ?_⟩
          refine fcs ⟨Ob.new_ (ob_call1 17 12 13 _ rfl rfl (.inr ⟨_, _, _, rfl, rfl, by kernel_rfl, by decide, rfl⟩) (by kernel_rfl) (by kernel_rfl) (w_fit_yes y)) (by kernel_rfl), ?_⟩
          refine fcs ⟨Ob.new_ (ob_not 13 14 true false rfl rfl rfl (.inr ⟨_, _, _, rfl, rfl, by kernel_rfl, by decide, rfl⟩) (by kernel_rfl) rfl rfl) (by kernel_rfl), ?_⟩
          refine fcs ⟨Ob.new_ (ob_pick_else 11 14 15 (.bool true) rfl rfl (.inl rfl) (by kernel_rfl) (by kernel_rfl) rfl rfl) (by kernel_rfl), ?_⟩
          refine fcs ⟨Ob.new_ (ob_copy 15 16 (.inl rfl) rfl (.inl rfl) (by kernel_rfl) rfl) (by kernel_rfl), ?_⟩
          refine fcs ⟨Ob.new_ (ob_read 28 5 17 (Con.fr 12 z) rfl rfl (.inr ⟨_, _, _, rfl, rfl, by kernel_rfl, by decide, rfl⟩) (by kernel_rfl) points_cell rfl row26 info26) (by kernel_rfl), ?_⟩
          refine fcs ⟨Ob.new_ (ob_call1 17 17 18 _ rfl rfl (.inr ⟨_, _, _, rfl, rfl, by kernel_rfl, by decide, rfl⟩) (by kernel_rfl) (by kernel_rfl) (w_fit_yes z)) (by kernel_rfl), ?_⟩
          refine fcs ⟨Ob.new_ (ob_not 18 19 true false rfl rfl rfl (.inr ⟨_, _, _, rfl, rfl, by kernel_rfl, by decide, rfl⟩) (by kernel_rfl) rfl rfl) (by kernel_rfl), ?_⟩
          refine fcs ⟨Ob.new_ (ob_pick_else 16 19 20 (.bool true) rfl rfl (.inl rfl) (by kernel_rfl) (by kernel_rfl) rfl rfl) (by kernel_rfl), ?_⟩
          exact fnl
        intro a2 w2 st2 hbr2 hfr
        have hs2 := hbr2.size
        have hb := up hb hbr2
        have st : St 87 [(3, Fact.cell b3 (Con.fr 12 x)), (4, Fact.cell b4 (Con.fr 12 y)), (5, Fact.cell b5 (Con.fr 12 z)), (6, Fact.eq (.bool false)), (20, Fact.eq (.bool false))] a2 w2 := st2.to (fcs ⟨st2.at_ 3, fcs ⟨st2.at_ 4, fcs ⟨st2.at_ 5, fcs ⟨st2.at_ 6, fcs ⟨st2.at_ 20, fnl⟩⟩⟩⟩⟩)
        clear st2 hbr2 hfr
        refine wpList_nil ?_
        refine then_normal ?_
        refine wp_cond_false (st.at_ 20) ?_
        refine wp_skip ?_
        refine then_normal ?_
        refine wp_seq ?_
        refine sym_region st [(22, Fact.agg (Con.fr 12 x)), (23, Fact.agg (Con.fr 12 y)), (24, Fact.eq (.int .i64 (Rt.cp x y))), (7, Fact.eq (.int .i64 (Rt.cp x y)))] [] 4 (by kernel_rfl) (by kernel_rfl) (by kernel_rfl) (Nat.le_of_ble_eq_true rfl) (by kernel_rfl) rfl rfl ?_ ?_
        · refine fcs ⟨Ob.new_ (ob_read 28 3 22 (Con.fr 12 x) rfl rfl (.inl rfl) (by kernel_rfl) points_cell rfl row26 info26) (by kernel_rfl), ?_⟩
          refine fcs ⟨Ob.new_ (ob_read 28 4 23 (Con.fr 12 y) rfl rfl (.inl rfl) (by kernel_rfl) points_cell rfl row26 info26) (by kernel_rfl), ?_⟩
          refine fcs ⟨Ob.new_ (ob_call2 18 22 23 24 _ rfl rfl (.inl rfl) (by kernel_rfl) (by kernel_rfl) (by kernel_rfl) (q_cmp 12 12 x y (by omega))) (by kernel_rfl), ?_⟩
          refine fcs ⟨Ob.new_ (ob_copy 24 7 (.inr rfl) rfl (.inl rfl) (by kernel_rfl) rfl) (by kernel_rfl), ?_⟩
          exact fnl
        intro a3 w3 st3 hbr3 hfr
        have hs3 := hbr3.size
        have hb := up hb hbr3
        have st : St 87 [(3, Fact.cell b3 (Con.fr 12 x)), (4, Fact.cell b4 (Con.fr 12 y)), (5, Fact.cell b5 (Con.fr 12 z)), (6, Fact.eq (.bool false)), (7, Fact.eq (.int .i64 (Rt.cp x y)))] a3 w3 := st3.to (fcs ⟨st3.at_ 3, fcs ⟨st3.at_ 4, fcs ⟨st3.at_ 5, fcs ⟨st3.at_ 6, fcs ⟨st3.at_ 7, fnl⟩⟩⟩⟩⟩)
        clear st3 hbr3 hfr
        refine wpList_nil ?_
        refine then_normal ?_
        refine wp_seq ?_
        refine wp_seq ?_
        refine sym_region st [(25, Fact.eq (.int .i64 (Rt.cp x y))), (26, Fact.agg (Con.fr 12 x)), (27, Fact.agg (Con.fr 12 y)), (28, Fact.agg (Con.fr 25 (x - y))), (29, Fact.eq (.int .i64 (Rt.sn (x - y)))), (30, Fact.eq (.bool false)), (31, Fact.eq (.bool false)), (32, Fact.agg (Con.fr 12 y)), (33, Fact.agg (Con.fr 12 x)), (34, Fact.eq (.int .i64 (Rt.cp y x))), (35, Fact.eq (.int .i64 (Rt.cp x y))), (36, Fact.eq (.int .i64 (-(Rt.cp x y)))), (37, Fact.eq (.bool false)), (38, Fact.eq (.bool false)), (39, Fact.eq (.bool false)), (40, Fact.eq (.int .i64 (Rt.cp x y))), (41, Fact.eq (.bool ((Rt.cp x y) == 0))), (42, Fact.agg (Con.fr 12 x)), (43, Fact.agg (Con.fr 12 y)), (44, Fact.eq (.bool (decide (x = y)))), (45, Fact.eq (.bool false)), (46, Fact.eq (.bool false))] [] 22 (by kernel_rfl) (by kernel_rfl) (by kernel_rfl) (Nat.le_of_ble_eq_true rfl) (by kernel_rfl) rfl rfl ?_ ?_
        · refine fcs ⟨Ob.new_ (ob_copy 7 25 (.inl rfl) rfl (.inl rfl) (by kernel_rfl) rfl) (by kernel_rfl), ?_⟩
          refine fcs ⟨Ob.new_ (ob_read 28 3 26 (Con.fr 12 x) rfl rfl (.inl rfl) (by kernel_rfl) points_cell rfl row26 info26) (by kernel_rfl), ?_⟩
          refine fcs ⟨Ob.new_ (ob_read 28 4 27 (Con.fr 12 y) rfl rfl (.inl rfl) (by kernel_rfl) points_cell rfl row26 info26) (by kernel_rfl), ?_⟩
          refine fcs ⟨Ob.new_ (ob_call2 20 26 27 28 _ rfl rfl (.inl rfl) (by kernel_rfl) (by kernel_rfl) (by kernel_rfl) (q_sub 12 12 x y (by omega))) (by kernel_rfl), ?_⟩
          refine fcs ⟨Ob.new_ (ob_call1 19 28 29 _ rfl rfl (.inl rfl) (by kernel_rfl) (by kernel_rfl) (q_sign 25 (x - y))) (by kernel_rfl), ?_⟩
          refine fcs ⟨Ob.new_ (ob_nei 25 29 30 .i64 3 _ (Rt.cp x y) (Rt.sn (x - y)) false (bne_no (Rt.cp_sub x y)) rfl rfl (.inl rfl) (by kernel_rfl) (by kernel_rfl) rfl rfl rfl) (by kernel_rfl), ?_⟩
          refine fcs ⟨Ob.new_ (ob_copy 30 31 (.inl rfl) rfl (.inl rfl) (by kernel_rfl) rfl) (by kernel_rfl), ?_⟩
          refine fcs ⟨Ob.new_ (ob_read 28 4 32 (Con.fr 12 y) rfl rfl (.inr ⟨_, _, _, rfl, rfl, by kernel_rfl, by decide, rfl⟩) (by kernel_rfl) points_cell rfl row26 info26) (by kernel_rfl), ?_⟩
          refine fcs ⟨Ob.new_ (ob_read 28 3 33 (Con.fr 12 x) rfl rfl (.inr ⟨_, _, _, rfl, rfl, by kernel_rfl, by decide, rfl⟩) (by kernel_rfl) points_cell rfl row26 info26) (by kernel_rfl), ?_⟩
          refine fcs ⟨Ob.new_ (ob_call2 18 32 33 34 _ rfl rfl (.inr ⟨_, _, _, rfl, rfl, by kernel_rfl, by decide, rfl⟩) (by kernel_rfl) (by kernel_rfl) (by kernel_rfl) (q_cmp 12 12 y x (by omega))) (by kernel_rfl), ?_⟩
          refine fcs ⟨Ob.new_ (ob_copy 7 35 (.inl rfl) rfl (.inr ⟨_, _, _, rfl, rfl, by kernel_rfl, by decide, rfl⟩) (by kernel_rfl) rfl) (by kernel_rfl), ?_⟩
          refine fcs ⟨Ob.new_ (ob_negk .i64 35 36 (Rt.cp x y) (-(Rt.cp x y)) _ (cp_neg _ _) rfl rfl (.inr ⟨_, _, _, rfl, rfl, by kernel_rfl, by decide, rfl⟩) (by kernel_rfl) rfl rfl) (by kernel_rfl), ?_⟩
          refine fcs ⟨Ob.new_ (ob_nei 34 36 37 .i64 3 _ (Rt.cp y x) (-(Rt.cp x y)) false (bne_no (Rt.cp_swap x y)) rfl rfl (.inr ⟨_, _, _, rfl, rfl, by kernel_rfl, by decide, rfl⟩) (by kernel_rfl) (by kernel_rfl) rfl rfl rfl) (by kernel_rfl), ?_⟩
          refine fcs ⟨Ob.new_ (ob_pick_else 31 37 38 (.bool true) rfl rfl (.inl rfl) (by kernel_rfl) (by kernel_rfl) rfl rfl) (by kernel_rfl), ?_⟩
          refine fcs ⟨Ob.new_ (ob_copy 38 39 (.inl rfl) rfl (.inl rfl) (by kernel_rfl) rfl) (by kernel_rfl), ?_⟩
          refine fcs ⟨Ob.new_ (ob_copy 7 40 (.inl rfl) rfl (.inr ⟨_, _, _, rfl, rfl, by kernel_rfl, by decide, rfl⟩) (by kernel_rfl) rfl) (by kernel_rfl), ?_⟩
          refine fcs ⟨Ob.new_ (ob_eqc 40 41 .i64 3 _ (Rt.cp x y) 0 ((Rt.cp x y) == 0) rfl rfl rfl (.inr ⟨_, _, _, rfl, rfl, by kernel_rfl, by decide, rfl⟩) (by kernel_rfl) rfl rfl) (by kernel_rfl), ?_⟩
          refine fcs ⟨Ob.new_ (ob_read 28 3 42 (Con.fr 12 x) rfl rfl (.inr ⟨_, _, _, rfl, rfl, by kernel_rfl, by decide, rfl⟩) (by kernel_rfl) points_cell rfl row26 info26) (by kernel_rfl), ?_⟩
          refine fcs ⟨Ob.new_ (ob_read 28 4 43 (Con.fr 12 y) rfl rfl (.inr ⟨_, _, _, rfl, rfl, by kernel_rfl, by decide, rfl⟩) (by kernel_rfl) points_cell rfl row26 info26) (by kernel_rfl), ?_⟩
          refine fcs ⟨Ob.new_ (ob_call2 8 42 43 44 _ rfl rfl (.inr ⟨_, _, _, rfl, rfl, by kernel_rfl, by decide, rfl⟩) (by kernel_rfl) (by kernel_rfl) (by kernel_rfl) (z_same 12 12 x y (decide (x = y)) rfl)) (by kernel_rfl), ?_⟩
          refine fcs ⟨Ob.new_ (ob_neb 41 44 45 ((Rt.cp x y) == 0) (decide (x = y)) false (or_zero x y) rfl rfl (.inr ⟨_, _, _, rfl, rfl, by kernel_rfl, by decide, rfl⟩) (by kernel_rfl) (by kernel_rfl) rfl rfl rfl) (by kernel_rfl), ?_⟩
          refine fcs ⟨Ob.new_ (ob_pick_else 39 45 46 (.bool true) rfl rfl (.inl rfl) (by kernel_rfl) (by kernel_rfl) rfl rfl) (by kernel_rfl), ?_⟩
          exact fnl
        intro a4 w4 st4 hbr4 hfr
        have hs4 := hbr4.size
        have hb := up hb hbr4
        have st : St 87 [(3, Fact.cell b3 (Con.fr 12 x)), (4, Fact.cell b4 (Con.fr 12 y)), (5, Fact.cell b5 (Con.fr 12 z)), (6, Fact.eq (.bool false)), (7, Fact.eq (.int .i64 (Rt.cp x y))), (46, Fact.eq (.bool false))] a4 w4 := st4.to (fcs ⟨st4.at_ 3, fcs ⟨st4.at_ 4, fcs ⟨st4.at_ 5, fcs ⟨st4.at_ 6, fcs ⟨st4.at_ 7, fcs ⟨st4.at_ 46, fnl⟩⟩⟩⟩⟩⟩)
        clear st4 hbr4 hfr
        refine wpList_nil ?_
        refine then_normal ?_
        refine wp_cond_false (st.at_ 46) ?_
        refine wp_skip ?_
        refine then_normal ?_
        refine wp_seq ?_
        refine wp_seq ?_
        refine sym_region st [(47, Fact.eq (.int .i64 (Rt.cp x y))), (48, Fact.eq (.bool true)), (49, Fact.eq (.bool true)), (50, Fact.agg (Con.fr 12 y)), (51, Fact.agg (Con.fr 12 z)), (52, Fact.eq (.int .i64 (Rt.cp y z))), (53, Fact.eq (.bool true)), (54, Fact.eq (.bool true)), (55, Fact.eq (.bool true)), (56, Fact.agg (Con.fr 12 x)), (57, Fact.agg (Con.fr 12 z)), (58, Fact.eq (.int .i64 (Rt.cp x z))), (59, Fact.eq (.bool false)), (60, Fact.eq (.bool false))] [] 14 (by kernel_rfl) (by kernel_rfl) (by kernel_rfl) (Nat.le_of_ble_eq_true rfl) (by kernel_rfl) rfl rfl ?_ ?_
        · refine fcs ⟨Ob.new_ (ob_copy 7 47 (.inl rfl) rfl (.inl rfl) (by kernel_rfl) rfl) (by kernel_rfl), ?_⟩
          refine fcs ⟨Ob.new_ (ob_lec 47 48 .i64 3 _ (Rt.cp x y) 0 true h1 rfl rfl (.inl rfl) (by kernel_rfl) rfl rfl) (by kernel_rfl), ?_⟩
          refine fcs ⟨Ob.new_ (ob_copy 48 49 (.inl rfl) rfl (.inl rfl) (by kernel_rfl) rfl) (by kernel_rfl), ?_⟩
          refine fcs ⟨Ob.new_ (ob_read 28 4 50 (Con.fr 12 y) rfl rfl (.inr ⟨_, _, _, rfl, rfl, by kernel_rfl, by decide, rfl⟩) (by kernel_rfl) points_cell rfl row26 info26) (by kernel_rfl), ?_⟩
          refine fcs ⟨Ob.new_ (ob_read 28 5 51 (Con.fr 12 z) rfl rfl (.inr ⟨_, _, _, rfl, rfl, by kernel_rfl, by decide, rfl⟩) (by kernel_rfl) points_cell rfl row26 info26) (by kernel_rfl), ?_⟩
          refine fcs ⟨Ob.new_ (ob_call2 18 50 51 52 _ rfl rfl (.inr ⟨_, _, _, rfl, rfl, by kernel_rfl, by decide, rfl⟩) (by kernel_rfl) (by kernel_rfl) (by kernel_rfl) (q_cmp 12 12 y z (by omega))) (by kernel_rfl), ?_⟩
          refine fcs ⟨Ob.new_ (ob_lec 52 53 .i64 3 _ (Rt.cp y z) 0 true h2 rfl rfl (.inr ⟨_, _, _, rfl, rfl, by kernel_rfl, by decide, rfl⟩) (by kernel_rfl) rfl rfl) (by kernel_rfl), ?_⟩
          refine fcs ⟨Ob.new_ (ob_pick 49 53 54 _ rfl rfl (.inl rfl) (by kernel_rfl) (by kernel_rfl) rfl rfl) (by kernel_rfl), ?_⟩
          refine fcs ⟨Ob.new_ (ob_copy 54 55 (.inl rfl) rfl (.inl rfl) (by kernel_rfl) rfl) (by kernel_rfl), ?_⟩
          refine fcs ⟨Ob.new_ (ob_read 28 3 56 (Con.fr 12 x) rfl rfl (.inr ⟨_, _, _, rfl, rfl, by kernel_rfl, by decide, rfl⟩) (by kernel_rfl) points_cell rfl row26 info26) (by kernel_rfl), ?_⟩
          refine fcs ⟨Ob.new_ (ob_read 28 5 57 (Con.fr 12 z) rfl rfl (.inr ⟨_, _, _, rfl, rfl, by kernel_rfl, by decide, rfl⟩) (by kernel_rfl) points_cell rfl row26 info26) (by kernel_rfl), ?_⟩
          refine fcs ⟨Ob.new_ (ob_call2 18 56 57 58 _ rfl rfl (.inr ⟨_, _, _, rfl, rfl, by kernel_rfl, by decide, rfl⟩) (by kernel_rfl) (by kernel_rfl) (by kernel_rfl) (q_cmp 12 12 x z (by omega))) (by kernel_rfl), ?_⟩
          refine fcs ⟨Ob.new_ (ob_gtc 58 59 .i64 3 _ (Rt.cp x z) 0 false (or_trans h1 h2) rfl rfl (.inr ⟨_, _, _, rfl, rfl, by kernel_rfl, by decide, rfl⟩) (by kernel_rfl) rfl rfl) (by kernel_rfl), ?_⟩
          refine fcs ⟨Ob.new_ (ob_pick 55 59 60 _ rfl rfl (.inl rfl) (by kernel_rfl) (by kernel_rfl) rfl rfl) (by kernel_rfl), ?_⟩
          exact fnl
        intro a5 w5 st5 hbr5 hfr
        have hs5 := hbr5.size
        have hb := up hb hbr5
        have st : St 87 [(3, Fact.cell b3 (Con.fr 12 x)), (4, Fact.cell b4 (Con.fr 12 y)), (5, Fact.cell b5 (Con.fr 12 z)), (6, Fact.eq (.bool false)), (7, Fact.eq (.int .i64 (Rt.cp x y))), (60, Fact.eq (.bool false))] a5 w5 := st5.to (fcs ⟨st5.at_ 3, fcs ⟨st5.at_ 4, fcs ⟨st5.at_ 5, fcs ⟨st5.at_ 6, fcs ⟨st5.at_ 7, fcs ⟨st5.at_ 60, fnl⟩⟩⟩⟩⟩⟩)
        clear st5 hbr5 hfr
        refine wpList_nil ?_
        refine then_normal ?_
        refine wp_cond_false (st.at_ 60) ?_
        refine wp_skip ?_
        refine then_normal ?_
        refine wp_seq ?_
        refine wp_seq ?_
        refine sym_region st [(61, Fact.agg (Con.fr 12 x)), (62, Fact.agg (Con.fr 12 z)), (63, Fact.agg (Con.fr 25 (x + z))), (64, Fact.agg (Con.fr 12 y)), (65, Fact.agg (Con.fr 12 z)), (66, Fact.agg (Con.fr 25 (y + z))), (67, Fact.eq (.int .i64 (Rt.cp (x + z) (y + z)))), (68, Fact.eq (.int .i64 (Rt.cp x y))), (69, Fact.eq (.bool false))] [] 9 (by kernel_rfl) (by kernel_rfl) (by kernel_rfl) (Nat.le_of_ble_eq_true rfl) (by kernel_rfl) rfl rfl ?_ ?_
        · refine fcs ⟨Ob.new_ (ob_read 28 3 61 (Con.fr 12 x) rfl rfl (.inl rfl) (by kernel_rfl) points_cell rfl row26 info26) (by kernel_rfl), ?_⟩
          refine fcs ⟨Ob.new_ (ob_read 28 5 62 (Con.fr 12 z) rfl rfl (.inl rfl) (by kernel_rfl) points_cell rfl row26 info26) (by kernel_rfl), ?_⟩
          refine fcs ⟨Ob.new_ (ob_call2 21 61 62 63 _ rfl rfl (.inl rfl) (by kernel_rfl) (by kernel_rfl) (by kernel_rfl) (q_add 12 12 x z (by omega))) (by kernel_rfl), ?_⟩
          refine fcs ⟨Ob.new_ (ob_read 28 4 64 (Con.fr 12 y) rfl rfl (.inl rfl) (by kernel_rfl) points_cell rfl row26 info26) (by kernel_rfl), ?_⟩
          refine fcs ⟨Ob.new_ (ob_read 28 5 65 (Con.fr 12 z) rfl rfl (.inl rfl) (by kernel_rfl) points_cell rfl row26 info26) (by kernel_rfl), ?_⟩
          refine fcs ⟨Ob.new_ (ob_call2 21 64 65 66 _ rfl rfl (.inl rfl) (by kernel_rfl) (by kernel_rfl) (by kernel_rfl) (q_add 12 12 y z (by omega))) (by kernel_rfl), ?_⟩
          refine fcs ⟨Ob.new_ (ob_call2 18 63 66 67 _ rfl rfl (.inl rfl) (by kernel_rfl) (by kernel_rfl) (by kernel_rfl) (q_cmp 25 25 (x + z) (y + z) (by omega))) (by kernel_rfl), ?_⟩
          refine fcs ⟨Ob.new_ (ob_copy 7 68 (.inl rfl) rfl (.inl rfl) (by kernel_rfl) rfl) (by kernel_rfl), ?_⟩
          refine fcs ⟨Ob.new_ (ob_nei 67 68 69 .i64 3 _ (Rt.cp (x + z) (y + z)) (Rt.cp x y) false (bne_no (Rt.cp_add x y z)) rfl rfl (.inl rfl) (by kernel_rfl) (by kernel_rfl) rfl rfl rfl) (by kernel_rfl), ?_⟩
          exact fnl
        intro a6 w6 st6 hbr6 hfr
        have hs6 := hbr6.size
        have hb := up hb hbr6
        have st : St 87 [(3, Fact.cell b3 (Con.fr 12 x)), (4, Fact.cell b4 (Con.fr 12 y)), (5, Fact.cell b5 (Con.fr 12 z)), (6, Fact.eq (.bool false)), (7, Fact.eq (.int .i64 (Rt.cp x y))), (69, Fact.eq (.bool false))] a6 w6 := st6.to (fcs ⟨st6.at_ 3, fcs ⟨st6.at_ 4, fcs ⟨st6.at_ 5, fcs ⟨st6.at_ 6, fcs ⟨st6.at_ 7, fcs ⟨st6.at_ 69, fnl⟩⟩⟩⟩⟩⟩)
        clear st6 hbr6 hfr
        refine wpList_nil ?_
        refine then_normal ?_
        refine wp_cond_false (st.at_ 69) ?_
        refine wp_skip ?_
        refine then_normal ?_
        refine wp_seq ?_
        have st := st.to (ks' := [(3, Fact.cell b3 (Con.fr 12 x)), (4, Fact.cell b4 (Con.fr 12 y)), (5, Fact.cell b5 (Con.fr 12 z)), (7, Fact.eq (.int .i64 (Rt.cp x y))), (69, Fact.eq (.bool false))]) (fcs ⟨st.at_ 3, fcs ⟨st.at_ 4, fcs ⟨st.at_ 5, fcs ⟨st.at_ 7, fcs ⟨st.at_ 69, fnl⟩⟩⟩⟩⟩)
        refine sym_region st [(70, Fact.agg (Con.fr 12 z)), (71, Fact.eq (.int .i64 (Rt.sn z))), (72, Fact.eq (.bool false)), (73, Fact.eq (.bool false)), (74, Fact.agg (Con.fr 12 x)), (75, Fact.agg (Con.fr 12 z)), (76, Fact.agg (Con.fr 24 (x * z))), (77, Fact.agg (Con.fr 12 y)), (78, Fact.agg (Con.fr 12 z)), (79, Fact.agg (Con.fr 24 (y * z))), (80, Fact.eq (.int .i64 (Rt.cp (x * z) (y * z)))), (81, Fact.eq (.int .i64 (Rt.cp x y))), (82, Fact.eq (.bool true)), (83, Fact.eq (.bool true)), (84, Fact.eq (.bool true)), (85, Fact.eq (.bool true)), (86, Fact.eq (.bool true)), (6, Fact.eq (.bool true))] [] 18 (by kernel_rfl) (by kernel_rfl) (by kernel_rfl) (Nat.le_of_ble_eq_true rfl) (by kernel_rfl) rfl rfl ?_ ?_
        · refine fcs ⟨Ob.new_ (ob_read 28 5 70 (Con.fr 12 z) rfl rfl (.inl rfl) (by kernel_rfl) points_cell rfl row26 info26) (by kernel_rfl), ?_⟩
          refine fcs ⟨Ob.new_ (ob_call1 19 70 71 _ rfl rfl (.inl rfl) (by kernel_rfl) (by kernel_rfl) (q_sign 12 z)) (by kernel_rfl), ?_⟩
          refine fcs ⟨Ob.new_ (ob_lec 71 72 .i64 3 _ (Rt.sn z) 0 false h3 rfl rfl (.inl rfl) (by kernel_rfl) rfl rfl) (by kernel_rfl), ?_⟩
          refine fcs ⟨Ob.new_ (ob_copy 72 73 (.inl rfl) rfl (.inl rfl) (by kernel_rfl) rfl) (by kernel_rfl), ?_⟩
          refine fcs ⟨Ob.new_ (ob_read 28 3 74 (Con.fr 12 x) rfl rfl (.inr ⟨_, _, _, rfl, rfl, by kernel_rfl, by decide, rfl⟩) (by kernel_rfl) points_cell rfl row26 info26) (by kernel_rfl), ?_⟩
          refine fcs ⟨Ob.new_ (ob_read 28 5 75 (Con.fr 12 z) rfl rfl (.inr ⟨_, _, _, rfl, rfl, by kernel_rfl, by decide, rfl⟩) (by kernel_rfl) points_cell rfl row26 info26) (by kernel_rfl), ?_⟩
          refine fcs ⟨Ob.new_ (ob_call2 22 74 75 76 _ rfl rfl (.inr ⟨_, _, _, rfl, rfl, by kernel_rfl, by decide, rfl⟩) (by kernel_rfl) (by kernel_rfl) (by kernel_rfl) (q_mul 12 12 x z (by omega))) (by kernel_rfl), ?_⟩
          refine fcs ⟨Ob.new_ (ob_read 28 4 77 (Con.fr 12 y) rfl rfl (.inr ⟨_, _, _, rfl, rfl, by kernel_rfl, by decide, rfl⟩) (by kernel_rfl) points_cell rfl row26 info26) (by kernel_rfl), ?_⟩
          refine fcs ⟨Ob.new_ (ob_read 28 5 78 (Con.fr 12 z) rfl rfl (.inr ⟨_, _, _, rfl, rfl, by kernel_rfl, by decide, rfl⟩) (by kernel_rfl) points_cell rfl row26 info26) (by kernel_rfl), ?_⟩
          refine fcs ⟨Ob.new_ (ob_call2 22 77 78 79 _ rfl rfl (.inr ⟨_, _, _, rfl, rfl, by kernel_rfl, by decide, rfl⟩) (by kernel_rfl) (by kernel_rfl) (by kernel_rfl) (q_mul 12 12 y z (by omega))) (by kernel_rfl), ?_⟩
          refine fcs ⟨Ob.new_ (ob_call2 18 76 79 80 _ rfl rfl (.inr ⟨_, _, _, rfl, rfl, by kernel_rfl, by decide, rfl⟩) (by kernel_rfl) (by kernel_rfl) (by kernel_rfl) (q_cmp 24 24 (x * z) (y * z) (by omega))) (by kernel_rfl), ?_⟩
          refine fcs ⟨Ob.new_ (ob_copy 7 81 (.inl rfl) rfl (.inr ⟨_, _, _, rfl, rfl, by kernel_rfl, by decide, rfl⟩) (by kernel_rfl) rfl) (by kernel_rfl), ?_⟩
          refine fcs ⟨Ob.new_ (ob_eqi 80 81 82 .i64 3 _ (Rt.cp (x * z) (y * z)) (Rt.cp x y) true (or_mul h3) rfl rfl (.inr ⟨_, _, _, rfl, rfl, by kernel_rfl, by decide, rfl⟩) (by kernel_rfl) (by kernel_rfl) rfl rfl rfl) (by kernel_rfl), ?_⟩
          refine fcs ⟨Ob.new_ (ob_pick_else 73 82 83 (.bool true) rfl rfl (.inl rfl) (by kernel_rfl) (by kernel_rfl) rfl rfl) (by kernel_rfl), ?_⟩
          refine fcs ⟨Ob.new_ (ob_copy 83 84 (.inl rfl) rfl (.inl rfl) (by kernel_rfl) rfl) (by kernel_rfl), ?_⟩
          refine fcs ⟨Ob.new_ (ob_call0 12 85 _ rfl rfl (.inr ⟨_, _, _, rfl, rfl, by kernel_rfl, by decide, rfl⟩) (by kernel_rfl) w_awake) (by kernel_rfl), ?_⟩
          refine fcs ⟨Ob.new_ (ob_pick 84 85 86 _ rfl rfl (.inl rfl) (by kernel_rfl) (by kernel_rfl) rfl rfl) (by kernel_rfl), ?_⟩
          refine fcs ⟨Ob.new_ (ob_copy 86 6 (.inr rfl) rfl (.inl rfl) (by kernel_rfl) rfl) (by kernel_rfl), ?_⟩
          exact fnl
        intro a7 w7 st7 hbr7 hfr
        have hs7 := hbr7.size
        have hb := up hb hbr7
        have st : St 87 [(6, Fact.eq (.bool true))] a7 w7 := st7.to (fcs ⟨st7.at_ 6, fnl⟩)
        clear st7 hbr7 hfr
        refine wpList_nil ?_
        refine then_normal ?_
        refine wp_ret ?_
        exact sym_ret1 rfl st.defers (resAt_tmp st 6) hb (fun _ h => h)
      | true =>
        refine sym_calls 87 [(0, Fact.agg (Con.fr 12 x)), (1, Fact.agg (Con.fr 12 y)), (2, Fact.agg (Con.fr 12 z))] Tryd.func5 rfl rfl (Nat.le_of_ble_eq_true rfl) (fcs ⟨⟨Nat.le_of_ble_eq_true rfl, hv0⟩, fcs ⟨⟨Nat.le_of_ble_eq_true rfl, hv1⟩, fcs ⟨⟨Nat.le_of_ble_eq_true rfl, hv2⟩, fnl⟩⟩⟩) fun a st => ?_
        have hb := Below.refl w.heap.size w
        refine wp_seq ?_
        refine sym_region st [(3, Fact.var' (Con.fr 12 x)), (4, Fact.var' (Con.fr 12 y)), (5, Fact.var' (Con.fr 12 z)), (6, Fact.eq (.bool false))] [3, 4, 5] 4 (by kernel_rfl) (by kernel_rfl) (by kernel_rfl) (Nat.le_of_ble_eq_true rfl) (by kernel_rfl) rfl rfl ?_ ?_
        · refine fcs ⟨obn_box 28 0 3 _ (Con.fr 12 x) rfl rfl rfl (by kernel_rfl) rfl rfl, ?_⟩
          refine fcs ⟨obn_box 28 1 4 _ (Con.fr 12 y) rfl rfl rfl (by kernel_rfl) rfl rfl, ?_⟩
          refine fcs ⟨obn_box 28 2 5 _ (Con.fr 12 z) rfl rfl rfl (by kernel_rfl) rfl rfl, ?_⟩
          refine fcs ⟨Ob.new_ (ob_const (.bool false) 6 (.inr rfl) rfl (.inl rfl) rfl) (by kernel_rfl), ?_⟩
          exact fnl
        intro a1 w1 st1 hbr1 hfr
        have hs1 := hbr1.size
        have hb := up hb hbr1
        obtain ⟨b3, c3⟩ := (show (Fact.var' (Con.fr 12 x)).holds _ _ from st1.at_ 3)
        have g3 := hfr.ge (s := 3) rfl c3.1
        obtain ⟨b4, c4⟩ := (show (Fact.var' (Con.fr 12 y)).holds _ _ from st1.at_ 4)
        have g4 := hfr.ge (s := 4) rfl c4.1
        obtain ⟨b5, c5⟩ := (show (Fact.var' (Con.fr 12 z)).holds _ _ from st1.at_ 5)
        have g5 := hfr.ge (s := 5) rfl c5.1
        have ne3_4 := hfr.apart (s := 3) (t := 4) rfl rfl (by decide) c3.1 c4.1
        have ne3_5 := hfr.apart (s := 3) (t := 5) rfl rfl (by decide) c3.1 c5.1
        have ne4_5 := hfr.apart (s := 4) (t := 5) rfl rfl (by decide) c4.1 c5.1
        have st : St 87 [(3, Fact.cell b3 (Con.fr 12 x)), (4, Fact.cell b4 (Con.fr 12 y)), (5, Fact.cell b5 (Con.fr 12 z)), (6, Fact.eq (.bool false))] a1 w1 := st1.to (fcs ⟨c3, fcs ⟨c4, fcs ⟨c5, fcs ⟨st1.at_ 6, fnl⟩⟩⟩⟩)
        clear st1 hbr1 hfr c3 c4 c5
        refine wpList_nil ?_
        refine then_normal ?_
        refine wp_seq ?_
        refine wp_seq ?_
        refine sym_region st [(8, Fact.agg (Con.fr 12 x)), (9, Fact.eq (.bool true)), (10, Fact.eq (.bool false)), (11, Fact.eq (.bool false)), (12, Fact.agg (Con.fr 12 y)), (13, Fact.eq (.bool true)), (14, Fact.eq (.bool false)), (15, Fact.eq (.bool false)), (16, Fact.eq (.bool false)), (17, Fact.agg (Con.fr 12 z)), (18, Fact.eq (.bool true)), (19, Fact.eq (.bool false)), (20, Fact.eq (.bool false))] [] 13 (by kernel_rfl) (by kernel_rfl) (by kernel_rfl) (Nat.le_of_ble_eq_true rfl) (by kernel_rfl) rfl rfl ?_ ?_
        · refine fcs ⟨Ob.new_ (ob_read 28 3 8 (Con.fr 12 x) rfl rfl (.inl rfl) (by kernel_rfl) points_cell rfl row26 info26) (by kernel_rfl), ?_⟩
          refine fcs ⟨Ob.new_ (ob_call1 17 8 9 _ rfl rfl (.inl rfl) (by kernel_rfl) (by kernel_rfl) (w_fit_yes x)) (by kernel_rfl), ?_⟩
          refine fcs ⟨Ob.new_ (ob_not 9 10 true false rfl rfl rfl (.inl rfl) (by kernel_rfl) rfl rfl) (by kernel_rfl), ?_⟩
          refine fcs ⟨Ob.new_ (ob_copy 10 11 (.inl rfl) rfl (.inl rfl) (by kernel_rfl) rfl) (by kernel_rfl), ?_⟩
          refine fcs ⟨Ob.new_ (ob_read 28 4 12 (Con.fr 12 y) rfl rfl (.inr ⟨_, _, _, rfl, rfl, by kernel_rfl, by decide, rfl⟩) (by kernel_rfl) points_cell rfl row26 info26) (by kernel_rfl), ?_⟩
          refine fcs ⟨Ob.new_ (ob_call1 17 12 13 _ rfl rfl (.inr ⟨_, _, _, rfl, rfl, by kernel_rfl, by decide, rfl⟩) (by kernel_rfl) (by kernel_rfl) (w_fit_yes y)) (by kernel_rfl), ?_⟩
          refine fcs ⟨Ob.new_ (ob_not 13 14 true false rfl rfl rfl (.inr ⟨_, _, _, rfl, rfl, by kernel_rfl, by decide, rfl⟩) (by kernel_rfl) rfl rfl) (by kernel_rfl), ?_⟩
          refine fcs ⟨Ob.new_ (ob_pick_else 11 14 15 (.bool true) rfl rfl (.inl rfl) (by kernel_rfl) (by kernel_rfl) rfl rfl) (by kernel_rfl), ?_⟩
          refine fcs ⟨Ob.new_ (ob_copy 15 16 (.inl rfl) rfl (.inl rfl) (by kernel_rfl) rfl) (by kernel_rfl), ?_⟩
          refine fcs ⟨Ob.new_ (ob_read 28 5 17 (Con.fr 12 z) rfl rfl (.inr ⟨_, _, _, rfl, rfl, by kernel_rfl, by decide, rfl⟩) (by kernel_rfl) points_cell rfl row26 info26) (by kernel_rfl), ?_⟩
          refine fcs ⟨Ob.new_ (ob_call1 17 17 18 _ rfl rfl (.inr ⟨_, _, _, rfl, rfl, by kernel_rfl, by decide, rfl⟩) (by kernel_rfl) (by kernel_rfl) (w_fit_yes z)) (by kernel_rfl), ?_⟩
          refine fcs ⟨Ob.new_ (ob_not 18 19 true false rfl rfl rfl (.inr ⟨_, _, _, rfl, rfl, by kernel_rfl, by decide, rfl⟩) (by kernel_rfl) rfl rfl) (by kernel_rfl), ?_⟩
          refine fcs ⟨Ob.new_ (ob_pick_else 16 19 20 (.bool true) rfl rfl (.inl rfl) (by kernel_rfl) (by kernel_rfl) rfl rfl) (by kernel_rfl), ?_⟩
          exact fnl
        intro a2 w2 st2 hbr2 hfr
        have hs2 := hbr2.size
        have hb := up hb hbr2
        have st : St 87 [(3, Fact.cell b3 (Con.fr 12 x)), (4, Fact.cell b4 (Con.fr 12 y)), (5, Fact.cell b5 (Con.fr 12 z)), (6, Fact.eq (.bool false)), (20, Fact.eq (.bool false))] a2 w2 := st2.to (fcs ⟨st2.at_ 3, fcs ⟨st2.at_ 4, fcs ⟨st2.at_ 5, fcs ⟨st2.at_ 6, fcs ⟨st2.at_ 20, fnl⟩⟩⟩⟩⟩)
        clear st2 hbr2 hfr
        refine wpList_nil ?_
        refine then_normal ?_
        refine wp_cond_false (st.at_ 20) ?_
        refine wp_skip ?_
        refine then_normal ?_
        refine wp_seq ?_
        refine sym_region st [(22, Fact.agg (Con.fr 12 x)), (23, Fact.agg (Con.fr 12 y)), (24, Fact.eq (.int .i64 (Rt.cp x y))), (7, Fact.eq (.int .i64 (Rt.cp x y)))] [] 4 (by kernel_rfl) (by kernel_rfl) (by kernel_rfl) (Nat.le_of_ble_eq_true rfl) (by kernel_rfl) rfl rfl ?_ ?_
        · refine fcs ⟨Ob.new_ (ob_read 28 3 22 (Con.fr 12 x) rfl rfl (.inl rfl) (by kernel_rfl) points_cell rfl row26 info26) (by kernel_rfl), ?_⟩
          refine fcs ⟨Ob.new_ (ob_read 28 4 23 (Con.fr 12 y) rfl rfl (.inl rfl) (by kernel_rfl) points_cell rfl row26 info26) (by kernel_rfl), ?_⟩
          refine fcs ⟨Ob.new_ (ob_call2 18 22 23 24 _ rfl rfl (.inl rfl) (by kernel_rfl) (by kernel_rfl) (by kernel_rfl) (q_cmp 12 12 x y (by omega))) (by kernel_rfl), ?_⟩
          refine fcs ⟨Ob.new_ (ob_copy 24 7 (.inr rfl) rfl (.inl rfl) (by kernel_rfl) rfl) (by kernel_rfl), ?_⟩
          exact fnl
        intro a3 w3 st3 hbr3 hfr
        have hs3 := hbr3.size
        have hb := up hb hbr3
        have st : St 87 [(3, Fact.cell b3 (Con.fr 12 x)), (4, Fact.cell b4 (Con.fr 12 y)), (5, Fact.cell b5 (Con.fr 12 z)), (6, Fact.eq (.bool false)), (7, Fact.eq (.int .i64 (Rt.cp x y)))] a3 w3 := st3.to (fcs ⟨st3.at_ 3, fcs ⟨st3.at_ 4, fcs ⟨st3.at_ 5, fcs ⟨st3.at_ 6, fcs ⟨st3.at_ 7, fnl⟩⟩⟩⟩⟩)
        clear st3 hbr3 hfr
        refine wpList_nil ?_
        refine then_normal ?_
        refine wp_seq ?_
        refine wp_seq ?_
        refine sym_region st [(25, Fact.eq (.int .i64 (Rt.cp x y))), (26, Fact.agg (Con.fr 12 x)), (27, Fact.agg (Con.fr 12 y)), (28, Fact.agg (Con.fr 25 (x - y))), (29, Fact.eq (.int .i64 (Rt.sn (x - y)))), (30, Fact.eq (.bool false)), (31, Fact.eq (.bool false)), (32, Fact.agg (Con.fr 12 y)), (33, Fact.agg (Con.fr 12 x)), (34, Fact.eq (.int .i64 (Rt.cp y x))), (35, Fact.eq (.int .i64 (Rt.cp x y))), (36, Fact.eq (.int .i64 (-(Rt.cp x y)))), (37, Fact.eq (.bool false)), (38, Fact.eq (.bool false)), (39, Fact.eq (.bool false)), (40, Fact.eq (.int .i64 (Rt.cp x y))), (41, Fact.eq (.bool ((Rt.cp x y) == 0))), (42, Fact.agg (Con.fr 12 x)), (43, Fact.agg (Con.fr 12 y)), (44, Fact.eq (.bool (decide (x = y)))), (45, Fact.eq (.bool false)), (46, Fact.eq (.bool false))] [] 22 (by kernel_rfl) (by kernel_rfl) (by kernel_rfl) (Nat.le_of_ble_eq_true rfl) (by kernel_rfl) rfl rfl ?_ ?_
        · refine fcs ⟨Ob.new_ (ob_copy 7 25 (.inl rfl) rfl (.inl rfl) (by kernel_rfl) rfl) (by kernel_rfl), ?_⟩
          refine fcs ⟨Ob.new_ (ob_read 28 3 26 (Con.fr 12 x) rfl rfl (.inl rfl) (by kernel_rfl) points_cell rfl row26 info26) (by kernel_rfl), ?_⟩
          refine fcs ⟨Ob.new_ (ob_read 28 4 27 (Con.fr 12 y) rfl rfl (.inl rfl) (by kernel_rfl) points_cell rfl row26 info26) (by kernel_rfl), ?_⟩
          refine fcs ⟨Ob.new_ (ob_call2 20 26 27 28 _ rfl rfl (.inl rfl) (by kernel_rfl) (by kernel_rfl) (by kernel_rfl) (q_sub 12 12 x y (by omega))) (by kernel_rfl), ?_⟩
          refine fcs ⟨Ob.new_ (ob_call1 19 28 29 _ rfl rfl (.inl rfl) (by kernel_rfl) (by kernel_rfl) (q_sign 25 (x - y))) (by kernel_rfl), ?_⟩
          refine fcs ⟨Ob.new_ (ob_nei 25 29 30 .i64 3 _ (Rt.cp x y) (Rt.sn (x - y)) false (bne_no (Rt.cp_sub x y)) rfl rfl (.inl rfl) (by kernel_rfl) (by kernel_rfl) rfl rfl rfl) (by kernel_rfl), ?_⟩
          refine fcs ⟨Ob.new_ (ob_copy 30 31 (.inl rfl) rfl (.inl rfl) (by kernel_rfl) rfl) (by kernel_rfl), ?_⟩
          refine fcs ⟨Ob.new_ (ob_read 28 4 32 (Con.fr 12 y) rfl rfl (.inr ⟨_, _, _, rfl, rfl, by kernel_rfl, by decide, rfl⟩) (by kernel_rfl) points_cell rfl row26 info26) (by kernel_rfl), ?_⟩
          refine fcs ⟨Ob.new_ (ob_read 28 3 33 (Con.fr 12 x) rfl rfl (.inr ⟨_, _, _, rfl, rfl, by kernel_rfl, by decide, rfl⟩) (by kernel_rfl) points_cell rfl row26 info26) (by kernel_rfl), ?_⟩
          refine fcs ⟨Ob.new_ (ob_call2 18 32 33 34 _ rfl rfl (.inr ⟨_, _, _, rfl, rfl, by kernel_rfl, by decide, rfl⟩) (by kernel_rfl) (by kernel_rfl) (by kernel_rfl) (q_cmp 12 12 y x (by omega))) (by kernel_rfl), ?_⟩
          refine fcs ⟨Ob.new_ (ob_copy 7 35 (.inl rfl) rfl (.inr ⟨_, _, _, rfl, rfl, by kernel_rfl, by decide, rfl⟩) (by kernel_rfl) rfl) (by kernel_rfl), ?_⟩
          refine fcs ⟨Ob.new_ (ob_negk .i64 35 36 (Rt.cp x y) (-(Rt.cp x y)) _ (cp_neg _ _) rfl rfl (.inr ⟨_, _, _, rfl, rfl, by kernel_rfl, by decide, rfl⟩) (by kernel_rfl) rfl rfl) (by kernel_rfl), ?_⟩
          refine fcs ⟨Ob.new_ (ob_nei 34 36 37 .i64 3 _ (Rt.cp y x) (-(Rt.cp x y)) false (bne_no (Rt.cp_swap x y)) rfl rfl (.inr ⟨_, _, _, rfl, rfl, by kernel_rfl, by decide, rfl⟩) (by kernel_rfl) (by kernel_rfl) rfl rfl rfl) (by kernel_rfl), ?_⟩
          refine fcs ⟨Ob.new_ (ob_pick_else 31 37 38 (.bool true) rfl rfl (.inl rfl) (by kernel_rfl) (by kernel_rfl) rfl rfl) (by kernel_rfl), ?_⟩
          refine fcs ⟨Ob.new_ (ob_copy 38 39 (.inl rfl) rfl (.inl rfl) (by kernel_rfl) rfl) (by kernel_rfl), ?_⟩
          refine fcs ⟨Ob.new_ (ob_copy 7 40 (.inl rfl) rfl (.inr ⟨_, _, _, rfl, rfl, by kernel_rfl, by decide, rfl⟩) (by kernel_rfl) rfl) (by kernel_rfl), ?_⟩
          refine fcs ⟨Ob.new_ (ob_eqc 40 41 .i64 3 _ (Rt.cp x y) 0 ((Rt.cp x y) == 0) rfl rfl rfl (.inr ⟨_, _, _, rfl, rfl, by kernel_rfl, by decide, rfl⟩) (by kernel_rfl) rfl rfl) (by kernel_rfl), ?_⟩
          refine fcs ⟨Ob.new_ (ob_read 28 3 42 (Con.fr 12 x) rfl rfl (.inr ⟨_, _, _, rfl, rfl, by kernel_rfl, by decide, rfl⟩) (by kernel_rfl) points_cell rfl row26 info26) (by kernel_rfl), ?_⟩
          refine fcs ⟨Ob.new_ (ob_read 28 4 43 (Con.fr 12 y) rfl rfl (.inr ⟨_, _, _, rfl, rfl, by kernel_rfl, by decide, rfl⟩) (by kernel_rfl) points_cell rfl row26 info26) (by kernel_rfl), ?_⟩
          refine fcs ⟨Ob.new_ (ob_call2 8 42 43 44 _ rfl rfl (.inr ⟨_, _, _, rfl, rfl, by kernel_rfl, by decide, rfl⟩) (by kernel_rfl) (by kernel_rfl) (by kernel_rfl) (z_same 12 12 x y (decide (x = y)) rfl)) (by kernel_rfl), ?_⟩
          refine fcs ⟨Ob.new_ (ob_neb 41 44 45 ((Rt.cp x y) == 0) (decide (x = y)) false (or_zero x y) rfl rfl (.inr ⟨_, _, _, rfl, rfl, by kernel_rfl, by decide, rfl⟩) (by kernel_rfl) (by kernel_rfl) rfl rfl rfl) (by kernel_rfl), ?_⟩
          refine fcs ⟨Ob.new_ (ob_pick_else 39 45 46 (.bool true) rfl rfl (.inl rfl) (by kernel_rfl) (by kernel_rfl) rfl rfl) (by kernel_rfl), ?_⟩
          exact fnl
        intro a4 w4 st4 hbr4 hfr
        have hs4 := hbr4.size
        have hb := up hb hbr4
        have st : St 87 [(3, Fact.cell b3 (Con.fr 12 x)), (4, Fact.cell b4 (Con.fr 12 y)), (5, Fact.cell b5 (Con.fr 12 z)), (6, Fact.eq (.bool false)), (7, Fact.eq (.int .i64 (Rt.cp x y))), (46, Fact.eq (.bool false))] a4 w4 := st4.to (fcs ⟨st4.at_ 3, fcs ⟨st4.at_ 4, fcs ⟨st4.at_ 5, fcs ⟨st4.at_ 6, fcs ⟨st4.at_ 7, fcs ⟨st4.at_ 46, fnl⟩⟩⟩⟩⟩⟩)
        clear st4 hbr4 hfr
        refine wpList_nil ?_
        refine then_normal ?_
        refine wp_cond_false (st.at_ 46) ?_
        refine wp_skip ?_
        refine then_normal ?_
        refine wp_seq ?_
        refine wp_seq ?_
        refine sym_region st [(47, Fact.eq (.int .i64 (Rt.cp x y))), (48, Fact.eq (.bool true)), (49, Fact.eq (.bool true)), (50, Fact.agg (Con.fr 12 y)), (51, Fact.agg (Con.fr 12 z)), (52, Fact.eq (.int .i64 (Rt.cp y z))), (53, Fact.eq (.bool true)), (54, Fact.eq (.bool true)), (55, Fact.eq (.bool true)), (56, Fact.agg (Con.fr 12 x)), (57, Fact.agg (Con.fr 12 z)), (58, Fact.eq (.int .i64 (Rt.cp x z))), (59, Fact.eq (.bool false)), (60, Fact.eq (.bool false))] [] 14 (by kernel_rfl) (by kernel_rfl) (by kernel_rfl) (Nat.le_of_ble_eq_true rfl) (by kernel_rfl) rfl rfl ?_ ?_
        · refine fcs ⟨Ob.new_ (ob_copy 7 47 (.inl rfl) rfl (.inl rfl) (by kernel_rfl) rfl) (by kernel_rfl), ?_⟩
          refine fcs ⟨Ob.new_ (ob_lec 47 48 .i64 3 _ (Rt.cp x y) 0 true h1 rfl rfl (.inl rfl) (by kernel_rfl) rfl rfl) (by kernel_rfl), ?_⟩
          refine fcs ⟨Ob.new_ (ob_copy 48 49 (.inl rfl) rfl (.inl rfl) (by kernel_rfl) rfl) (by kernel_rfl), ?_⟩
          refine fcs ⟨Ob.new_ (ob_read 28 4 50 (Con.fr 12 y) rfl rfl (.inr ⟨_, _, _, rfl, rfl, by kernel_rfl, by decide, rfl⟩) (by kernel_rfl) points_cell rfl row26 info26) (by kernel_rfl), ?_⟩
          refine fcs ⟨Ob.new_ (ob_read 28 5 51 (Con.fr 12 z) rfl rfl (.inr ⟨_, _, _, rfl, rfl, by kernel_rfl, by decide, rfl⟩) (by kernel_rfl) points_cell rfl row26 info26) (by kernel_rfl), ?_⟩
          refine fcs ⟨Ob.new_ (ob_call2 18 50 51 52 _ rfl rfl (.inr ⟨_, _, _, rfl, rfl, by kernel_rfl, by decide, rfl⟩) (by kernel_rfl) (by kernel_rfl) (by kernel_rfl) (q_cmp 12 12 y z (by omega))) (by kernel_rfl), ?_⟩
          refine fcs ⟨Ob.new_ (ob_lec 52 53 .i64 3 _ (Rt.cp y z) 0 true h2 rfl rfl (.inr ⟨_, _, _, rfl, rfl, by kernel_rfl, by decide, rfl⟩) (by kernel_rfl) rfl rfl) (by kernel_rfl), ?_⟩
          refine fcs ⟨Ob.new_ (ob_pick 49 53 54 _ rfl rfl (.inl rfl) (by kernel_rfl) (by kernel_rfl) rfl rfl) (by kernel_rfl), ?_⟩
          refine fcs ⟨Ob.new_ (ob_copy 54 55 (.inl rfl) rfl (.inl rfl) (by kernel_rfl) rfl) (by kernel_rfl), ?_⟩
          refine fcs ⟨Ob.new_ (ob_read 28 3 56 (Con.fr 12 x) rfl rfl (.inr ⟨_, _, _, rfl, rfl, by kernel_rfl, by decide, rfl⟩) (by kernel_rfl) points_cell rfl row26 info26) (by kernel_rfl), ?_⟩
          refine fcs ⟨Ob.new_ (ob_read 28 5 57 (Con.fr 12 z) rfl rfl (.inr ⟨_, _, _, rfl, rfl, by kernel_rfl, by decide, rfl⟩) (by kernel_rfl) points_cell rfl row26 info26) (by kernel_rfl), ?_⟩
          refine fcs ⟨Ob.new_ (ob_call2 18 56 57 58 _ rfl rfl (.inr ⟨_, _, _, rfl, rfl, by kernel_rfl, by decide, rfl⟩) (by kernel_rfl) (by kernel_rfl) (by kernel_rfl) (q_cmp 12 12 x z (by omega))) (by kernel_rfl), ?_⟩
          refine fcs ⟨Ob.new_ (ob_gtc 58 59 .i64 3 _ (Rt.cp x z) 0 false (or_trans h1 h2) rfl rfl (.inr ⟨_, _, _, rfl, rfl, by kernel_rfl, by decide, rfl⟩) (by kernel_rfl) rfl rfl) (by kernel_rfl), ?_⟩
          refine fcs ⟨Ob.new_ (ob_pick 55 59 60 _ rfl rfl (.inl rfl) (by kernel_rfl) (by kernel_rfl) rfl rfl) (by kernel_rfl), ?_⟩
          exact fnl
        intro a5 w5 st5 hbr5 hfr
        have hs5 := hbr5.size
        have hb := up hb hbr5
        have st : St 87 [(3, Fact.cell b3 (Con.fr 12 x)), (4, Fact.cell b4 (Con.fr 12 y)), (5, Fact.cell b5 (Con.fr 12 z)), (6, Fact.eq (.bool false)), (7, Fact.eq (.int .i64 (Rt.cp x y))), (60, Fact.eq (.bool false))] a5 w5 := st5.to (fcs ⟨st5.at_ 3, fcs ⟨st5.at_ 4, fcs ⟨st5.at_ 5, fcs ⟨st5.at_ 6, fcs ⟨st5.at_ 7, fcs ⟨st5.at_ 60, fnl⟩⟩⟩⟩⟩⟩)
        clear st5 hbr5 hfr
        refine wpList_nil ?_
        refine then_normal ?_
        refine wp_cond_false (st.at_ 60) ?_
        refine wp_skip ?_
        refine then_normal ?_
        refine wp_seq ?_
        refine wp_seq ?_
        refine sym_region st [(61, Fact.agg (Con.fr 12 x)), (62, Fact.agg (Con.fr 12 z)), (63, Fact.agg (Con.fr 25 (x + z))), (64, Fact.agg (Con.fr 12 y)), (65, Fact.agg (Con.fr 12 z)), (66, Fact.agg (Con.fr 25 (y + z))), (67, Fact.eq (.int .i64 (Rt.cp (x + z) (y + z)))), (68, Fact.eq (.int .i64 (Rt.cp x y))), (69, Fact.eq (.bool false))] [] 9 (by kernel_rfl) (by kernel_rfl) (by kernel_rfl) (Nat.le_of_ble_eq_true rfl) (by kernel_rfl) rfl rfl ?_ ?_
        · refine fcs ⟨Ob.new_ (ob_read 28 3 61 (Con.fr 12 x) rfl rfl (.inl rfl) (by kernel_rfl) points_cell rfl row26 info26) (by kernel_rfl), ?_⟩
          refine fcs ⟨Ob.new_ (ob_read 28 5 62 (Con.fr 12 z) rfl rfl (.inl rfl) (by kernel_rfl) points_cell rfl row26 info26) (by kernel_rfl), ?_⟩
          refine fcs ⟨Ob.new_ (ob_call2 21 61 62 63 _ rfl rfl (.inl rfl) (by kernel_rfl) (by kernel_rfl) (by kernel_rfl) (q_add 12 12 x z (by omega))) (by kernel_rfl), ?_⟩
          refine fcs ⟨Ob.new_ (ob_read 28 4 64 (Con.fr 12 y) rfl rfl (.inl rfl) (by kernel_rfl) points_cell rfl row26 info26) (by kernel_rfl), ?_⟩
          refine fcs ⟨Ob.new_ (ob_read 28 5 65 (Con.fr 12 z) rfl rfl (.inl rfl) (by kernel_rfl) points_cell rfl row26 info26) (by kernel_rfl), ?_⟩
          refine fcs ⟨Ob.new_ (ob_call2 21 64 65 66 _ rfl rfl (.inl rfl) (by kernel_rfl) (by kernel_rfl) (by kernel_rfl) (q_add 12 12 y z (by omega))) (by kernel_rfl), ?_⟩
          refine fcs ⟨Ob.new_ (ob_call2 18 63 66 67 _ rfl rfl (.inl rfl) (by kernel_rfl) (by kernel_rfl) (by kernel_rfl) (q_cmp 25 25 (x + z) (y + z) (by omega))) (by kernel_rfl), ?_⟩
          refine fcs ⟨Ob.new_ (ob_copy 7 68 (.inl rfl) rfl (.inl rfl) (by kernel_rfl) rfl) (by kernel_rfl), ?_⟩
          refine fcs ⟨Ob.new_ (ob_nei 67 68 69 .i64 3 _ (Rt.cp (x + z) (y + z)) (Rt.cp x y) false (bne_no (Rt.cp_add x y z)) rfl rfl (.inl rfl) (by kernel_rfl) (by kernel_rfl) rfl rfl rfl) (by kernel_rfl), ?_⟩
          exact fnl
        intro a6 w6 st6 hbr6 hfr
        have hs6 := hbr6.size
        have hb := up hb hbr6
        have st : St 87 [(3, Fact.cell b3 (Con.fr 12 x)), (4, Fact.cell b4 (Con.fr 12 y)), (5, Fact.cell b5 (Con.fr 12 z)), (6, Fact.eq (.bool false)), (7, Fact.eq (.int .i64 (Rt.cp x y))), (69, Fact.eq (.bool false))] a6 w6 := st6.to (fcs ⟨st6.at_ 3, fcs ⟨st6.at_ 4, fcs ⟨st6.at_ 5, fcs ⟨st6.at_ 6, fcs ⟨st6.at_ 7, fcs ⟨st6.at_ 69, fnl⟩⟩⟩⟩⟩⟩)
        clear st6 hbr6 hfr
        refine wpList_nil ?_
        refine then_normal ?_
        refine wp_cond_false (st.at_ 69) ?_
        refine wp_skip ?_
        refine then_normal ?_
        refine wp_seq ?_
        have st := st.to (ks' := [(3, Fact.cell b3 (Con.fr 12 x)), (4, Fact.cell b4 (Con.fr 12 y)), (5, Fact.cell b5 (Con.fr 12 z)), (7, Fact.eq (.int .i64 (Rt.cp x y))), (69, Fact.eq (.bool false))]) (fcs ⟨st.at_ 3, fcs ⟨st.at_ 4, fcs ⟨st.at_ 5, fcs ⟨st.at_ 7, fcs ⟨st.at_ 69, fnl⟩⟩⟩⟩⟩)
        refine sym_region st [(70, Fact.agg (Con.fr 12 z)), (71, Fact.eq (.int .i64 (Rt.sn z))), (72, Fact.eq (.bool true)), (73, Fact.eq (.bool true)), (74, Fact.eq undef), (75, Fact.eq undef), (76, Fact.eq undef), (77, Fact.eq undef), (78, Fact.eq undef), (79, Fact.eq undef), (80, Fact.eq undef), (81, Fact.eq undef), (82, Fact.eq undef), (83, Fact.eq (.bool true)), (84, Fact.eq (.bool true)), (85, Fact.eq (.bool true)), (86, Fact.eq (.bool true)), (6, Fact.eq (.bool true))] [] 18 (by kernel_rfl) (by kernel_rfl) (by kernel_rfl) (Nat.le_of_ble_eq_true rfl) (by kernel_rfl) rfl rfl ?_ ?_
        · refine fcs ⟨Ob.new_ (ob_read 28 5 70 (Con.fr 12 z) rfl rfl (.inl rfl) (by kernel_rfl) points_cell rfl row26 info26) (by kernel_rfl), ?_⟩
          refine fcs ⟨Ob.new_ (ob_call1 19 70 71 _ rfl rfl (.inl rfl) (by kernel_rfl) (by kernel_rfl) (q_sign 12 z)) (by kernel_rfl), ?_⟩
          refine fcs ⟨Ob.new_ (ob_lec 71 72 .i64 3 _ (Rt.sn z) 0 true h3 rfl rfl (.inl rfl) (by kernel_rfl) rfl rfl) (by kernel_rfl), ?_⟩
          refine fcs ⟨Ob.new_ (ob_copy 72 73 (.inl rfl) rfl (.inl rfl) (by kernel_rfl) rfl) (by kernel_rfl), ?_⟩
          refine fcs ⟨Ob.new_ (ob_skip 3 73 74 false rfl rfl (by kernel_rfl) (by decide) rfl rfl rfl) (by kernel_rfl), ?_⟩
          refine fcs ⟨Ob.new_ (ob_skip 3 73 75 false rfl rfl (by kernel_rfl) (by decide) rfl rfl rfl) (by kernel_rfl), ?_⟩
          refine fcs ⟨Ob.new_ (ob_skip 3 73 76 false rfl rfl (by kernel_rfl) (by decide) rfl rfl rfl) (by kernel_rfl), ?_⟩
          refine fcs ⟨Ob.new_ (ob_skip 3 73 77 false rfl rfl (by kernel_rfl) (by decide) rfl rfl rfl) (by kernel_rfl), ?_⟩
          refine fcs ⟨Ob.new_ (ob_skip 3 73 78 false rfl rfl (by kernel_rfl) (by decide) rfl rfl rfl) (by kernel_rfl), ?_⟩
          refine fcs ⟨Ob.new_ (ob_skip 3 73 79 false rfl rfl (by kernel_rfl) (by decide) rfl rfl rfl) (by kernel_rfl), ?_⟩
          refine fcs ⟨Ob.new_ (ob_skip 3 73 80 false rfl rfl (by kernel_rfl) (by decide) rfl rfl rfl) (by kernel_rfl), ?_⟩
          refine fcs ⟨Ob.new_ (ob_skip 3 73 81 false rfl rfl (by kernel_rfl) (by decide) rfl rfl rfl) (by kernel_rfl), ?_⟩
          refine fcs ⟨Ob.new_ (ob_skip 3 73 82 false rfl rfl (by kernel_rfl) (by decide) rfl rfl rfl) (by kernel_rfl), ?_⟩
          refine fcs ⟨Ob.new_ (ob_pick_or 73 82 83 (.bool true) rfl rfl (.inl rfl) (by kernel_rfl) rfl rfl) (by kernel_rfl), ?_⟩
          refine fcs ⟨Ob.new_ (ob_copy 83 84 (.inl rfl) rfl (.inl rfl) (by kernel_rfl) rfl) (by kernel_rfl), ?_⟩
          refine fcs ⟨Ob.new_ (ob_call0 12 85 _ rfl rfl (.inr ⟨_, _, _, rfl, rfl, by kernel_rfl, by decide, rfl⟩) (by kernel_rfl) w_awake) (by kernel_rfl), ?_⟩
          refine fcs ⟨Ob.new_ (ob_pick 84 85 86 _ rfl rfl (.inl rfl) (by kernel_rfl) (by kernel_rfl) rfl rfl) (by kernel_rfl), ?_⟩
          refine fcs ⟨Ob.new_ (ob_copy 86 6 (.inr rfl) rfl (.inl rfl) (by kernel_rfl) rfl) (by kernel_rfl), ?_⟩
          exact fnl
        intro a7 w7 st7 hbr7 hfr
        have hs7 := hbr7.size
        have hb := up hb hbr7
        have st : St 87 [(6, Fact.eq (.bool true))] a7 w7 := st7.to (fcs ⟨st7.at_ 6, fnl⟩)
        clear st7 hbr7 hfr
        refine wpList_nil ?_
        refine then_normal ?_
        refine wp_ret ?_
        exact sym_ret1 rfl st.defers (resAt_tmp st 6) hb (fun _ h => h)
set_option maxRecDepth 100000 in
theorem law_orders_no0 (s0 : Bool) (xs0 ys0 : List Nat) (s1 : Bool) (xs1 ys1 : List Nat) (s2 : Bool) (xs2 ys2 : List Nat) (hf : fitB s0 xs0 ys0 = false) : ∀ v0 v1 v2 w, (Fact.agg (Con.pre s0 xs0 ys0)).holds v0 w → (Fact.agg (Con.pre s1 xs1 ys1)).holds v1 w → (Fact.agg (Con.pre s2 xs2 ys2)).holds v2 w → Calls Tryd.prog 5 #[v0, v1, v2] w (Ret (Fact.eq (.bool true)) w) := by
  intro v0 v1 v2 w hv0 hv1 hv2
  refine sym_calls 87 [(0, Fact.agg (Con.pre s0 xs0 ys0)), (1, Fact.agg (Con.pre s1 xs1 ys1)), (2, Fact.agg (Con.pre s2 xs2 ys2))] Tryd.func5 rfl rfl (Nat.le_of_ble_eq_true rfl) (fcs ⟨⟨Nat.le_of_ble_eq_true rfl, hv0⟩, fcs ⟨⟨Nat.le_of_ble_eq_true rfl, hv1⟩, fcs ⟨⟨Nat.le_of_ble_eq_true rfl, hv2⟩, fnl⟩⟩⟩) fun a st => ?_
  have hb := Below.refl w.heap.size w
  refine wp_seq ?_
  refine sym_region st [(3, Fact.var' (Con.pre s0 xs0 ys0)), (4, Fact.var' (Con.pre s1 xs1 ys1)), (5, Fact.var' (Con.pre s2 xs2 ys2)), (6, Fact.eq (.bool false))] [3, 4, 5] 4 (by kernel_rfl) (by kernel_rfl) (by kernel_rfl) (Nat.le_of_ble_eq_true rfl) (by kernel_rfl) rfl rfl ?_ ?_
  · refine fcs ⟨obn_box 28 0 3 _ (Con.pre s0 xs0 ys0) rfl rfl rfl (by kernel_rfl) rfl rfl, ?_⟩
    refine fcs ⟨obn_box 28 1 4 _ (Con.pre s1 xs1 ys1) rfl rfl rfl (by kernel_rfl) rfl rfl, ?_⟩
    refine fcs ⟨obn_box 28 2 5 _ (Con.pre s2 xs2 ys2) rfl rfl rfl (by kernel_rfl) rfl rfl, ?_⟩
    refine fcs ⟨Ob.new_ (ob_const (.bool false) 6 (.inr rfl) rfl (.inl rfl) rfl) (by kernel_rfl), ?_⟩
    exact fnl
  intro a1 w1 st1 hbr1 hfr
  have hs1 := hbr1.size
  have hb := up hb hbr1
  obtain ⟨b3, c3⟩ := (show (Fact.var' (Con.pre s0 xs0 ys0)).holds _ _ from st1.at_ 3)
  have g3 := hfr.ge (s := 3) rfl c3.1
  obtain ⟨b4, c4⟩ := (show (Fact.var' (Con.pre s1 xs1 ys1)).holds _ _ from st1.at_ 4)
  have g4 := hfr.ge (s := 4) rfl c4.1
  obtain ⟨b5, c5⟩ := (show (Fact.var' (Con.pre s2 xs2 ys2)).holds _ _ from st1.at_ 5)
  have g5 := hfr.ge (s := 5) rfl c5.1
  have ne3_4 := hfr.apart (s := 3) (t := 4) rfl rfl (by decide) c3.1 c4.1
  have ne3_5 := hfr.apart (s := 3) (t := 5) rfl rfl (by decide) c3.1 c5.1
  have ne4_5 := hfr.apart (s := 4) (t := 5) rfl rfl (by decide) c4.1 c5.1
  have st : St 87 [(3, Fact.cell b3 (Con.pre s0 xs0 ys0)), (4, Fact.cell b4 (Con.pre s1 xs1 ys1)), (5, Fact.cell b5 (Con.pre s2 xs2 ys2)), (6, Fact.eq (.bool false))] a1 w1 := st1.to (fcs ⟨c3, fcs ⟨c4, fcs ⟨c5, fcs ⟨st1.at_ 6, fnl⟩⟩⟩⟩)
  clear st1 hbr1 hfr c3 c4 c5
  refine wpList_nil ?_
  refine then_normal ?_
  refine wp_seq ?_
  refine wp_seq ?_
  refine sym_region st [(8, Fact.agg (Con.pre s0 xs0 ys0)), (9, Fact.eq (.bool false)), (10, Fact.eq (.bool true)), (11, Fact.eq (.bool true)), (12, Fact.eq undef), (13, Fact.eq undef), (14, Fact.eq undef), (15, Fact.eq (.bool true)), (16, Fact.eq (.bool true)), (17, Fact.eq undef), (18, Fact.eq undef), (19, Fact.eq undef), (20, Fact.eq (.bool true))] [] 13 (by kernel_rfl) (by kernel_rfl) (by kernel_rfl) (Nat.le_of_ble_eq_true rfl) (by kernel_rfl) rfl rfl ?_ ?_
  · refine fcs ⟨Ob.new_ (ob_read 28 3 8 (Con.pre s0 xs0 ys0) rfl rfl (.inl rfl) (by kernel_rfl) points_cell rfl row26 info26) (by kernel_rfl), ?_⟩
    refine fcs ⟨Ob.new_ (ob_call1 17 8 9 _ rfl rfl (.inl rfl) (by kernel_rfl) (by kernel_rfl) (w_fit s0 xs0 ys0 false hf)) (by kernel_rfl), ?_⟩
    refine fcs ⟨Ob.new_ (ob_not 9 10 false true rfl rfl rfl (.inl rfl) (by kernel_rfl) rfl rfl) (by kernel_rfl), ?_⟩
    refine fcs ⟨Ob.new_ (ob_copy 10 11 (.inl rfl) rfl (.inl rfl) (by kernel_rfl) rfl) (by kernel_rfl), ?_⟩
    refine fcs ⟨Ob.new_ (ob_skip 3 11 12 false rfl rfl (by kernel_rfl) (by decide) rfl rfl rfl) (by kernel_rfl), ?_⟩
    refine fcs ⟨Ob.new_ (ob_skip 3 11 13 false rfl rfl (by kernel_rfl) (by decide) rfl rfl rfl) (by kernel_rfl), ?_⟩
    refine fcs ⟨Ob.new_ (ob_skip 3 11 14 false rfl rfl (by kernel_rfl) (by decide) rfl rfl rfl) (by kernel_rfl), ?_⟩
    refine fcs ⟨Ob.new_ (ob_pick_or 11 14 15 (.bool true) rfl rfl (.inl rfl) (by kernel_rfl) rfl rfl) (by kernel_rfl), ?_⟩
    refine fcs ⟨Ob.new_ (ob_copy 15 16 (.inl rfl) rfl (.inl rfl) (by kernel_rfl) rfl) (by kernel_rfl), ?_⟩
    refine fcs ⟨Ob.new_ (ob_skip 8 16 17 false rfl rfl (by kernel_rfl) (by decide) rfl rfl rfl) (by kernel_rfl), ?_⟩
    refine fcs ⟨Ob.new_ (ob_skip 8 16 18 false rfl rfl (by kernel_rfl) (by decide) rfl rfl rfl) (by kernel_rfl), ?_⟩
    refine fcs ⟨Ob.new_ (ob_skip 8 16 19 false rfl rfl (by kernel_rfl) (by decide) rfl rfl rfl) (by kernel_rfl), ?_⟩
    refine fcs ⟨Ob.new_ (ob_pick_or 16 19 20 (.bool true) rfl rfl (.inl rfl) (by kernel_rfl) rfl rfl) (by kernel_rfl), ?_⟩
    exact fnl
  intro a2 w2 st2 hbr2 hfr
  have hs2 := hbr2.size
  have hb := up hb hbr2
  have st : St 87 [(3, Fact.cell b3 (Con.pre s0 xs0 ys0)), (4, Fact.cell b4 (Con.pre s1 xs1 ys1)), (5, Fact.cell b5 (Con.pre s2 xs2 ys2)), (6, Fact.eq (.bool false)), (20, Fact.eq (.bool true))] a2 w2 := st2.to (fcs ⟨st2.at_ 3, fcs ⟨st2.at_ 4, fcs ⟨st2.at_ 5, fcs ⟨st2.at_ 6, fcs ⟨st2.at_ 20, fnl⟩⟩⟩⟩⟩)
  clear st2 hbr2 hfr
  refine wpList_nil ?_
  refine then_normal ?_
  refine wp_cond_true (st.at_ 20) ?_
  refine wp_seq ?_
  have st := st.to (ks' := [(3, Fact.cell b3 (Con.pre s0 xs0 ys0)), (4, Fact.cell b4 (Con.pre s1 xs1 ys1)), (5, Fact.cell b5 (Con.pre s2 xs2 ys2)), (20, Fact.eq (.bool true))]) (fcs ⟨st.at_ 3, fcs ⟨st.at_ 4, fcs ⟨st.at_ 5, fcs ⟨st.at_ 20, fnl⟩⟩⟩⟩)
  refine sym_region st [(21, Fact.eq (.bool true)), (6, Fact.eq (.bool true))] [] 2 (by kernel_rfl) (by kernel_rfl) (by kernel_rfl) (Nat.le_of_ble_eq_true rfl) (by kernel_rfl) rfl rfl ?_ ?_
  · refine fcs ⟨Ob.new_ (ob_call0 12 21 _ rfl rfl (.inl rfl) (by kernel_rfl) w_awake) (by kernel_rfl), ?_⟩
    refine fcs ⟨Ob.new_ (ob_copy 21 6 (.inr rfl) rfl (.inl rfl) (by kernel_rfl) rfl) (by kernel_rfl), ?_⟩
    exact fnl
  intro a3 w3 st3 hbr3 hfr
  have hs3 := hbr3.size
  have hb := up hb hbr3
  have st : St 87 [(3, Fact.cell b3 (Con.pre s0 xs0 ys0)), (4, Fact.cell b4 (Con.pre s1 xs1 ys1)), (5, Fact.cell b5 (Con.pre s2 xs2 ys2)), (6, Fact.eq (.bool true))] a3 w3 := st3.to (fcs ⟨st3.at_ 3, fcs ⟨st3.at_ 4, fcs ⟨st3.at_ 5, fcs ⟨st3.at_ 6, fnl⟩⟩⟩⟩)
  clear st3 hbr3 hfr
  refine wpList_nil ?_
  refine then_normal ?_
  refine wp_ret ?_
  exact sym_ret1 rfl st.defers (resAt_tmp st 6) hb (fun _ h => h)
set_option maxRecDepth 100000 in
theorem law_orders_no1 (x : Rat) (s1 : Bool) (xs1 ys1 : List Nat) (s2 : Bool) (xs2 ys2 : List Nat) (hf : fitB s1 xs1 ys1 = false) : ∀ v0 v1 v2 w, (Fact.agg (Con.fr 12 x)).holds v0 w → (Fact.agg (Con.pre s1 xs1 ys1)).holds v1 w → (Fact.agg (Con.pre s2 xs2 ys2)).holds v2 w → Calls Tryd.prog 5 #[v0, v1, v2] w (Ret (Fact.eq (.bool true)) w) := by
  intro v0 v1 v2 w hv0 hv1 hv2
  refine sym_calls 87 [(0, Fact.agg (Con.fr 12 x)), (1, Fact.agg (Con.pre s1 xs1 ys1)), (2, Fact.agg (Con.pre s2 xs2 ys2))] Tryd.func5 rfl rfl (Nat.le_of_ble_eq_true rfl) (fcs ⟨⟨Nat.le_of_ble_eq_true rfl, hv0⟩, fcs ⟨⟨Nat.le_of_ble_eq_true rfl, hv1⟩, fcs ⟨⟨Nat.le_of_ble_eq_true rfl, hv2⟩, fnl⟩⟩⟩) fun a st => ?_
  have hb := Below.refl w.heap.size w
  refine wp_seq ?_
  refine sym_region st [(3, Fact.var' (Con.fr 12 x)), (4, Fact.var' (Con.pre s1 xs1 ys1)), (5, Fact.var' (Con.pre s2 xs2 ys2)), (6, Fact.eq (.bool false))] [3, 4, 5] 4 (by kernel_rfl) (by kernel_rfl) (by kernel_rfl) (Nat.le_of_ble_eq_true rfl) (by kernel_rfl) rfl rfl ?_ ?_
  · refine fcs ⟨obn_box 28 0 3 _ (Con.fr 12 x) rfl rfl rfl (by kernel_rfl) rfl rfl, ?_⟩
    refine fcs ⟨obn_box 28 1 4 _ (Con.pre s1 xs1 ys1) rfl rfl rfl (by kernel_rfl) rfl rfl, ?_⟩
    refine fcs ⟨obn_box 28 2 5 _ (Con.pre s2 xs2 ys2) rfl rfl rfl (by kernel_rfl) rfl rfl, ?_⟩
    refine fcs ⟨Ob.new_ (ob_const (.bool false) 6 (.inr rfl) rfl (.inl rfl) rfl) (by kernel_rfl), ?_⟩
    exact fnl
  intro a1 w1 st1 hbr1 hfr
  have hs1 := hbr1.size
  have hb := up hb hbr1
  obtain ⟨b3, c3⟩ := (show (Fact.var' (Con.fr 12 x)).holds _ _ from st1.at_ 3)
  have g3 := hfr.ge (s := 3) rfl c3.1
  obtain ⟨b4, c4⟩ := (show (Fact.var' (Con.pre s1 xs1 ys1)).holds _ _ from st1.at_ 4)
  have g4 := hfr.ge (s := 4) rfl c4.1
  obtain ⟨b5, c5⟩ := (show (Fact.var' (Con.pre s2 xs2 ys2)).holds _ _ from st1.at_ 5)
  have g5 := hfr.ge (s := 5) rfl c5.1
  have ne3_4 := hfr.apart (s := 3) (t := 4) rfl rfl (by decide) c3.1 c4.1
  have ne3_5 := hfr.apart (s := 3) (t := 5) rfl rfl (by decide) c3.1 c5.1
  have ne4_5 := hfr.apart (s := 4) (t := 5) rfl rfl (by decide) c4.1 c5.1
  have st : St 87 [(3, Fact.cell b3 (Con.fr 12 x)), (4, Fact.cell b4 (Con.pre s1 xs1 ys1)), (5, Fact.cell b5 (Con.pre s2 xs2 ys2)), (6, Fact.eq (.bool false))] a1 w1 := st1.to (fcs ⟨c3, fcs ⟨c4, fcs ⟨c5, fcs ⟨st1.at_ 6, fnl⟩⟩⟩⟩)
  clear st1 hbr1 hfr c3 c4 c5
  refine wpList_nil ?_
  refine then_normal ?_
  refine wp_seq ?_
  refine wp_seq ?_
  refine sym_region st [(8, Fact.agg (Con.fr 12 x)), (9, Fact.eq (.bool true)), (10, Fact.eq (.bool false)), (11, Fact.eq (.bool false)), (12, Fact.agg (Con.pre s1 xs1 ys1)), (13, Fact.eq (.bool false)), (14, Fact.eq (.bool true)), (15, Fact.eq (.bool true)), (16, Fact.eq (.bool true)), (17, Fact.eq undef), (18, Fact.eq undef), (19, Fact.eq undef), (20, Fact.eq (.bool true))] [] 13 (by kernel_rfl) (by kernel_rfl) (by kernel_rfl) (Nat.le_of_ble_eq_true rfl) (by kernel_rfl) rfl rfl ?_ ?_
  · refine fcs ⟨Ob.new_ (ob_read 28 3 8 (Con.fr 12 x) rfl rfl (.inl rfl) (by kernel_rfl) points_cell rfl row26 info26) (by kernel_rfl), ?_⟩
    refine fcs ⟨Ob.new_ (ob_call1 17 8 9 _ rfl rfl (.inl rfl) (by kernel_rfl) (by kernel_rfl) (w_fit_yes x)) (by kernel_rfl), ?_⟩
    refine fcs ⟨Ob.new_ (ob_not 9 10 true false rfl rfl rfl (.inl rfl) (by kernel_rfl) rfl rfl) (by kernel_rfl), ?_⟩
    refine fcs ⟨Ob.new_ (ob_copy 10 11 (.inl rfl) rfl (.inl rfl) (by kernel_rfl) rfl) (by kernel_rfl), ?_⟩
    refine fcs ⟨Ob.new_ (ob_read 28 4 12 (Con.pre s1 xs1 ys1) rfl rfl (.inr ⟨_, _, _, rfl, rfl, by kernel_rfl, by decide, rfl⟩) (by kernel_rfl) points_cell rfl row26 info26) (by kernel_rfl), ?_⟩
    refine fcs ⟨Ob.new_ (ob_call1 17 12 13 _ rfl rfl (.inr ⟨_, _, _, rfl, rfl, by kernel_rfl, by decide, rfl⟩) (by kernel_rfl) (by kernel_rfl) (w_fit s1 xs1 ys1 false hf)) (by kernel_rfl), ?_⟩
    refine fcs ⟨Ob.new_ (ob_not 13 14 false true rfl rfl rfl (.inr ⟨_, _, _, rfl, rfl, by kernel_rfl, by decide, rfl⟩) (by kernel_rfl) rfl rfl) (by kernel_rfl), ?_⟩
    refine fcs ⟨Ob.new_ (ob_pick_else 11 14 15 (.bool true) rfl rfl (.inl rfl) (by kernel_rfl) (by kernel_rfl) rfl rfl) (by kernel_rfl), ?_⟩
    refine fcs ⟨Ob.new_ (ob_copy 15 16 (.inl rfl) rfl (.inl rfl) (by kernel_rfl) rfl) (by kernel_rfl), ?_⟩
    refine fcs ⟨Ob.new_ (ob_skip 8 16 17 false rfl rfl (by kernel_rfl) (by decide) rfl rfl rfl) (by kernel_rfl), ?_⟩
    refine fcs ⟨Ob.new_ (ob_skip 8 16 18 false rfl rfl (by kernel_rfl) (by decide) rfl rfl rfl) (by kernel_rfl), ?_⟩
    refine fcs ⟨Ob.new_ (ob_skip 8 16 19 false rfl rfl (by kernel_rfl) (by decide) rfl rfl rfl) (by kernel_rfl), ?_⟩
    refine fcs ⟨Ob.new_ (ob_pick_or 16 19 20 (.bool true) rfl rfl (.inl rfl) (by kernel_rfl) rfl rfl) (by kernel_rfl), ?_⟩
    exact fnl
  intro a2 w2 st2 hbr2 hfr
  have hs2 := hbr2.size
  have hb := up hb hbr2
  have st : St 87 [(3, Fact.cell b3 (Con.fr 12 x)), (4, Fact.cell b4 (Con.pre s1 xs1 ys1)), (5, Fact.cell b5 (Con.pre s2 xs2 ys2)), (6, Fact.eq (.bool false)), (20, Fact.eq (.bool true))] a2 w2 := st2.to (fcs ⟨st2.at_ 3, fcs ⟨st2.at_ 4, fcs ⟨st2.at_ 5, fcs ⟨st2.at_ 6, fcs ⟨st2.at_ 20, fnl⟩⟩⟩⟩⟩)
  clear st2 hbr2 hfr
  refine wpList_nil ?_
  refine then_normal ?_
  refine wp_cond_true (st.at_ 20) ?_
  refine wp_seq ?_
  have st := st.to (ks' := [(3, Fact.cell b3 (Con.fr 12 x)), (4, Fact.cell b4 (Con.pre s1 xs1 ys1)), (5, Fact.cell b5 (Con.pre s2 xs2 ys2)), (20, Fact.eq (.bool true))]) (fcs ⟨st.at_ 3, fcs ⟨st.at_ 4, fcs ⟨st.at_ 5, fcs ⟨st.at_ 20, fnl⟩⟩⟩⟩)
  refine sym_region st [(21, Fact.eq (.bool true)), (6, Fact.eq (.bool true))] [] 2 (by kernel_rfl) (by kernel_rfl) (by kernel_rfl) (Nat.le_of_ble_eq_true rfl) (by kernel_rfl) rfl rfl ?_ ?_
  · refine fcs ⟨Ob.new_ (ob_call0 12 21 _ rfl rfl (.inl rfl) (by kernel_rfl) w_awake) (by kernel_rfl), ?_⟩
    refine fcs ⟨Ob.new_ (ob_copy 21 6 (.inr rfl) rfl (.inl rfl) (by kernel_rfl) rfl) (by kernel_rfl), ?_⟩
    exact fnl
  intro a3 w3 st3 hbr3 hfr
  have hs3 := hbr3.size
  have hb := up hb hbr3
  have st : St 87 [(3, Fact.cell b3 (Con.fr 12 x)), (4, Fact.cell b4 (Con.pre s1 xs1 ys1)), (5, Fact.cell b5 (Con.pre s2 xs2 ys2)), (6, Fact.eq (.bool true))] a3 w3 := st3.to (fcs ⟨st3.at_ 3, fcs ⟨st3.at_ 4, fcs ⟨st3.at_ 5, fcs ⟨st3.at_ 6, fnl⟩⟩⟩⟩)
  clear st3 hbr3 hfr
  refine wpList_nil ?_
  refine then_normal ?_
  refine wp_ret ?_
  exact sym_ret1 rfl st.defers (resAt_tmp st 6) hb (fun _ h => h)
set_option maxRecDepth 100000 in
theorem law_orders_no2 (x y : Rat) (s2 : Bool) (xs2 ys2 : List Nat) (hf : fitB s2 xs2 ys2 = false) : ∀ v0 v1 v2 w, (Fact.agg (Con.fr 12 x)).holds v0 w → (Fact.agg (Con.fr 12 y)).holds v1 w → (Fact.agg (Con.pre s2 xs2 ys2)).holds v2 w → Calls Tryd.prog 5 #[v0, v1, v2] w (Ret (Fact.eq (.bool true)) w) := by
  intro v0 v1 v2 w hv0 hv1 hv2
  refine sym_calls 87 [(0, Fact.agg (Con.fr 12 x)), (1, Fact.agg (Con.fr 12 y)), (2, Fact.agg (Con.pre s2 xs2 ys2))] Tryd.func5 rfl rfl (Nat.le_of_ble_eq_true rfl) (fcs ⟨⟨Nat.le_of_ble_eq_true rfl, hv0⟩, fcs ⟨⟨Nat.le_of_ble_eq_true rfl, hv1⟩, fcs ⟨⟨Nat.le_of_ble_eq_true rfl, hv2⟩, fnl⟩⟩⟩) fun a st => ?_
  have hb := Below.refl w.heap.size w
  refine wp_seq ?_
  refine sym_region st [(3, Fact.var' (Con.fr 12 x)), (4, Fact.var' (Con.fr 12 y)), (5, Fact.var' (Con.pre s2 xs2 ys2)), (6, Fact.eq (.bool false))] [3, 4, 5] 4 (by kernel_rfl) (by kernel_rfl) (by kernel_rfl) (Nat.le_of_ble_eq_true rfl) (by kernel_rfl) rfl rfl ?_ ?_
  · refine fcs ⟨obn_box 28 0 3 _ (Con.fr 12 x) rfl rfl rfl (by kernel_rfl) rfl rfl, ?_⟩
    refine fcs ⟨obn_box 28 1 4 _ (Con.fr 12 y) rfl rfl rfl (by kernel_rfl) rfl rfl, ?_⟩
    refine fcs ⟨obn_box 28 2 5 _ (Con.pre s2 xs2 ys2) rfl rfl rfl (by kernel_rfl) rfl rfl, ?_⟩
    refine fcs ⟨Ob.new_ (ob_const (.bool false) 6 (.inr rfl) rfl (.inl rfl) rfl) (by kernel_rfl), ?_⟩
    exact fnl
  intro a1 w1 st1 hbr1 hfr
  have hs1 := hbr1.size
  have hb := up hb hbr1
  obtain ⟨b3, c3⟩ := (show (Fact.var' (Con.fr 12 x)).holds _ _ from st1.at_ 3)
  have g3 := hfr.ge (s := 3) rfl c3.1
  obtain ⟨b4, c4⟩ := (show (Fact.var' (Con.fr 12 y)).holds _ _ from st1.at_ 4)
  have g4 := hfr.ge (s := 4) rfl c4.1
  obtain ⟨b5, c5⟩ := (show (Fact.var' (Con.pre s2 xs2 ys2)).holds _ _ from st1.at_ 5)
  have g5 := hfr.ge (s := 5) rfl c5.1
  have ne3_4 := hfr.apart (s := 3) (t := 4) rfl rfl (by decide) c3.1 c4.1
  have ne3_5 := hfr.apart (s := 3) (t := 5) rfl rfl (by decide) c3.1 c5.1
  have ne4_5 := hfr.apart (s := 4) (t := 5) rfl rfl (by decide) c4.1 c5.1
  have st : St 87 [(3, Fact.cell b3 (Con.fr 12 x)), (4, Fact.cell b4 (Con.fr 12 y)), (5, Fact.cell b5 (Con.pre s2 xs2 ys2)), (6, Fact.eq (.bool false))] a1 w1 := st1.to (fcs ⟨c3, fcs ⟨c4, fcs ⟨c5, fcs ⟨st1.at_ 6, fnl⟩⟩⟩⟩)
  clear st1 hbr1 hfr c3 c4 c5
  refine wpList_nil ?_
  refine then_normal ?_
  refine wp_seq ?_
  refine wp_seq ?_
  refine sym_region st [(8, Fact.agg (Con.fr 12 x)), (9, Fact.eq (.bool true)), (10, Fact.eq (.bool false)), (11, Fact.eq (.bool false)), (12, Fact.agg (Con.fr 12 y)), (13, Fact.eq (.bool true)), (14, Fact.eq (.bool false)), (15, Fact.eq (.bool false)), (16, Fact.eq (.bool false)), (17, Fact.agg (Con.pre s2 xs2 ys2)), (18, Fact.eq (.bool false)), (19, Fact.eq (.bool true)), (20, Fact.eq (.bool true))] [] 13 (by kernel_rfl) (by kernel_rfl) (by kernel_rfl) (Nat.le_of_ble_eq_true rfl) (by kernel_rfl) rfl rfl ?_ ?_
  · refine fcs ⟨Ob.new_ (ob_read 28 3 8 (Con.fr 12 x) rfl rfl (.inl rfl) (by kernel_rfl) points_cell rfl row26 info26) (by kernel_rfl), ?_⟩
    refine fcs ⟨Ob.new_ (ob_call1 17 8 9 _ rfl rfl (.inl rfl) (by kernel_rfl) (by kernel_rfl) (w_fit_yes x)) (by kernel_rfl), ?_⟩
    refine fcs ⟨Ob.new_ (ob_not 9 10 true false rfl rfl rfl (.inl rfl) (by kernel_rfl) rfl rfl) (by kernel_rfl), ?_⟩
    refine fcs ⟨Ob.new_ (ob_copy 10 11 (.inl rfl) rfl (.inl rfl) (by kernel_rfl) rfl) (by kernel_rfl), ?_⟩
    refine fcs ⟨Ob.new_ (ob_read 28 4 12 (Con.fr 12 y) rfl rfl (.inr ⟨_, _, _, rfl, rfl, by kernel_rfl, by decide, rfl⟩) (by kernel_rfl) points_cell rfl row26 info26) (by kernel_rfl), ?_⟩
    refine fcs ⟨Ob.new_ (ob_call1 17 12 13 _ rfl rfl (.inr ⟨_, _, _, rfl, rfl, by kernel_rfl, by decide, rfl⟩) (by kernel_rfl) (by kernel_rfl) (w_fit_yes y)) (by kernel_rfl), ?_⟩
    refine fcs ⟨Ob.new_ (ob_not 13 14 true false rfl rfl rfl (.inr ⟨_, _, _, rfl, rfl, by kernel_rfl, by decide, rfl⟩) (by kernel_rfl) rfl rfl) (by kernel_rfl), ?_⟩
    refine fcs ⟨Ob.new_ (ob_pick_else 11 14 15 (.bool true) rfl rfl (.inl rfl) (by kernel_rfl) (by kernel_rfl) rfl rfl) (by kernel_rfl), ?_⟩
    refine fcs ⟨Ob.new_ (ob_copy 15 16 (.inl rfl) rfl (.inl rfl) (by kernel_rfl) rfl) (by kernel_rfl), ?_⟩
    refine fcs ⟨Ob.new_ (ob_read 28 5 17 (Con.pre s2 xs2 ys2) rfl rfl (.inr ⟨_, _, _, rfl, rfl, by kernel_rfl, by decide, rfl⟩) (by kernel_rfl) points_cell rfl row26 info26) (by kernel_rfl), ?_⟩
    refine fcs ⟨Ob.new_ (ob_call1 17 17 18 _ rfl rfl (.inr ⟨_, _, _, rfl, rfl, by kernel_rfl, by decide, rfl⟩) (by kernel_rfl) (by kernel_rfl) (w_fit s2 xs2 ys2 false hf)) (by kernel_rfl), ?_⟩
    refine fcs ⟨Ob.new_ (ob_not 18 19 false true rfl rfl rfl (.inr ⟨_, _, _, rfl, rfl, by kernel_rfl, by decide, rfl⟩) (by kernel_rfl) rfl rfl) (by kernel_rfl), ?_⟩
    refine fcs ⟨Ob.new_ (ob_pick_else 16 19 20 (.bool true) rfl rfl (.inl rfl) (by kernel_rfl) (by kernel_rfl) rfl rfl) (by kernel_rfl), ?_⟩
    exact fnl
  intro a2 w2 st2 hbr2 hfr
  have hs2 := hbr2.size
  have hb := up hb hbr2
  have st : St 87 [(3, Fact.cell b3 (Con.fr 12 x)), (4, Fact.cell b4 (Con.fr 12 y)), (5, Fact.cell b5 (Con.pre s2 xs2 ys2)), (6, Fact.eq (.bool false)), (20, Fact.eq (.bool true))] a2 w2 := st2.to (fcs ⟨st2.at_ 3, fcs ⟨st2.at_ 4, fcs ⟨st2.at_ 5, fcs ⟨st2.at_ 6, fcs ⟨st2.at_ 20, fnl⟩⟩⟩⟩⟩)
  clear st2 hbr2 hfr
  refine wpList_nil ?_
  refine then_normal ?_
  refine wp_cond_true (st.at_ 20) ?_
  refine wp_seq ?_
  have st := st.to (ks' := [(3, Fact.cell b3 (Con.fr 12 x)), (4, Fact.cell b4 (Con.fr 12 y)), (5, Fact.cell b5 (Con.pre s2 xs2 ys2)), (20, Fact.eq (.bool true))]) (fcs ⟨st.at_ 3, fcs ⟨st.at_ 4, fcs ⟨st.at_ 5, fcs ⟨st.at_ 20, fnl⟩⟩⟩⟩)
  refine sym_region st [(21, Fact.eq (.bool true)), (6, Fact.eq (.bool true))] [] 2 (by kernel_rfl) (by kernel_rfl) (by kernel_rfl) (Nat.le_of_ble_eq_true rfl) (by kernel_rfl) rfl rfl ?_ ?_
  · refine fcs ⟨Ob.new_ (ob_call0 12 21 _ rfl rfl (.inl rfl) (by kernel_rfl) w_awake) (by kernel_rfl), ?_⟩
    refine fcs ⟨Ob.new_ (ob_copy 21 6 (.inr rfl) rfl (.inl rfl) (by kernel_rfl) rfl) (by kernel_rfl), ?_⟩
    exact fnl
  intro a3 w3 st3 hbr3 hfr
  have hs3 := hbr3.size
  have hb := up hb hbr3
  have st : St 87 [(3, Fact.cell b3 (Con.fr 12 x)), (4, Fact.cell b4 (Con.fr 12 y)), (5, Fact.cell b5 (Con.pre s2 xs2 ys2)), (6, Fact.eq (.bool true))] a3 w3 := st3.to (fcs ⟨st3.at_ 3, fcs ⟨st3.at_ 4, fcs ⟨st3.at_ 5, fcs ⟨st3.at_ 6, fnl⟩⟩⟩⟩)
  clear st3 hbr3 hfr
  refine wpList_nil ?_
  refine then_normal ?_
  refine wp_ret ?_
  exact sym_ret1 rfl st.defers (resAt_tmp st 6) hb (fun _ h => h)
theorem law_orders (s0 : Bool) (xs0 ys0 : List Nat) (s1 : Bool) (xs1 ys1 : List Nat) (s2 : Bool) (xs2 ys2 : List Nat) : ∀ v0 v1 v2 w, (Fact.agg (Con.pre s0 xs0 ys0)).holds v0 w → (Fact.agg (Con.pre s1 xs1 ys1)).holds v1 w → (Fact.agg (Con.pre s2 xs2 ys2)).holds v2 w → Calls Tryd.prog 5 #[v0, v1, v2] w (Ret (Fact.eq (.bool true)) w) := by
  intro v0 v1 v2 w hv0 hv1 hv2
  cases hf0 : fitB s0 xs0 ys0 with
  | false => exact law_orders_no0  s0 xs0 ys0 s1 xs1 ys1 s2 xs2 ys2 hf0 v0 v1 v2 w hv0 hv1 hv2
  | true =>
  cases hf1 : fitB s1 xs1 ys1 with
  | false => exact law_orders_no1 (Rt.of s0 (Nm.val xs0) (Nm.val ys0)) s1 xs1 ys1 s2 xs2 ys2 hf1 v0 v1 v2 w (Fact.pre_fr hv0 hf0) hv1 hv2
  | true =>
  cases hf2 : fitB s2 xs2 ys2 with
  | false => exact law_orders_no2 (Rt.of s0 (Nm.val xs0) (Nm.val ys0)) (Rt.of s1 (Nm.val xs1) (Nm.val ys1)) s2 xs2 ys2 hf2 v0 v1 v2 w (Fact.pre_fr hv0 hf0) (Fact.pre_fr hv1 hf1) hv2
  | true =>
  exact law_orders_fr (Rt.of s0 (Nm.val xs0) (Nm.val ys0)) (Rt.of s1 (Nm.val xs1) (Nm.val ys1)) (Rt.of s2 (Nm.val xs2) (Nm.val ys2)) v0 v1 v2 w (Fact.pre_fr hv0 hf0) (Fact.pre_fr hv1 hf1) (Fact.pre_fr hv2 hf2)
end Go.Proofs.YtjfehdkfogdpgaaDoor
namespace Go.Proofs.YtjfehdkfogdpgaaDoor
open Go.ChangeShapes Go.WideShapes Go.ChangeAt Go.RowKit Go.Deep
section
variable {H : Type} {enc : TypeId × Value → H}
set_option maxRecDepth 100000 in
theorem open_dig {W : World} {k : Nat} {c0 : Value} {y : DataW H × List MemPlace} (h2 : DataW.trod enc Tryd.prog W 0 (fun _ => true) true k 22 [c0] = some y) :
    ∃ A n c xs, c0 = .slice A n c ∧ Rd W A xs ∧ xs.length = n ∧ n ≤ c ∧ Nm.Dig xs := by
  rcases open_ints Tryd.underlying22 Tryd.underlying48 cells35 h2 with ⟨hc, _⟩ | ⟨a, len, cap, zs, hc, _, hl, _, hz, _, hcell, hwf⟩
  · injection hc with hc _
    subst hc
    exact ⟨none, 0, 0, [], rfl, .inl rfl, rfl, Nat.le_refl _, Nm.Dig.nil⟩
  · injection hc with hc _
    subst hc
    have hzl : zs.length = cap := by simpa using hz
    have hb : ∀ z ∈ zs, 0 ≤ z ∧ z < 4294967296 := fun z hm => by
      have := hwf z hm
      simp [Lit.wf, IntKind.min, IntKind.max, IntKind.signed, IntKind.bits] at this
      omega
    refine ⟨some a, len, cap, (zs.take len).map Int.toNat, rfl, ?_, by simp; omega, hl, ?_⟩
    · rcases Nat.eq_zero_or_pos len with h0 | h0
      · subst h0; exact .inl (by simp)
      · have h3 := hcell 0 (by omega)
        have hs : a.spot = none := by
          rw [Addr.add_zero'] at h3
          cases hsp : a.spot with
          | none => rfl
          | some x =>
            unfold World.cell? at h3
            rw [hsp] at h3
            split at h3
            · simp at h3
            · cases h3
        obtain ⟨g, off, sp⟩ := a
        have hs' : sp = none := hs
        subst hs'
        refine .inr ⟨g, off, rfl, fun i hi => ?_⟩
        have hi' : i < len := by simp at hi; omega
        have h4 := hcell i (by omega)
        rw [Addr.add_lit] at h4
        rw [h4]
        have hiz : i < zs.length := by omega
        have h5 := hb zs[i] (List.getElem_mem hiz)
        simp only [List.getD, List.getElem?_eq_getElem hiz, Option.getD_some, List.getElem_map, List.getElem_take]
        rw [Int.toNat_of_nonneg h5.1]
    · intro z hz
      obtain ⟨x, hx, rfl⟩ := List.mem_map.1 hz
      have := hb x (List.mem_of_mem_take hx)
      omega
theorem open_natc {W : World} {k : Nat} {c0 : Value} {y : DataW H × List MemPlace} (h : DataW.trod enc Tryd.prog W 0 (fun _ => true) true k 24 [c0] = some y) :
    ∃ zs, (Con.any_ zs).is W [c0] := by
  obtain ⟨ys, m, _, _, _, hlen, hg⟩ := DataW.trod_struct Tryd.underlying24 h
  have h1 := hg 0 _ rfl
  have c22 : Tryd.prog.cellsOf 22 = 1 := by kernel_rfl
  have h2 : ∃ y, DataW.trod enc Tryd.prog W 0 (fun _ => true) true m 22 [c0] = some y := by
    match ys, hlen with
    | [y], _ => exact ⟨y, by simpa [c22] using h1⟩
  obtain ⟨y, h2⟩ := h2
  obtain ⟨A, n, c, zs, rfl, hr, rfl, hc, hd⟩ := open_dig h2
  exact ⟨zs, A, c, rfl, hr, hc, hd⟩
theorem cells26 : Tryd.prog.cellsOf 28 = 3 := by kernel_rfl
theorem cells4 : Tryd.prog.cellsOf 4 = 1 := by kernel_rfl
set_option maxRecDepth 100000 in
theorem open_frac {W : World} {r : Reach} {b0 : Nat} {v : Value} {d : DataW H} {p : List MemPlace} (hv : Value.okWide Tryd.prog W r b0 28 v) (h : DataW.Trod enc Tryd.prog W 0 (fun _ => true) true 28 v d p) :
    ∃ s xs ys, (Fact.agg (Con.pre s xs ys)).holds v W := by
  obtain ⟨cs, rfl, hsz⟩ := okWide_struct Tryd.underlying28 hv
  obtain ⟨l⟩ := cs
  match l, hsz.trans cells26 with
  | [c0, c1, c2], _ =>
    obtain ⟨fuel, hf⟩ := h
    obtain ⟨y0, y1, y2, m, _, _, t0, t1, t2⟩ := trod_struct3 Tryd.underlying28 hf
    have h0 : DataW.trod enc Tryd.prog W 0 (fun _ => true) true m 4 [c0] = some y0 := by simpa [Value.cells, cells4] using t0
    have h1 : DataW.trod enc Tryd.prog W 0 (fun _ => true) true m 24 [c1] = some y1 := by simpa [Value.cells, cells24] using t1
    have h2 : DataW.trod enc Tryd.prog W 0 (fun _ => true) true m 24 [c2] = some y2 := by simpa [Value.cells, cells24] using t2
    obtain ⟨b, hb, _⟩ := DataW.trod_bool Tryd.underlying4 h0
    injection hb with hb _
    subst hb
    obtain ⟨xs, hx⟩ := open_natc h1
    obtain ⟨ys, hy⟩ := open_natc h2
    exact ⟨b, xs, ys, [.bool b, c1, c2], rfl, [.bool b], [c1, c2], rfl, rfl, [c1], [c2], rfl, hx, hy⟩
end
end Go.Proofs.YtjfehdkfogdpgaaDoor
namespace Go.Proofs.YtjfehdkfogdpgaaDoor
open Go.ChangeShapes Go.WideShapes Go.ChangeAt Go.RowKit
set_option maxRecDepth 100000 in
theorem fractionOrders_lifted (os : Os) (started : os.Started) (H : Type) (enc : TypeId × Value → H) :
    ReturnsInHanded {} Tryd.checked os 5 .any (fun w args => (Rows.fractionOrdersSpec.pre enc Tryd.prog Tryd.f5 Rows.fractionOrdersRow.domain false w args ∧ laidMetH Tryd.prog Rows.fractionOrdersRow.laid w) ∧ sizedMet enc Tryd.prog Tryd.f5 (OpenSpec.ofChange Rows.fractionOrdersSpec) false w args)
      (Rows.fractionOrdersSpec.post enc Tryd.prog Tryd.f5 false true false false) := by
  refine returnsInHanded_of_change_and (C := Tryd.checked) (X := fun w _ => laidMetH Tryd.prog Rows.fractionOrdersRow.laid w) (fun _ _ _ hh h => h.of_heap hh) Tryd.own started (by kernel_rfl) Tryd.func5
    (ChangeSpec.witness_shaped (enc := enc) (C := Tryd.checked) (os := os) (X := fun w _ => laidMetH Tryd.prog Rows.fractionOrdersRow.laid w) false (World.laidAll Tryd.prog os Rows.fractionOrdersRow.laid) #[.agg #[.bool false, .slice none 0 0, .slice none 0 0], .agg #[.bool false, .slice none 0 0, .slice none 0 0], .agg #[.bool false, .slice none 0 0, .slice none 0 0]] 8 (World.laidAll_os _ _ _)
      (World.shaped_of_ZipB (by kernel_rfl) (by kernel_rfl)) (by kernel_rfl) (by kernel_rfl) (by kernel_rfl)
      (by rw [MakeChecks.laidMetH_plain _ _ _ (by kernel_rfl)]; exact laidMet_laidAll _ (by kernel_rfl) (by kernel_rfl))) ?_
  intro W base args ds gs before hval0 hW hc _ hL _
  have hval : ∀ (j : Nat) t v, Tryd.f5.params[j]? = some t → args[j]? = some v → Value.okWide Tryd.prog W .any base t v := hval0
  have hW' := hW
  obtain ⟨p, q, hA0, hV, rfl, _, _⟩ := hW
  have hA : DataW.TrodAll enc Tryd.prog W 0 (fun _ => true) true Tryd.f5.params.toList args.toList ds p := hA0
  rw [Tryd.params5] at hA hval
  obtain ⟨v0, v1, v2, d0, d1, d2, p0, p1, p2, rfl, rfl, rfl, h0, h1, h2⟩ := trodAll_three hA
  obtain ⟨rfl, rfl⟩ := trodVars_none hV
  clear hA0
  simp only [List.append_nil] at hW' 
  have hlt0 : ∀ x ∈ p0, x.block < W.heap.size := fun x hx => by simpa using hW'.lt x (by simp [hx])
  obtain ⟨s0, xs0, ys0, g0⟩ := open_frac (hval 0 28 v0 rfl rfl) h0
  have hlt1 : ∀ x ∈ p1, x.block < W.heap.size := fun x hx => by simpa using hW'.lt x (by simp [hx])
  obtain ⟨s1, xs1, ys1, g1⟩ := open_frac (hval 1 28 v1 rfl rfl) h1
  have hlt2 : ∀ x ∈ p2, x.block < W.heap.size := fun x hx => by simpa using hW'.lt x (by simp [hx])
  obtain ⟨s2, xs2, ys2, g2⟩ := open_frac (hval 2 28 v2 rfl rfl) h2
  refine (law_orders s0 xs0 ys0 s1 xs1 ys1 s2 xs2 ys2 _ _ _ W g0 g1 g2).mono fun e W' ⟨u, he, hb, hu⟩ => ?_
  obtain rfl : u = .bool true := hu
  subst he
  exact ⟨_, rfl, post_true rfl rfl hW' rfl rfl (trodAll_mk3 (Below.trod Tryd.laidOut (by kernel_rfl) (of_decide_eq_true (by kernel_rfl)) h0 hb hlt0) (Below.trod Tryd.laidOut (by kernel_rfl) (of_decide_eq_true (by kernel_rfl)) h1 hb hlt1) (Below.trod Tryd.laidOut (by kernel_rfl) (of_decide_eq_true (by kernel_rfl)) h2 hb hlt2)) hb⟩
theorem fractionOrders_holds : Rows.FractionOrdersSaid :=
  OpenClaim.holds_of_wide 5 Tryd.f5 rfl rfl rfl rfl rfl rfl rfl ⟨rfl, rfl, rfl, rfl, rfl⟩ rfl rfl rfl rfl rfl (by kernel_rfl) Tryd.func5 (by kernel_rfl)
    (of_decide_eq_true (by kernel_rfl)) (by unfold Func.isWrapper; first | (rw [if_pos (by decide +kernel)]; kernel_rfl) | (rw [if_neg (by decide +kernel)]; exact ⟨rfl, rfl⟩))
    (fun os started H enc _ => fractionOrders_lifted os started H enc)
theorem fractionOrders_card : Rows.FractionOrdersCardSaid :=
  Claim7.holds_tied_plain_at .later [] [.data, .pinned] true (true, "428520cfc8c758f6fde9c7187defc164a5f9d48dfea1a7e7b7af18e8e722a290") false fractionOrders_holds (fun _ h => by cases h) (by kernel_rfl) (fun _ h => by cases h) fractionOrders_row_tie rfl ⟨rfl, rfl⟩ (by kernel_rfl) rfl
    (fun f fn hf hfn => by
      obtain rfl : f = 5 := Option.some.inj ((show Tryd.prog.funcNamed "robotics/roboticslaw02.FractionOrders" = some 5 by kernel_rfl).symm.trans hf) |>.symm
      obtain rfl : fn = Tryd.f5 := (Option.some.inj (Tryd.func5.symm.trans hfn)).symm
      exact ⟨by kernel_rfl, fun j t ht => by
        rw [Tryd.params5] at ht
        have hm : t ∈ [28, 28, 28] := by simpa using Array.mem_of_getElem? ht
        have hall : ([28, 28, 28].all fun u => !Tryd.prog.wantsStandIn u) = true := by kernel_rfl
        exact (show Tryd.prog.wantsStandIn t = false by simpa using List.all_eq_true.1 hall t hm)⟩)
    (by kernel_rfl)
end Go.Proofs.YtjfehdkfogdpgaaDoor

/-
  The law FractionMakes.
  An argument that is a fraction, opened: a sign and two slices of digits. No conditions.
  An argument of two integers, a sign and two slices of digits, opened. No conditions.
  The row and the tied card of FractionMakes, proved: whatever the input, the law returns true, and the input reads as it did. No conditions.
-/
import Derived.Deep.Strs
import Derived.Test.YtjfehdkfogdpgaaDoorTie
import Derived.Test.YtjfehdkfogdpgaaDoorCards
import Derived.LaidMore
import Derived.Lay
import Derived.SevenTiedAt
import Derived.Stop.Joined
import Derived.ChangeMaps5
import Derived.Test.YtjfehdkfogdpgaaDoorMaF
namespace Go.Proofs.YtjfehdkfogdpgaaDoor
open Go.RowKit
set_option maxRecDepth 100000 in
theorem law_makes_a1 (n m : Int) (h : -9223372036854775808 ≤ n ∧ n ≤ 9223372036854775807) (h2 : -9223372036854775808 ≤ m ∧ m ≤ 9223372036854775807) (hm : Int.natAbs m = 0) (s : Bool) (xs ys : List Nat) (hx : decide ((xs.length : Int) > 12) = true) : ∀ v0 w, (Fact.agg (Con.par n m s (Con.any_ xs) (Con.any_ ys))).holds v0 w → Calls Tryd.prog 3 #[v0] w (Ret (Fact.eq (.bool true)) w) := by
  intro v0 w hv0
  refine sym_calls 110 [(0, Fact.agg (Con.par n m s (Con.any_ xs) (Con.any_ ys)))] Tryd.func3 rfl rfl (Nat.le_of_ble_eq_true rfl) (fcs ⟨⟨Nat.le_of_ble_eq_true rfl, hv0⟩, fnl⟩) fun a st => ?_
  have hb := Below.refl w.heap.size w
  refine wp_seq ?_
  refine sym_region st [(1, Fact.var' (Con.par n m s (Con.any_ xs) (Con.any_ ys))), (2, Fact.eq (.bool false))] [1] 2 (by kernel_rfl) (by kernel_rfl) (by kernel_rfl) (Nat.le_of_ble_eq_true rfl) (by kernel_rfl) rfl rfl ?_ ?_
  · refine fcs ⟨obn_box 26 0 1 _ (Con.par n m s (Con.any_ xs) (Con.any_ ys)) rfl rfl rfl (by kernel_rfl) rfl rfl, ?_⟩
    refine fcs ⟨Ob.new_ (ob_const (.bool false) 2 (.inr rfl) rfl (.inl rfl) rfl) (by kernel_rfl), ?_⟩
    exact fnl
  intro a1 w1 st1 hbr1 hfr
  have hs1 := hbr1.size
  have hb := up hb hbr1
  obtain ⟨b1, c1⟩ := (show (Fact.var' (Con.par n m s (Con.any_ xs) (Con.any_ ys))).holds _ _ from st1.at_ 1)
  have g1 := hfr.ge (s := 1) rfl c1.1
  have st : St 110 [(1, Fact.cell b1 (Con.par n m s (Con.any_ xs) (Con.any_ ys))), (2, Fact.eq (.bool false))] a1 w1 := st1.to (fcs ⟨c1, fcs ⟨st1.at_ 2, fnl⟩⟩)
  clear st1 hbr1 hfr c1
  refine wpList_nil ?_
  refine then_normal ?_
  refine wp_seq ?_
  refine sym_region st [(12, Fact.ptr (Con.int n)), (13, Fact.eq (.int .i64 n)), (14, Fact.ptr (Con.int m)), (15, Fact.eq (.int .i64 m)), (16, Fact.two (Fact.agg (Con.tri 1 1 false 0 0)) (Fact.eq (.int .i64 8))), (11, Fact.two (Fact.agg (Con.tri 1 1 false 0 0)) (Fact.eq (.int .i64 8))), (17, Fact.agg (Con.tri 1 1 false 0 0)), (18, Fact.eq (.int .i64 8)), (3, Fact.var' (Con.raw 3))] [3] 9 (by kernel_rfl) (by kernel_rfl) (by kernel_rfl) (Nat.le_of_ble_eq_true rfl) (by kernel_rfl) rfl rfl ?_ ?_
  · refine fcs ⟨Ob.new_ (ob_addr 26 0 1 12 0 (Con.par n m s (Con.any_ xs) (Con.any_ ys)) (Con.int n) rfl rfl (.inl rfl) (by kernel_rfl) points_cell rfl (Con.par_0 n m s _ _) fieldP_0) (by kernel_rfl), ?_⟩
    refine fcs ⟨Ob.new_ (ob_readi 12 13 n rfl rfl (.inl rfl) (by kernel_rfl) points_ptr rfl) (by kernel_rfl), ?_⟩
    refine fcs ⟨Ob.new_ (ob_addr 26 1 1 14 1 (Con.par n m s (Con.any_ xs) (Con.any_ ys)) (Con.int m) rfl rfl (.inl rfl) (by kernel_rfl) points_cell rfl (Con.par_1 n m s _ _) fieldP_1) (by kernel_rfl), ?_⟩
    refine fcs ⟨Ob.new_ (ob_readi 14 15 m rfl rfl (.inl rfl) (by kernel_rfl) points_ptr rfl) (by kernel_rfl), ?_⟩
    refine fcs ⟨Ob.new_ (ob_call2 6 13 15 16 _ rfl rfl (.inl rfl) (by kernel_rfl) (by kernel_rfl) (by kernel_rfl) (q_ratio0 n m h h2 hm)) (by kernel_rfl), ?_⟩
    refine fcs ⟨Ob.new_ (ob_copy 16 11 (.inl rfl) rfl (.inl rfl) (by kernel_rfl) rfl) (by kernel_rfl), ?_⟩
    refine fcs ⟨Ob.new_ (ob_fst 11 17 (Fact.agg (Con.tri 1 1 false 0 0)) (Fact.eq (.int .i64 8)) rfl rfl (.inl rfl) (by kernel_rfl) rfl rfl) (by kernel_rfl), ?_⟩
    refine fcs ⟨Ob.new_ (ob_snd 11 18 (Fact.agg (Con.tri 1 1 false 0 0)) (Fact.eq (.int .i64 8)) rfl rfl (.inl rfl) (by kernel_rfl) rfl rfl) (by kernel_rfl), ?_⟩
    refine fcs ⟨obn_new 28 3 _ [.bool false, .slice none 0 0, .slice none 0 0] rfl rfl rfl rfl rfl alloc26, ?_⟩
    exact fnl
  intro a2 w2 st2 hbr2 hfr
  have hs2 := hbr2.size
  have hb := up hb hbr2
  obtain ⟨b3, c3⟩ := (show (Fact.var' (Con.raw 3)).holds _ _ from st2.at_ 3)
  have g3 := hfr.ge (s := 3) rfl c3.1
  have st : St 110 [(1, Fact.cell b1 (Con.par n m s (Con.any_ xs) (Con.any_ ys))), (2, Fact.eq (.bool false)), (17, Fact.agg (Con.tri 1 1 false 0 0)), (18, Fact.eq (.int .i64 8)), (3, Fact.cell b3 (Con.raw 3))] a2 w2 := st2.to (fcs ⟨st2.at_ 1, fcs ⟨st2.at_ 2, fcs ⟨st2.at_ 17, fcs ⟨st2.at_ 18, fcs ⟨c3, fnl⟩⟩⟩⟩⟩)
  clear st2 hbr2 hfr c3
  refine sym_store st 28 3 17 b3 (Con.raw 3) (Con.tri 1 1 false 0 0) [(1, Fact.cell b1 (Con.par n m s (Con.any_ xs) (Con.any_ ys))), (2, Fact.eq (.bool false)), (18, Fact.eq (.int .i64 8)), (3, Fact.cell b3 (Con.tri 1 1 false 0 0))] rfl rfl rfl rfl rfl rfl info26 ?_ ?_
  · exact fcs ⟨.inr ⟨rfl, safe_cell _ (by omega)⟩, fcs ⟨.inr ⟨rfl, safe_eq _ _⟩, fcs ⟨.inr ⟨rfl, safe_eq _ _⟩, fcs ⟨.inl rfl, fnl⟩⟩⟩⟩
  clear st; intro w3 hB hsz3 st
  have hb := hB _ _ hb (by omega) (by omega)
  clear hB
  refine sym_op st 4 (Fact.eq (.int .i64 8)) rfl (Nat.le_of_ble_eq_true rfl) rfl rfl (by kernel_rfl) (ob_copy 18 4 (.inr rfl) rfl (.inl rfl) (by kernel_rfl) rfl) ?_
  clear st; intro a4 w4 hbr st; have hs4 := hbr.size; have hb := up hb hbr; clear hbr
  refine wpList_nil ?_
  refine then_normal ?_
  refine wp_seq ?_
  refine sym_region st [(20, Fact.ptr (Con.int n)), (21, Fact.eq (.int .i64 n)), (22, Fact.ptr (Con.int m)), (23, Fact.eq (.int .i64 m)), (24, Fact.two (Fact.agg (Con.tri 1 1 false 0 0)) (Fact.eq (.int .i64 8))), (19, Fact.two (Fact.agg (Con.tri 1 1 false 0 0)) (Fact.eq (.int .i64 8))), (25, Fact.agg (Con.tri 1 1 false 0 0)), (26, Fact.eq (.int .i64 8)), (5, Fact.var' (Con.raw 3))] [5] 9 (by kernel_rfl) (by kernel_rfl) (by kernel_rfl) (Nat.le_of_ble_eq_true rfl) (by kernel_rfl) rfl rfl ?_ ?_
  · refine fcs ⟨Ob.new_ (ob_addr 26 0 1 20 0 (Con.par n m s (Con.any_ xs) (Con.any_ ys)) (Con.int n) rfl rfl (.inl rfl) (by kernel_rfl) points_cell rfl (Con.par_0 n m s _ _) fieldP_0) (by kernel_rfl), ?_⟩
    refine fcs ⟨Ob.new_ (ob_readi 20 21 n rfl rfl (.inl rfl) (by kernel_rfl) points_ptr rfl) (by kernel_rfl), ?_⟩
    refine fcs ⟨Ob.new_ (ob_addr 26 1 1 22 1 (Con.par n m s (Con.any_ xs) (Con.any_ ys)) (Con.int m) rfl rfl (.inl rfl) (by kernel_rfl) points_cell rfl (Con.par_1 n m s _ _) fieldP_1) (by kernel_rfl), ?_⟩
    refine fcs ⟨Ob.new_ (ob_readi 22 23 m rfl rfl (.inl rfl) (by kernel_rfl) points_ptr rfl) (by kernel_rfl), ?_⟩
    refine fcs ⟨Ob.new_ (ob_call2 7 21 23 24 _ rfl rfl (.inl rfl) (by kernel_rfl) (by kernel_rfl) (by kernel_rfl) (z_ratio0 n m h h2 hm)) (by kernel_rfl), ?_⟩
    refine fcs ⟨Ob.new_ (ob_copy 24 19 (.inl rfl) rfl (.inl rfl) (by kernel_rfl) rfl) (by kernel_rfl), ?_⟩
    refine fcs ⟨Ob.new_ (ob_fst 19 25 (Fact.agg (Con.tri 1 1 false 0 0)) (Fact.eq (.int .i64 8)) rfl rfl (.inl rfl) (by kernel_rfl) rfl rfl) (by kernel_rfl), ?_⟩
    refine fcs ⟨Ob.new_ (ob_snd 19 26 (Fact.agg (Con.tri 1 1 false 0 0)) (Fact.eq (.int .i64 8)) rfl rfl (.inl rfl) (by kernel_rfl) rfl rfl) (by kernel_rfl), ?_⟩
    refine fcs ⟨obn_new 28 5 _ [.bool false, .slice none 0 0, .slice none 0 0] rfl rfl rfl rfl rfl alloc26, ?_⟩
    exact fnl
  intro a5 w5 st5 hbr5 hfr
  have hs5 := hbr5.size
  have hb := up hb hbr5
  obtain ⟨b5, c5⟩ := (show (Fact.var' (Con.raw 3)).holds _ _ from st5.at_ 5)
  have g5 := hfr.ge (s := 5) rfl c5.1
  have st : St 110 [(1, Fact.cell b1 (Con.par n m s (Con.any_ xs) (Con.any_ ys))), (2, Fact.eq (.bool false)), (3, Fact.cell b3 (Con.tri 1 1 false 0 0)), (4, Fact.eq (.int .i64 8)), (25, Fact.agg (Con.tri 1 1 false 0 0)), (26, Fact.eq (.int .i64 8)), (5, Fact.cell b5 (Con.raw 3))] a5 w5 := st5.to (fcs ⟨st5.at_ 1, fcs ⟨st5.at_ 2, fcs ⟨st5.at_ 3, fcs ⟨st5.at_ 4, fcs ⟨st5.at_ 25, fcs ⟨st5.at_ 26, fcs ⟨c5, fnl⟩⟩⟩⟩⟩⟩⟩)
  clear st5 hbr5 hfr c5
  refine sym_store st 28 5 25 b5 (Con.raw 3) (Con.tri 1 1 false 0 0) [(1, Fact.cell b1 (Con.par n m s (Con.any_ xs) (Con.any_ ys))), (2, Fact.eq (.bool false)), (3, Fact.cell b3 (Con.tri 1 1 false 0 0)), (4, Fact.eq (.int .i64 8)), (26, Fact.eq (.int .i64 8)), (5, Fact.cell b5 (Con.tri 1 1 false 0 0))] rfl rfl rfl rfl rfl rfl info26 ?_ ?_
  · exact fcs ⟨.inr ⟨rfl, safe_cell _ (by omega)⟩, fcs ⟨.inr ⟨rfl, safe_eq _ _⟩, fcs ⟨.inr ⟨rfl, safe_cell _ (by omega)⟩, fcs ⟨.inr ⟨rfl, safe_eq _ _⟩, fcs ⟨.inr ⟨rfl, safe_eq _ _⟩, fcs ⟨.inl rfl, fnl⟩⟩⟩⟩⟩⟩
  clear st; intro w6 hB hsz6 st
  have hb := hB _ _ hb (by omega) (by omega)
  clear hB
  refine sym_op st 6 (Fact.eq (.int .i64 8)) rfl (Nat.le_of_ble_eq_true rfl) rfl rfl (by kernel_rfl) (ob_copy 26 6 (.inr rfl) rfl (.inl rfl) (by kernel_rfl) rfl) ?_
  clear st; intro a7 w7 hbr st; have hs7 := hbr.size; have hb := up hb hbr; clear hbr
  refine wpList_nil ?_
  refine then_normal ?_
  refine wp_seq ?_
  refine wp_seq ?_
  refine sym_region st [(27, Fact.eq (.int .i64 8)), (28, Fact.eq (.int .i64 8)), (29, Fact.eq (.bool false)), (30, Fact.eq (.bool false)), (31, Fact.agg (Con.tri 1 1 false 0 0)), (32, Fact.agg (Con.tri 1 1 false 0 0)), (33, Fact.eq (.bool true)), (34, Fact.eq (.bool false)), (35, Fact.eq (.bool false)), (36, Fact.eq (.bool false)), (37, Fact.ptr (Con.int n)), (38, Fact.eq (.int .i64 n)), (39, Fact.agg (Con.fr 2 ((n : Int) : Rat))), (40, Fact.ptr (Con.int n)), (41, Fact.eq (.int .i64 n)), (42, Fact.agg (Con.fr 2 ((n : Int) : Rat))), (43, Fact.eq (.bool true)), (44, Fact.eq (.bool false)), (45, Fact.eq (.bool false))] [] 19 (by kernel_rfl) (by kernel_rfl) (by kernel_rfl) (Nat.le_of_ble_eq_true rfl) (by kernel_rfl) rfl rfl ?_ ?_
  · refine fcs ⟨Ob.new_ (ob_copy 4 27 (.inl rfl) rfl (.inl rfl) (by kernel_rfl) rfl) (by kernel_rfl), ?_⟩
    refine fcs ⟨Ob.new_ (ob_copy 6 28 (.inl rfl) rfl (.inl rfl) (by kernel_rfl) rfl) (by kernel_rfl), ?_⟩
    refine fcs ⟨Ob.new_ (ob_nei 27 28 29 .i64 29 _ 8 8 false rfl rfl rfl (.inl rfl) (by kernel_rfl) (by kernel_rfl) rfl rfl rfl) (by kernel_rfl), ?_⟩
    refine fcs ⟨Ob.new_ (ob_copy 29 30 (.inl rfl) rfl (.inl rfl) (by kernel_rfl) rfl) (by kernel_rfl), ?_⟩
    refine fcs ⟨Ob.new_ (ob_read 28 3 31 (Con.tri 1 1 false 0 0) rfl rfl (.inr ⟨_, _, _, rfl, rfl, by kernel_rfl, by decide, rfl⟩) (by kernel_rfl) points_cell rfl row26 info26) (by kernel_rfl), ?_⟩
    refine fcs ⟨Ob.new_ (ob_read 28 5 32 (Con.tri 1 1 false 0 0) rfl rfl (.inr ⟨_, _, _, rfl, rfl, by kernel_rfl, by decide, rfl⟩) (by kernel_rfl) points_cell rfl row26 info26) (by kernel_rfl), ?_⟩
    refine fcs ⟨Ob.new_ (ob_call2 8 31 32 33 _ rfl rfl (.inr ⟨_, _, _, rfl, rfl, by kernel_rfl, by decide, rfl⟩) (by kernel_rfl) (by kernel_rfl) (by kernel_rfl) (z_same3 1 1 1 1 false 0 0)) (by kernel_rfl), ?_⟩
    refine fcs ⟨Ob.new_ (ob_not 33 34 true false rfl rfl rfl (.inr ⟨_, _, _, rfl, rfl, by kernel_rfl, by decide, rfl⟩) (by kernel_rfl) rfl rfl) (by kernel_rfl), ?_⟩
    refine fcs ⟨Ob.new_ (ob_pick_else 30 34 35 (.bool true) rfl rfl (.inl rfl) (by kernel_rfl) (by kernel_rfl) rfl rfl) (by kernel_rfl), ?_⟩
    refine fcs ⟨Ob.new_ (ob_copy 35 36 (.inl rfl) rfl (.inl rfl) (by kernel_rfl) rfl) (by kernel_rfl), ?_⟩
    refine fcs ⟨Ob.new_ (ob_addr 26 0 1 37 0 (Con.par n m s (Con.any_ xs) (Con.any_ ys)) (Con.int n) rfl rfl (.inr ⟨_, _, _, rfl, rfl, by kernel_rfl, by decide, rfl⟩) (by kernel_rfl) points_cell rfl (Con.par_0 n m s _ _) fieldP_0) (by kernel_rfl), ?_⟩
    refine fcs ⟨Ob.new_ (ob_readi 37 38 n rfl rfl (.inr ⟨_, _, _, rfl, rfl, by kernel_rfl, by decide, rfl⟩) (by kernel_rfl) points_ptr rfl) (by kernel_rfl), ?_⟩
    refine fcs ⟨Ob.new_ (ob_call1 9 38 39 _ rfl rfl (.inr ⟨_, _, _, rfl, rfl, by kernel_rfl, by decide, rfl⟩) (by kernel_rfl) (by kernel_rfl) (q_int n h)) (by kernel_rfl), ?_⟩
    refine fcs ⟨Ob.new_ (ob_addr 26 0 1 40 0 (Con.par n m s (Con.any_ xs) (Con.any_ ys)) (Con.int n) rfl rfl (.inr ⟨_, _, _, rfl, rfl, by kernel_rfl, by decide, rfl⟩) (by kernel_rfl) points_cell rfl (Con.par_0 n m s _ _) fieldP_0) (by kernel_rfl), ?_⟩
    refine fcs ⟨Ob.new_ (ob_readi 40 41 n rfl rfl (.inr ⟨_, _, _, rfl, rfl, by kernel_rfl, by decide, rfl⟩) (by kernel_rfl) points_ptr rfl) (by kernel_rfl), ?_⟩
    refine fcs ⟨Ob.new_ (ob_call1 10 41 42 _ rfl rfl (.inr ⟨_, _, _, rfl, rfl, by kernel_rfl, by decide, rfl⟩) (by kernel_rfl) (by kernel_rfl) (z_int2 n h)) (by kernel_rfl), ?_⟩
    refine fcs ⟨Ob.new_ (ob_call2 8 39 42 43 _ rfl rfl (.inr ⟨_, _, _, rfl, rfl, by kernel_rfl, by decide, rfl⟩) (by kernel_rfl) (by kernel_rfl) (by kernel_rfl) (z_same 2 2 ((n : Int) : Rat) ((n : Int) : Rat) true (decide_eq_true rfl))) (by kernel_rfl), ?_⟩
    refine fcs ⟨Ob.new_ (ob_not 43 44 true false rfl rfl rfl (.inr ⟨_, _, _, rfl, rfl, by kernel_rfl, by decide, rfl⟩) (by kernel_rfl) rfl rfl) (by kernel_rfl), ?_⟩
    refine fcs ⟨Ob.new_ (ob_pick_else 36 44 45 (.bool true) rfl rfl (.inl rfl) (by kernel_rfl) (by kernel_rfl) rfl rfl) (by kernel_rfl), ?_⟩
    exact fnl
  intro a8 w8 st8 hbr8 hfr
  have hs8 := hbr8.size
  have hb := up hb hbr8
  have st : St 110 [(1, Fact.cell b1 (Con.par n m s (Con.any_ xs) (Con.any_ ys))), (2, Fact.eq (.bool false)), (45, Fact.eq (.bool false))] a8 w8 := st8.to (fcs ⟨st8.at_ 1, fcs ⟨st8.at_ 2, fcs ⟨st8.at_ 45, fnl⟩⟩⟩)
  clear st8 hbr8 hfr
  refine wpList_nil ?_
  refine then_normal ?_
  refine wp_cond_false (st.at_ 45) ?_
  refine wp_skip ?_
  refine then_normal ?_
  refine wp_seq ?_
  refine wp_seq ?_
  refine sym_region st [(46, Fact.ptr (Con.any_ xs)), (47, Fact.ptr (Con.any_ xs)), (48, Fact.rowd xs), (49, Fact.eq (.int .i64 ((xs).length : Int))), (50, Fact.eq (.bool true)), (51, Fact.eq (.bool true)), (52, Fact.eq undef), (53, Fact.eq undef), (54, Fact.eq undef), (55, Fact.eq undef), (56, Fact.eq undef), (57, Fact.eq (.bool true)), (58, Fact.eq (.bool true)), (59, Fact.eq undef), (60, Fact.eq undef), (61, Fact.eq undef), (62, Fact.eq undef), (63, Fact.eq (.bool true)), (64, Fact.eq (.bool true)), (65, Fact.eq undef), (66, Fact.eq undef), (67, Fact.eq undef), (68, Fact.eq undef), (69, Fact.eq (.bool true))] [] 24 (by kernel_rfl) (by kernel_rfl) (by kernel_rfl) (Nat.le_of_ble_eq_true rfl) (by kernel_rfl) rfl rfl ?_ ?_
  · refine fcs ⟨Ob.new_ (ob_addr 26 3 1 46 3 (Con.par n m s (Con.any_ xs) (Con.any_ ys)) (Con.any_ xs) rfl rfl (.inl rfl) (by kernel_rfl) points_cell rfl (Con.par_3 n m s _ _) fieldP_3) (by kernel_rfl), ?_⟩
    refine fcs ⟨Ob.new_ (ob_addr 24 0 46 47 0 (Con.any_ xs) (Con.any_ xs) rfl rfl (.inl rfl) (by kernel_rfl) points_ptr rfl (Con.Sub.refl _) field24_0) (by kernel_rfl), ?_⟩
    refine fcs ⟨Ob.new_ (ob_loadrowd 47 48 xs (Con.any_ xs) any_row rfl rfl (.inl rfl) (by kernel_rfl) points_ptr rfl) (by kernel_rfl), ?_⟩
    refine fcs ⟨Ob.new_ (ob_len 48 49 (xs).length 22 rfl (by kernel_rfl) rfl (.inl rfl) (by kernel_rfl) len_rowd rfl) (by kernel_rfl), ?_⟩
    refine fcs ⟨Ob.new_ (ob_gtc 49 50 .i64 3 _ ((xs).length : Int) 12 true hx rfl rfl (.inl rfl) (by kernel_rfl) rfl rfl) (by kernel_rfl), ?_⟩
    refine fcs ⟨Ob.new_ (ob_copy 50 51 (.inl rfl) rfl (.inl rfl) (by kernel_rfl) rfl) (by kernel_rfl), ?_⟩
    refine fcs ⟨Ob.new_ (ob_skip 5 51 52 false rfl rfl (by kernel_rfl) (by decide) rfl rfl rfl) (by kernel_rfl), ?_⟩
    refine fcs ⟨Ob.new_ (ob_skip 5 51 53 false rfl rfl (by kernel_rfl) (by decide) rfl rfl rfl) (by kernel_rfl), ?_⟩
    refine fcs ⟨Ob.new_ (ob_skip 5 51 54 false rfl rfl (by kernel_rfl) (by decide) rfl rfl rfl) (by kernel_rfl), ?_⟩
    refine fcs ⟨Ob.new_ (ob_skip 5 51 55 false rfl rfl (by kernel_rfl) (by decide) rfl rfl rfl) (by kernel_rfl), ?_⟩
    refine fcs ⟨Ob.new_ (ob_skip 5 51 56 false rfl rfl (by kernel_rfl) (by decide) rfl rfl rfl) (by kernel_rfl), ?_⟩
    refine fcs ⟨Ob.new_ (ob_pick_or 51 56 57 (.bool true) rfl rfl (.inl rfl) (by kernel_rfl) rfl rfl) (by kernel_rfl), ?_⟩
    refine fcs ⟨Ob.new_ (ob_copy 57 58 (.inl rfl) rfl (.inl rfl) (by kernel_rfl) rfl) (by kernel_rfl), ?_⟩
    refine fcs ⟨Ob.new_ (ob_skip 12 58 59 false rfl rfl (by kernel_rfl) (by decide) rfl rfl rfl) (by kernel_rfl), ?_⟩
    refine fcs ⟨Ob.new_ (ob_skip 12 58 60 false rfl rfl (by kernel_rfl) (by decide) rfl rfl rfl) (by kernel_rfl), ?_⟩
    refine fcs ⟨Ob.new_ (ob_skip 12 58 61 false rfl rfl (by kernel_rfl) (by decide) rfl rfl rfl) (by kernel_rfl), ?_⟩
    refine fcs ⟨Ob.new_ (ob_skip 12 58 62 false rfl rfl (by kernel_rfl) (by decide) rfl rfl rfl) (by kernel_rfl), ?_⟩
    refine fcs ⟨Ob.new_ (ob_pick_or 58 62 63 (.bool true) rfl rfl (.inl rfl) (by kernel_rfl) rfl rfl) (by kernel_rfl), ?_⟩
    refine fcs ⟨Ob.new_ (ob_copy 63 64 (.inl rfl) rfl (.inl rfl) (by kernel_rfl) rfl) (by kernel_rfl), ?_⟩
    refine fcs ⟨Ob.new_ (ob_skip 18 64 65 false rfl rfl (by kernel_rfl) (by decide) rfl rfl rfl) (by kernel_rfl), ?_⟩
    refine fcs ⟨Ob.new_ (ob_skip 18 64 66 false rfl rfl (by kernel_rfl) (by decide) rfl rfl rfl) (by kernel_rfl), ?_⟩
    refine fcs ⟨Ob.new_ (ob_skip 18 64 67 false rfl rfl (by kernel_rfl) (by decide) rfl rfl rfl) (by kernel_rfl), ?_⟩
    refine fcs ⟨Ob.new_ (ob_skip 18 64 68 false rfl rfl (by kernel_rfl) (by decide) rfl rfl rfl) (by kernel_rfl), ?_⟩
    refine fcs ⟨Ob.new_ (ob_pick_or 64 68 69 (.bool true) rfl rfl (.inl rfl) (by kernel_rfl) rfl rfl) (by kernel_rfl), ?_⟩
    exact fnl
  intro a9 w9 st9 hbr9 hfr
  have hs9 := hbr9.size
  have hb := up hb hbr9
  have st : St 110 [(1, Fact.cell b1 (Con.par n m s (Con.any_ xs) (Con.any_ ys))), (2, Fact.eq (.bool false)), (69, Fact.eq (.bool true))] a9 w9 := st9.to (fcs ⟨st9.at_ 1, fcs ⟨st9.at_ 2, fcs ⟨st9.at_ 69, fnl⟩⟩⟩)
  clear st9 hbr9 hfr
  refine wpList_nil ?_
  refine then_normal ?_
  refine wp_cond_true (st.at_ 69) ?_
  refine wp_seq ?_
  have st := st.to (ks' := [(1, Fact.cell b1 (Con.par n m s (Con.any_ xs) (Con.any_ ys))), (69, Fact.eq (.bool true))]) (fcs ⟨st.at_ 1, fcs ⟨st.at_ 69, fnl⟩⟩)
  refine sym_region st [(70, Fact.eq (.bool true)), (2, Fact.eq (.bool true))] [] 2 (by kernel_rfl) (by kernel_rfl) (by kernel_rfl) (Nat.le_of_ble_eq_true rfl) (by kernel_rfl) rfl rfl ?_ ?_
  · refine fcs ⟨Ob.new_ (ob_call0 12 70 _ rfl rfl (.inl rfl) (by kernel_rfl) w_awake) (by kernel_rfl), ?_⟩
    refine fcs ⟨Ob.new_ (ob_copy 70 2 (.inr rfl) rfl (.inl rfl) (by kernel_rfl) rfl) (by kernel_rfl), ?_⟩
    exact fnl
  intro a10 w10 st10 hbr10 hfr
  have hs10 := hbr10.size
  have hb := up hb hbr10
  have st : St 110 [(1, Fact.cell b1 (Con.par n m s (Con.any_ xs) (Con.any_ ys))), (2, Fact.eq (.bool true))] a10 w10 := st10.to (fcs ⟨st10.at_ 1, fcs ⟨st10.at_ 2, fnl⟩⟩)
  clear st10 hbr10 hfr
  refine wpList_nil ?_
  refine then_normal ?_
  refine wp_ret ?_
  exact sym_ret1 rfl st.defers (resAt_tmp st 2) hb (fun _ h => h)
set_option maxRecDepth 100000 in
theorem law_makes_b1 (n m : Int) (h : -9223372036854775808 ≤ n ∧ n ≤ 9223372036854775807) (h2 : -9223372036854775808 ≤ m ∧ m ≤ 9223372036854775807) (hm : Int.natAbs m = 0) (s : Bool) (xs ys : List Nat) (hx : decide ((xs.length : Int) > 12) = false) (hy : decide ((ys.length : Int) > 12) = true) : ∀ v0 w, (Fact.agg (Con.par n m s (Con.any_ xs) (Con.any_ ys))).holds v0 w → Calls Tryd.prog 3 #[v0] w (Ret (Fact.eq (.bool true)) w) := by
  intro v0 w hv0
  refine sym_calls 110 [(0, Fact.agg (Con.par n m s (Con.any_ xs) (Con.any_ ys)))] Tryd.func3 rfl rfl (Nat.le_of_ble_eq_true rfl) (fcs ⟨⟨Nat.le_of_ble_eq_true rfl, hv0⟩, fnl⟩) fun a st => ?_
  have hb := Below.refl w.heap.size w
  refine wp_seq ?_
  refine sym_region st [(1, Fact.var' (Con.par n m s (Con.any_ xs) (Con.any_ ys))), (2, Fact.eq (.bool false))] [1] 2 (by kernel_rfl) (by kernel_rfl) (by kernel_rfl) (Nat.le_of_ble_eq_true rfl) (by kernel_rfl) rfl rfl ?_ ?_
  · refine fcs ⟨obn_box 26 0 1 _ (Con.par n m s (Con.any_ xs) (Con.any_ ys)) rfl rfl rfl (by kernel_rfl) rfl rfl, ?_⟩
    refine fcs ⟨Ob.new_ (ob_const (.bool false) 2 (.inr rfl) rfl (.inl rfl) rfl) (by kernel_rfl), ?_⟩
    exact fnl
  intro a1 w1 st1 hbr1 hfr
  have hs1 := hbr1.size
  have hb := up hb hbr1
  obtain ⟨b1, c1⟩ := (show (Fact.var' (Con.par n m s (Con.any_ xs) (Con.any_ ys))).holds _ _ from st1.at_ 1)
  have g1 := hfr.ge (s := 1) rfl c1.1
  have st : St 110 [(1, Fact.cell b1 (Con.par n m s (Con.any_ xs) (Con.any_ ys))), (2, Fact.eq (.bool false))] a1 w1 := st1.to (fcs ⟨c1, fcs ⟨st1.at_ 2, fnl⟩⟩)
  clear st1 hbr1 hfr c1
  refine wpList_nil ?_
  refine then_normal ?_
  refine wp_seq ?_
  refine sym_region st [(12, Fact.ptr (Con.int n)), (13, Fact.eq (.int .i64 n)), (14, Fact.ptr (Con.int m)), (15, Fact.eq (.int .i64 m)), (16, Fact.two (Fact.agg (Con.tri 1 1 false 0 0)) (Fact.eq (.int .i64 8))), (11, Fact.two (Fact.agg (Con.tri 1 1 false 0 0)) (Fact.eq (.int .i64 8))), (17, Fact.agg (Con.tri 1 1 false 0 0)), (18, Fact.eq (.int .i64 8)), (3, Fact.var' (Con.raw 3))] [3] 9 (by kernel_rfl) (by kernel_rfl) (by kernel_rfl) (Nat.le_of_ble_eq_true rfl) (by kernel_rfl) rfl rfl ?_ ?_
  · refine fcs ⟨Ob.new_ (ob_addr 26 0 1 12 0 (Con.par n m s (Con.any_ xs) (Con.any_ ys)) (Con.int n) rfl rfl (.inl rfl) (by kernel_rfl) points_cell rfl (Con.par_0 n m s _ _) fieldP_0) (by kernel_rfl), ?_⟩
    refine fcs ⟨Ob.new_ (ob_readi 12 13 n rfl rfl (.inl rfl) (by kernel_rfl) points_ptr rfl) (by kernel_rfl), ?_⟩
    refine fcs ⟨Ob.new_ (ob_addr 26 1 1 14 1 (Con.par n m s (Con.any_ xs) (Con.any_ ys)) (Con.int m) rfl rfl (.inl rfl) (by kernel_rfl) points_cell rfl (Con.par_1 n m s _ _) fieldP_1) (by kernel_rfl), ?_⟩
    refine fcs ⟨Ob.new_ (ob_readi 14 15 m rfl rfl (.inl rfl) (by kernel_rfl) points_ptr rfl) (by kernel_rfl), ?_⟩
    refine fcs ⟨Ob.new_ (ob_call2 6 13 15 16 _ rfl rfl (.inl rfl) (by kernel_rfl) (by kernel_rfl) (by kernel_rfl) (q_ratio0 n m h h2 hm)) (by kernel_rfl), ?_⟩
    refine fcs ⟨Ob.new_ (ob_copy 16 11 (.inl rfl) rfl (.inl rfl) (by kernel_rfl) rfl) (by kernel_rfl), ?_⟩
    refine fcs ⟨Ob.new_ (ob_fst 11 17 (Fact.agg (Con.tri 1 1 false 0 0)) (Fact.eq (.int .i64 8)) rfl rfl (.inl rfl) (by kernel_rfl) rfl rfl) (by kernel_rfl), ?_⟩
    refine fcs ⟨Ob.new_ (ob_snd 11 18 (Fact.agg (Con.tri 1 1 false 0 0)) (Fact.eq (.int .i64 8)) rfl rfl (.inl rfl) (by kernel_rfl) rfl rfl) (by kernel_rfl), ?_⟩
    refine fcs ⟨obn_new 28 3 _ [.bool false, .slice none 0 0, .slice none 0 0] rfl rfl rfl rfl rfl alloc26, ?_⟩
    exact fnl
  intro a2 w2 st2 hbr2 hfr
  have hs2 := hbr2.size
  have hb := up hb hbr2
  obtain ⟨b3, c3⟩ := (show (Fact.var' (Con.raw 3)).holds _ _ from st2.at_ 3)
  have g3 := hfr.ge (s := 3) rfl c3.1
  have st : St 110 [(1, Fact.cell b1 (Con.par n m s (Con.any_ xs) (Con.any_ ys))), (2, Fact.eq (.bool false)), (17, Fact.agg (Con.tri 1 1 false 0 0)), (18, Fact.eq (.int .i64 8)), (3, Fact.cell b3 (Con.raw 3))] a2 w2 := st2.to (fcs ⟨st2.at_ 1, fcs ⟨st2.at_ 2, fcs ⟨st2.at_ 17, fcs ⟨st2.at_ 18, fcs ⟨c3, fnl⟩⟩⟩⟩⟩)
  clear st2 hbr2 hfr c3
  refine sym_store st 28 3 17 b3 (Con.raw 3) (Con.tri 1 1 false 0 0) [(1, Fact.cell b1 (Con.par n m s (Con.any_ xs) (Con.any_ ys))), (2, Fact.eq (.bool false)), (18, Fact.eq (.int .i64 8)), (3, Fact.cell b3 (Con.tri 1 1 false 0 0))] rfl rfl rfl rfl rfl rfl info26 ?_ ?_
  · exact fcs ⟨.inr ⟨rfl, safe_cell _ (by omega)⟩, fcs ⟨.inr ⟨rfl, safe_eq _ _⟩, fcs ⟨.inr ⟨rfl, safe_eq _ _⟩, fcs ⟨.inl rfl, fnl⟩⟩⟩⟩
  clear st; intro w3 hB hsz3 st
  have hb := hB _ _ hb (by omega) (by omega)
  clear hB
  refine sym_op st 4 (Fact.eq (.int .i64 8)) rfl (Nat.le_of_ble_eq_true rfl) rfl rfl (by kernel_rfl) (ob_copy 18 4 (.inr rfl) rfl (.inl rfl) (by kernel_rfl) rfl) ?_
  clear st; intro a4 w4 hbr st; have hs4 := hbr.size; have hb := up hb hbr; clear hbr
  refine wpList_nil ?_
  refine then_normal ?_
  refine wp_seq ?_
  refine sym_region st [(20, Fact.ptr (Con.int n)), (21, Fact.eq (.int .i64 n)), (22, Fact.ptr (Con.int m)), (23, Fact.eq (.int .i64 m)), (24, Fact.two (Fact.agg (Con.tri 1 1 false 0 0)) (Fact.eq (.int .i64 8))), (19, Fact.two (Fact.agg (Con.tri 1 1 false 0 0)) (Fact.eq (.int .i64 8))), (25, Fact.agg (Con.tri 1 1 false 0 0)), (26, Fact.eq (.int .i64 8)), (5, Fact.var' (Con.raw 3))] [5] 9 (by kernel_rfl) (by kernel_rfl) (by kernel_rfl) (Nat.le_of_ble_eq_true rfl) (by kernel_rfl) rfl rfl ?_ ?_
  · refine fcs ⟨Ob.new_ (ob_addr 26 0 1 20 0 (Con.par n m s (Con.any_ xs) (Con.any_ ys)) (Con.int n) rfl rfl (.inl rfl) (by kernel_rfl) points_cell rfl (Con.par_0 n m s _ _) fieldP_0) (by kernel_rfl), ?_⟩
    refine fcs ⟨Ob.new_ (ob_readi 20 21 n rfl rfl (.inl rfl) (by kernel_rfl) points_ptr rfl) (by kernel_rfl), ?_⟩
    refine fcs ⟨Ob.new_ (ob_addr 26 1 1 22 1 (Con.par n m s (Con.any_ xs) (Con.any_ ys)) (Con.int m) rfl rfl (.inl rfl) (by kernel_rfl) points_cell rfl (Con.par_1 n m s _ _) fieldP_1) (by kernel_rfl), ?_⟩
    refine fcs ⟨Ob.new_ (ob_readi 22 23 m rfl rfl (.inl rfl) (by kernel_rfl) points_ptr rfl) (by kernel_rfl), ?_⟩
    refine fcs ⟨Ob.new_ (ob_call2 7 21 23 24 _ rfl rfl (.inl rfl) (by kernel_rfl) (by kernel_rfl) (by kernel_rfl) (z_ratio0 n m h h2 hm)) (by kernel_rfl), ?_⟩
    refine fcs ⟨Ob.new_ (ob_copy 24 19 (.inl rfl) rfl (.inl rfl) (by kernel_rfl) rfl) (by kernel_rfl), ?_⟩
    refine fcs ⟨Ob.new_ (ob_fst 19 25 (Fact.agg (Con.tri 1 1 false 0 0)) (Fact.eq (.int .i64 8)) rfl rfl (.inl rfl) (by kernel_rfl) rfl rfl) (by kernel_rfl), ?_⟩
    refine fcs ⟨Ob.new_ (ob_snd 19 26 (Fact.agg (Con.tri 1 1 false 0 0)) (Fact.eq (.int .i64 8)) rfl rfl (.inl rfl) (by kernel_rfl) rfl rfl) (by kernel_rfl), ?_⟩
    refine fcs ⟨obn_new 28 5 _ [.bool false, .slice none 0 0, .slice none 0 0] rfl rfl rfl rfl rfl alloc26, ?_⟩
    exact fnl
  intro a5 w5 st5 hbr5 hfr
  have hs5 := hbr5.size
  have hb := up hb hbr5
  obtain ⟨b5, c5⟩ := (show (Fact.var' (Con.raw 3)).holds _ _ from st5.at_ 5)
  have g5 := hfr.ge (s := 5) rfl c5.1
  have st : St 110 [(1, Fact.cell b1 (Con.par n m s (Con.any_ xs) (Con.any_ ys))), (2, Fact.eq (.bool false)), (3, Fact.cell b3 (Con.tri 1 1 false 0 0)), (4, Fact.eq (.int .i64 8)), (25, Fact.agg (Con.tri 1 1 false 0 0)), (26, Fact.eq (.int .i64 8)), (5, Fact.cell b5 (Con.raw 3))] a5 w5 := st5.to (fcs ⟨st5.at_ 1, fcs ⟨st5.at_ 2, fcs ⟨st5.at_ 3, fcs ⟨st5.at_ 4, fcs ⟨st5.at_ 25, fcs ⟨st5.at_ 26, fcs ⟨c5, fnl⟩⟩⟩⟩⟩⟩⟩)
  clear st5 hbr5 hfr c5
  refine sym_store st 28 5 25 b5 (Con.raw 3) (Con.tri 1 1 false 0 0) [(1, Fact.cell b1 (Con.par n m s (Con.any_ xs) (Con.any_ ys))), (2, Fact.eq (.bool false)), (3, Fact.cell b3 (Con.tri 1 1 false 0 0)), (4, Fact.eq (.int .i64 8)), (26, Fact.eq (.int .i64 8)), (5, Fact.cell b5 (Con.tri 1 1 false 0 0))] rfl rfl rfl rfl rfl rfl info26 ?_ ?_
  · exact fcs ⟨.inr ⟨rfl, safe_cell _ (by omega)⟩, fcs ⟨.inr ⟨rfl, safe_eq _ _⟩, fcs ⟨.inr ⟨rfl, safe_cell _ (by omega)⟩, fcs ⟨.inr ⟨rfl, safe_eq _ _⟩, fcs ⟨.inr ⟨rfl, safe_eq _ _⟩, fcs ⟨.inl rfl, fnl⟩⟩⟩⟩⟩⟩
  clear st; intro w6 hB hsz6 st
  have hb := hB _ _ hb (by omega) (by omega)
  clear hB
  refine sym_op st 6 (Fact.eq (.int .i64 8)) rfl (Nat.le_of_ble_eq_true rfl) rfl rfl (by kernel_rfl) (ob_copy 26 6 (.inr rfl) rfl (.inl rfl) (by kernel_rfl) rfl) ?_
  clear st; intro a7 w7 hbr st; have hs7 := hbr.size; have hb := up hb hbr; clear hbr
  refine wpList_nil ?_
  refine then_normal ?_
  refine wp_seq ?_
  refine wp_seq ?_
  refine sym_region st [(27, Fact.eq (.int .i64 8)), (28, Fact.eq (.int .i64 8)), (29, Fact.eq (.bool false)), (30, Fact.eq (.bool false)), (31, Fact.agg (Con.tri 1 1 false 0 0)), (32, Fact.agg (Con.tri 1 1 false 0 0)), (33, Fact.eq (.bool true)), (34, Fact.eq (.bool false)), (35, Fact.eq (.bool false)), (36, Fact.eq (.bool false)), (37, Fact.ptr (Con.int n)), (38, Fact.eq (.int .i64 n)), (39, Fact.agg (Con.fr 2 ((n : Int) : Rat))), (40, Fact.ptr (Con.int n)), (41, Fact.eq (.int .i64 n)), (42, Fact.agg (Con.fr 2 ((n : Int) : Rat))), (43, Fact.eq (.bool true)), (44, Fact.eq (.bool false)), (45, Fact.eq (.bool false))] [] 19 (by kernel_rfl) (by kernel_rfl) (by kernel_rfl) (Nat.le_of_ble_eq_true rfl) (by kernel_rfl) rfl rfl ?_ ?_
  · refine fcs ⟨Ob.new_ (ob_copy 4 27 (.inl rfl) rfl (.inl rfl) (by kernel_rfl) rfl) (by kernel_rfl), ?_⟩
    refine fcs ⟨Ob.new_ (ob_copy 6 28 (.inl rfl) rfl (.inl rfl) (by kernel_rfl) rfl) (by kernel_rfl), ?_⟩
    refine fcs ⟨Ob.new_ (ob_nei 27 28 29 .i64 29 _ 8 8 false rfl rfl rfl (.inl rfl) (by kernel_rfl) (by kernel_rfl) rfl rfl rfl) (by kernel_rfl), ?_⟩
    refine fcs ⟨Ob.new_ (ob_copy 29 30 (.inl rfl) rfl (.inl rfl) (by kernel_rfl) rfl) (by kernel_rfl), ?_⟩
    refine fcs ⟨Ob.new_ (ob_read 28 3 31 (Con.tri 1 1 false 0 0) rfl rfl (.inr ⟨_, _, _, rfl, rfl, by kernel_rfl, by decide, rfl⟩) (by kernel_rfl) points_cell rfl row26 info26) (by kernel_rfl), ?_⟩
    refine fcs ⟨Ob.new_ (ob_read 28 5 32 (Con.tri 1 1 false 0 0) rfl rfl (.inr ⟨_, _, _, rfl, rfl, by kernel_rfl, by decide, rfl⟩) (by kernel_rfl) points_cell rfl row26 info26) (by kernel_rfl), ?_⟩
    refine fcs ⟨Ob.new_ (ob_call2 8 31 32 33 _ rfl rfl (.inr ⟨_, _, _, rfl, rfl, by kernel_rfl, by decide, rfl⟩) (by kernel_rfl) (by kernel_rfl) (by kernel_rfl) (z_same3 1 1 1 1 false 0 0)) (by kernel_rfl), ?_⟩
    refine fcs ⟨Ob.new_ (ob_not 33 34 true false rfl rfl rfl (.inr ⟨_, _, _, rfl, rfl, by kernel_rfl, by decide, rfl⟩) (by kernel_rfl) rfl rfl) (by kernel_rfl), ?_⟩
    refine fcs ⟨Ob.new_ (ob_pick_else 30 34 35 (.bool true) rfl rfl (.inl rfl) (by kernel_rfl) (by kernel_rfl) rfl rfl) (by kernel_rfl), ?_⟩
    refine fcs ⟨Ob.new_ (ob_copy 35 36 (.inl rfl) rfl (.inl rfl) (by kernel_rfl) rfl) (by kernel_rfl), ?_⟩
    refine fcs ⟨Ob.new_ (ob_addr 26 0 1 37 0 (Con.par n m s (Con.any_ xs) (Con.any_ ys)) (Con.int n) rfl rfl (.inr ⟨_, _, _, rfl, rfl, by kernel_rfl, by decide, rfl⟩) (by kernel_rfl) points_cell rfl (Con.par_0 n m s _ _) fieldP_0) (by kernel_rfl), ?_⟩
    refine fcs ⟨Ob.new_ (ob_readi 37 38 n rfl rfl (.inr ⟨_, _, _, rfl, rfl, by kernel_rfl, by decide, rfl⟩) (by kernel_rfl) points_ptr rfl) (by kernel_rfl), ?_⟩
    refine fcs ⟨Ob.new_ (ob_call1 9 38 39 _ rfl rfl (.inr ⟨_, _, _, rfl, rfl, by kernel_rfl, by decide, rfl⟩) (by kernel_rfl) (by kernel_rfl) (q_int n h)) (by kernel_rfl), ?_⟩
    refine fcs ⟨Ob.new_ (ob_addr 26 0 1 40 0 (Con.par n m s (Con.any_ xs) (Con.any_ ys)) (Con.int n) rfl rfl (.inr ⟨_, _, _, rfl, rfl, by kernel_rfl, by decide, rfl⟩) (by kernel_rfl) points_cell rfl (Con.par_0 n m s _ _) fieldP_0) (by kernel_rfl), ?_⟩
    refine fcs ⟨Ob.new_ (ob_readi 40 41 n rfl rfl (.inr ⟨_, _, _, rfl, rfl, by kernel_rfl, by decide, rfl⟩) (by kernel_rfl) points_ptr rfl) (by kernel_rfl), ?_⟩
    refine fcs ⟨Ob.new_ (ob_call1 10 41 42 _ rfl rfl (.inr ⟨_, _, _, rfl, rfl, by kernel_rfl, by decide, rfl⟩) (by kernel_rfl) (by kernel_rfl) (z_int2 n h)) (by kernel_rfl), ?_⟩
    refine fcs ⟨Ob.new_ (ob_call2 8 39 42 43 _ rfl rfl (.inr ⟨_, _, _, rfl, rfl, by kernel_rfl, by decide, rfl⟩) (by kernel_rfl) (by kernel_rfl) (by kernel_rfl) (z_same 2 2 ((n : Int) : Rat) ((n : Int) : Rat) true (decide_eq_true rfl))) (by kernel_rfl), ?_⟩
    refine fcs ⟨Ob.new_ (ob_not 43 44 true false rfl rfl rfl (.inr ⟨_, _, _, rfl, rfl, by kernel_rfl, by decide, rfl⟩) (by kernel_rfl) rfl rfl) (by kernel_rfl), ?_⟩
    refine fcs ⟨Ob.new_ (ob_pick_else 36 44 45 (.bool true) rfl rfl (.inl rfl) (by kernel_rfl) (by kernel_rfl) rfl rfl) (by kernel_rfl), ?_⟩
    exact fnl
  intro a8 w8 st8 hbr8 hfr
  have hs8 := hbr8.size
  have hb := up hb hbr8
  have st : St 110 [(1, Fact.cell b1 (Con.par n m s (Con.any_ xs) (Con.any_ ys))), (2, Fact.eq (.bool false)), (45, Fact.eq (.bool false))] a8 w8 := st8.to (fcs ⟨st8.at_ 1, fcs ⟨st8.at_ 2, fcs ⟨st8.at_ 45, fnl⟩⟩⟩)
  clear st8 hbr8 hfr
  refine wpList_nil ?_
  refine then_normal ?_
  refine wp_cond_false (st.at_ 45) ?_
  refine wp_skip ?_
  refine then_normal ?_
  refine wp_seq ?_
  refine wp_seq ?_
  refine sym_region st [(46, Fact.ptr (Con.any_ xs)), (47, Fact.ptr (Con.any_ xs)), (48, Fact.rowd xs), (49, Fact.eq (.int .i64 ((xs).length : Int))), (50, Fact.eq (.bool false)), (51, Fact.eq (.bool false)), (52, Fact.ptr (Con.any_ ys)), (53, Fact.ptr (Con.any_ ys)), (54, Fact.rowd ys), (55, Fact.eq (.int .i64 ((ys).length : Int))), (56, Fact.eq (.bool true)), (57, Fact.eq (.bool true)), (58, Fact.eq (.bool true)), (59, Fact.eq undef), (60, Fact.eq undef), (61, Fact.eq undef), (62, Fact.eq undef), (63, Fact.eq (.bool true)), (64, Fact.eq (.bool true)), (65, Fact.eq undef), (66, Fact.eq undef), (67, Fact.eq undef), (68, Fact.eq undef), (69, Fact.eq (.bool true))] [] 24 (by kernel_rfl) (by kernel_rfl) (by kernel_rfl) (Nat.le_of_ble_eq_true rfl) (by kernel_rfl) rfl rfl ?_ ?_
  · refine fcs ⟨Ob.new_ (ob_addr 26 3 1 46 3 (Con.par n m s (Con.any_ xs) (Con.any_ ys)) (Con.any_ xs) rfl rfl (.inl rfl) (by kernel_rfl) points_cell rfl (Con.par_3 n m s _ _) fieldP_3) (by kernel_rfl), ?_⟩
    refine fcs ⟨Ob.new_ (ob_addr 24 0 46 47 0 (Con.any_ xs) (Con.any_ xs) rfl rfl (.inl rfl) (by kernel_rfl) points_ptr rfl (Con.Sub.refl _) field24_0) (by kernel_rfl), ?_⟩
    refine fcs ⟨Ob.new_ (ob_loadrowd 47 48 xs (Con.any_ xs) any_row rfl rfl (.inl rfl) (by kernel_rfl) points_ptr rfl) (by kernel_rfl), ?_⟩
    refine fcs ⟨Ob.new_ (ob_len 48 49 (xs).length 22 rfl (by kernel_rfl) rfl (.inl rfl) (by kernel_rfl) len_rowd rfl) (by kernel_rfl), ?_⟩
    refine fcs ⟨Ob.new_ (ob_gtc 49 50 .i64 3 _ ((xs).length : Int) 12 false hx rfl rfl (.inl rfl) (by kernel_rfl) rfl rfl) (by kernel_rfl), ?_⟩
    refine fcs ⟨Ob.new_ (ob_copy 50 51 (.inl rfl) rfl (.inl rfl) (by kernel_rfl) rfl) (by kernel_rfl), ?_⟩
    refine fcs ⟨Ob.new_ (ob_addr 26 4 1 52 4 (Con.par n m s (Con.any_ xs) (Con.any_ ys)) (Con.any_ ys) rfl rfl (.inr ⟨_, _, _, rfl, rfl, by kernel_rfl, by decide, rfl⟩) (by kernel_rfl) points_cell rfl (Con.par_4a n m s xs ys) fieldP_4) (by kernel_rfl), ?_⟩
    refine fcs ⟨Ob.new_ (ob_addr 24 0 52 53 0 (Con.any_ ys) (Con.any_ ys) rfl rfl (.inr ⟨_, _, _, rfl, rfl, by kernel_rfl, by decide, rfl⟩) (by kernel_rfl) points_ptr rfl (Con.Sub.refl _) field24_0) (by kernel_rfl), ?_⟩
    refine fcs ⟨Ob.new_ (ob_loadrowd 53 54 ys (Con.any_ ys) any_row rfl rfl (.inr ⟨_, _, _, rfl, rfl, by kernel_rfl, by decide, rfl⟩) (by kernel_rfl) points_ptr rfl) (by kernel_rfl), ?_⟩
    refine fcs ⟨Ob.new_ (ob_len 54 55 (ys).length 22 rfl (by kernel_rfl) rfl (.inr ⟨_, _, _, rfl, rfl, by kernel_rfl, by decide, rfl⟩) (by kernel_rfl) len_rowd rfl) (by kernel_rfl), ?_⟩
    refine fcs ⟨Ob.new_ (ob_gtc 55 56 .i64 3 _ ((ys).length : Int) 12 true hy rfl rfl (.inr ⟨_, _, _, rfl, rfl, by kernel_rfl, by decide, rfl⟩) (by kernel_rfl) rfl rfl) (by kernel_rfl), ?_⟩
    refine fcs ⟨Ob.new_ (ob_pick_else 51 56 57 (.bool true) rfl rfl (.inl rfl) (by kernel_rfl) (by kernel_rfl) rfl rfl) (by kernel_rfl), ?_⟩
    refine fcs ⟨Ob.new_ (ob_copy 57 58 (.inl rfl) rfl (.inl rfl) (by kernel_rfl) rfl) (by kernel_rfl), ?_⟩
    refine fcs ⟨Ob.new_ (ob_skip 12 58 59 false rfl rfl (by kernel_rfl) (by decide) rfl rfl rfl) (by kernel_rfl), ?_⟩
    refine fcs ⟨Ob.new_ (ob_skip 12 58 60 false rfl rfl (by kernel_rfl) (by decide) rfl rfl rfl) (by kernel_rfl), ?_⟩
    refine fcs ⟨Ob.new_ (ob_skip 12 58 61 false rfl rfl (by kernel_rfl) (by decide) rfl rfl rfl) (by kernel_rfl), ?_⟩
    refine fcs ⟨Ob.new_ (ob_skip 12 58 62 false rfl rfl (by kernel_rfl) (by decide) rfl rfl rfl) (by kernel_rfl), ?_⟩
    refine fcs ⟨Ob.new_ (ob_pick_or 58 62 63 (.bool true) rfl rfl (.inl rfl) (by kernel_rfl) rfl rfl) (by kernel_rfl), ?_⟩
    refine fcs ⟨Ob.new_ (ob_copy 63 64 (.inl rfl) rfl (.inl rfl) (by kernel_rfl) rfl) (by kernel_rfl), ?_⟩
    refine fcs ⟨Ob.new_ (ob_skip 18 64 65 false rfl rfl (by kernel_rfl) (by decide) rfl rfl rfl) (by kernel_rfl), ?_⟩
    refine fcs ⟨Ob.new_ (ob_skip 18 64 66 false rfl rfl (by kernel_rfl) (by decide) rfl rfl rfl) (by kernel_rfl), ?_⟩
    refine fcs ⟨Ob.new_ (ob_skip 18 64 67 false rfl rfl (by kernel_rfl) (by decide) rfl rfl rfl) (by kernel_rfl), ?_⟩
    refine fcs ⟨Ob.new_ (ob_skip 18 64 68 false rfl rfl (by kernel_rfl) (by decide) rfl rfl rfl) (by kernel_rfl), ?_⟩
    refine fcs ⟨Ob.new_ (ob_pick_or 64 68 69 (.bool true) rfl rfl (.inl rfl) (by kernel_rfl) rfl rfl) (by kernel_rfl), ?_⟩
    exact fnl
  intro a9 w9 st9 hbr9 hfr
  have hs9 := hbr9.size
  have hb := up hb hbr9
  have st : St 110 [(1, Fact.cell b1 (Con.par n m s (Con.any_ xs) (Con.any_ ys))), (2, Fact.eq (.bool false)), (69, Fact.eq (.bool true))] a9 w9 := st9.to (fcs ⟨st9.at_ 1, fcs ⟨st9.at_ 2, fcs ⟨st9.at_ 69, fnl⟩⟩⟩)
  clear st9 hbr9 hfr
  refine wpList_nil ?_
  refine then_normal ?_
  refine wp_cond_true (st.at_ 69) ?_
  refine wp_seq ?_
  have st := st.to (ks' := [(1, Fact.cell b1 (Con.par n m s (Con.any_ xs) (Con.any_ ys))), (69, Fact.eq (.bool true))]) (fcs ⟨st.at_ 1, fcs ⟨st.at_ 69, fnl⟩⟩)
  refine sym_region st [(70, Fact.eq (.bool true)), (2, Fact.eq (.bool true))] [] 2 (by kernel_rfl) (by kernel_rfl) (by kernel_rfl) (Nat.le_of_ble_eq_true rfl) (by kernel_rfl) rfl rfl ?_ ?_
  · refine fcs ⟨Ob.new_ (ob_call0 12 70 _ rfl rfl (.inl rfl) (by kernel_rfl) w_awake) (by kernel_rfl), ?_⟩
    refine fcs ⟨Ob.new_ (ob_copy 70 2 (.inr rfl) rfl (.inl rfl) (by kernel_rfl) rfl) (by kernel_rfl), ?_⟩
    exact fnl
  intro a10 w10 st10 hbr10 hfr
  have hs10 := hbr10.size
  have hb := up hb hbr10
  have st : St 110 [(1, Fact.cell b1 (Con.par n m s (Con.any_ xs) (Con.any_ ys))), (2, Fact.eq (.bool true))] a10 w10 := st10.to (fcs ⟨st10.at_ 1, fcs ⟨st10.at_ 2, fnl⟩⟩)
  clear st10 hbr10 hfr
  refine wpList_nil ?_
  refine then_normal ?_
  refine wp_ret ?_
  exact sym_ret1 rfl st.defers (resAt_tmp st 2) hb (fun _ h => h)
set_option maxRecDepth 100000 in
theorem law_makes_c1 (n m : Int) (h : -9223372036854775808 ≤ n ∧ n ≤ 9223372036854775807) (h2 : -9223372036854775808 ≤ m ∧ m ≤ 9223372036854775807) (hm : Int.natAbs m = 0) (s : Bool) (xs ys : List Nat) (hx : decide ((xs.length : Int) > 12) = false) (hy : decide ((ys.length : Int) > 12) = false) (tx : decide (Nm.tlen xs = xs.length) = false) : ∀ v0 w, (Fact.agg (Con.par n m s (Con.dg xs) (Con.dg ys))).holds v0 w → Calls Tryd.prog 3 #[v0] w (Ret (Fact.eq (.bool true)) w) := by
  intro v0 w hv0
  refine sym_calls 110 [(0, Fact.agg (Con.par n m s (Con.dg xs) (Con.dg ys)))] Tryd.func3 rfl rfl (Nat.le_of_ble_eq_true rfl) (fcs ⟨⟨Nat.le_of_ble_eq_true rfl, hv0⟩, fnl⟩) fun a st => ?_
  have hb := Below.refl w.heap.size w
  refine wp_seq ?_
  refine sym_region st [(1, Fact.var' (Con.par n m s (Con.dg xs) (Con.dg ys))), (2, Fact.eq (.bool false))] [1] 2 (by kernel_rfl) (by kernel_rfl) (by kernel_rfl) (Nat.le_of_ble_eq_true rfl) (by kernel_rfl) rfl rfl ?_ ?_
  · refine fcs ⟨obn_box 26 0 1 _ (Con.par n m s (Con.dg xs) (Con.dg ys)) rfl rfl rfl (by kernel_rfl) rfl rfl, ?_⟩
    refine fcs ⟨Ob.new_ (ob_const (.bool false) 2 (.inr rfl) rfl (.inl rfl) rfl) (by kernel_rfl), ?_⟩
    exact fnl
  intro a1 w1 st1 hbr1 hfr
  have hs1 := hbr1.size
  have hb := up hb hbr1
  obtain ⟨b1, c1⟩ := (show (Fact.var' (Con.par n m s (Con.dg xs) (Con.dg ys))).holds _ _ from st1.at_ 1)
  have g1 := hfr.ge (s := 1) rfl c1.1
  have st : St 110 [(1, Fact.cell b1 (Con.par n m s (Con.dg xs) (Con.dg ys))), (2, Fact.eq (.bool false))] a1 w1 := st1.to (fcs ⟨c1, fcs ⟨st1.at_ 2, fnl⟩⟩)
  clear st1 hbr1 hfr c1
  refine wpList_nil ?_
  refine then_normal ?_
  refine wp_seq ?_
  refine sym_region st [(12, Fact.ptr (Con.int n)), (13, Fact.eq (.int .i64 n)), (14, Fact.ptr (Con.int m)), (15, Fact.eq (.int .i64 m)), (16, Fact.two (Fact.agg (Con.tri 1 1 false 0 0)) (Fact.eq (.int .i64 8))), (11, Fact.two (Fact.agg (Con.tri 1 1 false 0 0)) (Fact.eq (.int .i64 8))), (17, Fact.agg (Con.tri 1 1 false 0 0)), (18, Fact.eq (.int .i64 8)), (3, Fact.var' (Con.raw 3))] [3] 9 (by kernel_rfl) (by kernel_rfl) (by kernel_rfl) (Nat.le_of_ble_eq_true rfl) (by kernel_rfl) rfl rfl ?_ ?_
  · refine fcs ⟨Ob.new_ (ob_addr 26 0 1 12 0 (Con.par n m s (Con.dg xs) (Con.dg ys)) (Con.int n) rfl rfl (.inl rfl) (by kernel_rfl) points_cell rfl (Con.par_0 n m s _ _) fieldP_0) (by kernel_rfl), ?_⟩
    refine fcs ⟨Ob.new_ (ob_readi 12 13 n rfl rfl (.inl rfl) (by kernel_rfl) points_ptr rfl) (by kernel_rfl), ?_⟩
    refine fcs ⟨Ob.new_ (ob_addr 26 1 1 14 1 (Con.par n m s (Con.dg xs) (Con.dg ys)) (Con.int m) rfl rfl (.inl rfl) (by kernel_rfl) points_cell rfl (Con.par_1 n m s _ _) fieldP_1) (by kernel_rfl), ?_⟩
    refine fcs ⟨Ob.new_ (ob_readi 14 15 m rfl rfl (.inl rfl) (by kernel_rfl) points_ptr rfl) (by kernel_rfl), ?_⟩
    refine fcs ⟨Ob.new_ (ob_call2 6 13 15 16 _ rfl rfl (.inl rfl) (by kernel_rfl) (by kernel_rfl) (by kernel_rfl) (q_ratio0 n m h h2 hm)) (by kernel_rfl), ?_⟩
    refine fcs ⟨Ob.new_ (ob_copy 16 11 (.inl rfl) rfl (.inl rfl) (by kernel_rfl) rfl) (by kernel_rfl), ?_⟩
    refine fcs ⟨Ob.new_ (ob_fst 11 17 (Fact.agg (Con.tri 1 1 false 0 0)) (Fact.eq (.int .i64 8)) rfl rfl (.inl rfl) (by kernel_rfl) rfl rfl) (by kernel_rfl), ?_⟩
    refine fcs ⟨Ob.new_ (ob_snd 11 18 (Fact.agg (Con.tri 1 1 false 0 0)) (Fact.eq (.int .i64 8)) rfl rfl (.inl rfl) (by kernel_rfl) rfl rfl) (by kernel_rfl), ?_⟩
    refine fcs ⟨obn_new 28 3 _ [.bool false, .slice none 0 0, .slice none 0 0] rfl rfl rfl rfl rfl alloc26, ?_⟩
    exact fnl
  intro a2 w2 st2 hbr2 hfr
  have hs2 := hbr2.size
  have hb := up hb hbr2
  obtain ⟨b3, c3⟩ := (show (Fact.var' (Con.raw 3)).holds _ _ from st2.at_ 3)
  have g3 := hfr.ge (s := 3) rfl c3.1
  have st : St 110 [(1, Fact.cell b1 (Con.par n m s (Con.dg xs) (Con.dg ys))), (2, Fact.eq (.bool false)), (17, Fact.agg (Con.tri 1 1 false 0 0)), (18, Fact.eq (.int .i64 8)), (3, Fact.cell b3 (Con.raw 3))] a2 w2 := st2.to (fcs ⟨st2.at_ 1, fcs ⟨st2.at_ 2, fcs ⟨st2.at_ 17, fcs ⟨st2.at_ 18, fcs ⟨c3, fnl⟩⟩⟩⟩⟩)
  clear st2 hbr2 hfr c3
  refine sym_store st 28 3 17 b3 (Con.raw 3) (Con.tri 1 1 false 0 0) [(1, Fact.cell b1 (Con.par n m s (Con.dg xs) (Con.dg ys))), (2, Fact.eq (.bool false)), (18, Fact.eq (.int .i64 8)), (3, Fact.cell b3 (Con.tri 1 1 false 0 0))] rfl rfl rfl rfl rfl rfl info26 ?_ ?_
  · exact fcs ⟨.inr ⟨rfl, safe_cell _ (by omega)⟩, fcs ⟨.inr ⟨rfl, safe_eq _ _⟩, fcs ⟨.inr ⟨rfl, safe_eq _ _⟩, fcs ⟨.inl rfl, fnl⟩⟩⟩⟩
  clear st; intro w3 hB hsz3 st
  have hb := hB _ _ hb (by omega) (by omega)
  clear hB
  refine sym_op st 4 (Fact.eq (.int .i64 8)) rfl (Nat.le_of_ble_eq_true rfl) rfl rfl (by kernel_rfl) (ob_copy 18 4 (.inr rfl) rfl (.inl rfl) (by kernel_rfl) rfl) ?_
  clear st; intro a4 w4 hbr st; have hs4 := hbr.size; have hb := up hb hbr; clear hbr
  refine wpList_nil ?_
  refine then_normal ?_
  refine wp_seq ?_
  refine sym_region st [(20, Fact.ptr (Con.int n)), (21, Fact.eq (.int .i64 n)), (22, Fact.ptr (Con.int m)), (23, Fact.eq (.int .i64 m)), (24, Fact.two (Fact.agg (Con.tri 1 1 false 0 0)) (Fact.eq (.int .i64 8))), (19, Fact.two (Fact.agg (Con.tri 1 1 false 0 0)) (Fact.eq (.int .i64 8))), (25, Fact.agg (Con.tri 1 1 false 0 0)), (26, Fact.eq (.int .i64 8)), (5, Fact.var' (Con.raw 3))] [5] 9 (by kernel_rfl) (by kernel_rfl) (by kernel_rfl) (Nat.le_of_ble_eq_true rfl) (by kernel_rfl) rfl rfl ?_ ?_
  · refine fcs ⟨Ob.new_ (ob_addr 26 0 1 20 0 (Con.par n m s (Con.dg xs) (Con.dg ys)) (Con.int n) rfl rfl (.inl rfl) (by kernel_rfl) points_cell rfl (Con.par_0 n m s _ _) fieldP_0) (by kernel_rfl), ?_⟩
    refine fcs ⟨Ob.new_ (ob_readi 20 21 n rfl rfl (.inl rfl) (by kernel_rfl) points_ptr rfl) (by kernel_rfl), ?_⟩
    refine fcs ⟨Ob.new_ (ob_addr 26 1 1 22 1 (Con.par n m s (Con.dg xs) (Con.dg ys)) (Con.int m) rfl rfl (.inl rfl) (by kernel_rfl) points_cell rfl (Con.par_1 n m s _ _) fieldP_1) (by kernel_rfl), ?_⟩
    refine fcs ⟨Ob.new_ (ob_readi 22 23 m rfl rfl (.inl rfl) (by kernel_rfl) points_ptr rfl) (by kernel_rfl), ?_⟩
    refine fcs ⟨Ob.new_ (ob_call2 7 21 23 24 _ rfl rfl (.inl rfl) (by kernel_rfl) (by kernel_rfl) (by kernel_rfl) (z_ratio0 n m h h2 hm)) (by kernel_rfl), ?_⟩
    refine fcs ⟨Ob.new_ (ob_copy 24 19 (.inl rfl) rfl (.inl rfl) (by kernel_rfl) rfl) (by kernel_rfl), ?_⟩
    refine fcs ⟨Ob.new_ (ob_fst 19 25 (Fact.agg (Con.tri 1 1 false 0 0)) (Fact.eq (.int .i64 8)) rfl rfl (.inl rfl) (by kernel_rfl) rfl rfl) (by kernel_rfl), ?_⟩
    refine fcs ⟨Ob.new_ (ob_snd 19 26 (Fact.agg (Con.tri 1 1 false 0 0)) (Fact.eq (.int .i64 8)) rfl rfl (.inl rfl) (by kernel_rfl) rfl rfl) (by kernel_rfl), ?_⟩
    refine fcs ⟨obn_new 28 5 _ [.bool false, .slice none 0 0, .slice none 0 0] rfl rfl rfl rfl rfl alloc26, ?_⟩
    exact fnl
  intro a5 w5 st5 hbr5 hfr
  have hs5 := hbr5.size
  have hb := up hb hbr5
  obtain ⟨b5, c5⟩ := (show (Fact.var' (Con.raw 3)).holds _ _ from st5.at_ 5)
  have g5 := hfr.ge (s := 5) rfl c5.1
  have st : St 110 [(1, Fact.cell b1 (Con.par n m s (Con.dg xs) (Con.dg ys))), (2, Fact.eq (.bool false)), (3, Fact.cell b3 (Con.tri 1 1 false 0 0)), (4, Fact.eq (.int .i64 8)), (25, Fact.agg (Con.tri 1 1 false 0 0)), (26, Fact.eq (.int .i64 8)), (5, Fact.cell b5 (Con.raw 3))] a5 w5 := st5.to (fcs ⟨st5.at_ 1, fcs ⟨st5.at_ 2, fcs ⟨st5.at_ 3, fcs ⟨st5.at_ 4, fcs ⟨st5.at_ 25, fcs ⟨st5.at_ 26, fcs ⟨c5, fnl⟩⟩⟩⟩⟩⟩⟩)
  clear st5 hbr5 hfr c5
  refine sym_store st 28 5 25 b5 (Con.raw 3) (Con.tri 1 1 false 0 0) [(1, Fact.cell b1 (Con.par n m s (Con.dg xs) (Con.dg ys))), (2, Fact.eq (.bool false)), (3, Fact.cell b3 (Con.tri 1 1 false 0 0)), (4, Fact.eq (.int .i64 8)), (26, Fact.eq (.int .i64 8)), (5, Fact.cell b5 (Con.tri 1 1 false 0 0))] rfl rfl rfl rfl rfl rfl info26 ?_ ?_
  · exact fcs ⟨.inr ⟨rfl, safe_cell _ (by omega)⟩, fcs ⟨.inr ⟨rfl, safe_eq _ _⟩, fcs ⟨.inr ⟨rfl, safe_cell _ (by omega)⟩, fcs ⟨.inr ⟨rfl, safe_eq _ _⟩, fcs ⟨.inr ⟨rfl, safe_eq _ _⟩, fcs ⟨.inl rfl, fnl⟩⟩⟩⟩⟩⟩
  clear st; intro w6 hB hsz6 st
  have hb := hB _ _ hb (by omega) (by omega)
  clear hB
  refine sym_op st 6 (Fact.eq (.int .i64 8)) rfl (Nat.le_of_ble_eq_true rfl) rfl rfl (by kernel_rfl) (ob_copy 26 6 (.inr rfl) rfl (.inl rfl) (by kernel_rfl) rfl) ?_
  clear st; intro a7 w7 hbr st; have hs7 := hbr.size; have hb := up hb hbr; clear hbr
  refine wpList_nil ?_
  refine then_normal ?_
  refine wp_seq ?_
  refine wp_seq ?_
  refine sym_region st [(27, Fact.eq (.int .i64 8)), (28, Fact.eq (.int .i64 8)), (29, Fact.eq (.bool false)), (30, Fact.eq (.bool false)), (31, Fact.agg (Con.tri 1 1 false 0 0)), (32, Fact.agg (Con.tri 1 1 false 0 0)), (33, Fact.eq (.bool true)), (34, Fact.eq (.bool false)), (35, Fact.eq (.bool false)), (36, Fact.eq (.bool false)), (37, Fact.ptr (Con.int n)), (38, Fact.eq (.int .i64 n)), (39, Fact.agg (Con.fr 2 ((n : Int) : Rat))), (40, Fact.ptr (Con.int n)), (41, Fact.eq (.int .i64 n)), (42, Fact.agg (Con.fr 2 ((n : Int) : Rat))), (43, Fact.eq (.bool true)), (44, Fact.eq (.bool false)), (45, Fact.eq (.bool false))] [] 19 (by kernel_rfl) (by kernel_rfl) (by kernel_rfl) (Nat.le_of_ble_eq_true rfl) (by kernel_rfl) rfl rfl ?_ ?_
  · refine fcs ⟨Ob.new_ (ob_copy 4 27 (.inl rfl) rfl (.inl rfl) (by kernel_rfl) rfl) (by kernel_rfl), ?_⟩
    refine fcs ⟨Ob.new_ (ob_copy 6 28 (.inl rfl) rfl (.inl rfl) (by kernel_rfl) rfl) (by kernel_rfl), ?_⟩
    refine fcs ⟨Ob.new_ (ob_nei 27 28 29 .i64 29 _ 8 8 false rfl rfl rfl (.inl rfl) (by kernel_rfl) (by kernel_rfl) rfl rfl rfl) (by kernel_rfl), ?_⟩
    refine fcs ⟨Ob.new_ (ob_copy 29 30 (.inl rfl) rfl (.inl rfl) (by kernel_rfl) rfl) (by kernel_rfl), ?_⟩
    refine fcs ⟨Ob.new_ (ob_read 28 3 31 (Con.tri 1 1 false 0 0) rfl rfl (.inr ⟨_, _, _, rfl, rfl, by kernel_rfl, by decide, rfl⟩) (by kernel_rfl) points_cell rfl row26 info26) (by kernel_rfl), ?_⟩
    refine fcs ⟨Ob.new_ (ob_read 28 5 32 (Con.tri 1 1 false 0 0) rfl rfl (.inr ⟨_, _, _, rfl, rfl, by kernel_rfl, by decide, rfl⟩) (by kernel_rfl) points_cell rfl row26 info26) (by kernel_rfl), ?_⟩
    refine fcs ⟨Ob.new_ (ob_call2 8 31 32 33 _ rfl rfl (.inr ⟨_, _, _, rfl, rfl, by kernel_rfl, by decide, rfl⟩) (by kernel_rfl) (by kernel_rfl) (by kernel_rfl) (z_same3 1 1 1 1 false 0 0)) (by kernel_rfl), ?_⟩
    refine fcs ⟨Ob.new_ (ob_not 33 34 true false rfl rfl rfl (.inr ⟨_, _, _, rfl, rfl, by kernel_rfl, by decide, rfl⟩) (by kernel_rfl) rfl rfl) (by kernel_rfl), ?_⟩
    refine fcs ⟨Ob.new_ (ob_pick_else 30 34 35 (.bool true) rfl rfl (.inl rfl) (by kernel_rfl) (by kernel_rfl) rfl rfl) (by kernel_rfl), ?_⟩
    refine fcs ⟨Ob.new_ (ob_copy 35 36 (.inl rfl) rfl (.inl rfl) (by kernel_rfl) rfl) (by kernel_rfl), ?_⟩
    refine fcs ⟨Ob.new_ (ob_addr 26 0 1 37 0 (Con.par n m s (Con.dg xs) (Con.dg ys)) (Con.int n) rfl rfl (.inr ⟨_, _, _, rfl, rfl, by kernel_rfl, by decide, rfl⟩) (by kernel_rfl) points_cell rfl (Con.par_0 n m s _ _) fieldP_0) (by kernel_rfl), ?_⟩
    refine fcs ⟨Ob.new_ (ob_readi 37 38 n rfl rfl (.inr ⟨_, _, _, rfl, rfl, by kernel_rfl, by decide, rfl⟩) (by kernel_rfl) points_ptr rfl) (by kernel_rfl), ?_⟩
    refine fcs ⟨Ob.new_ (ob_call1 9 38 39 _ rfl rfl (.inr ⟨_, _, _, rfl, rfl, by kernel_rfl, by decide, rfl⟩) (by kernel_rfl) (by kernel_rfl) (q_int n h)) (by kernel_rfl), ?_⟩
    refine fcs ⟨Ob.new_ (ob_addr 26 0 1 40 0 (Con.par n m s (Con.dg xs) (Con.dg ys)) (Con.int n) rfl rfl (.inr ⟨_, _, _, rfl, rfl, by kernel_rfl, by decide, rfl⟩) (by kernel_rfl) points_cell rfl (Con.par_0 n m s _ _) fieldP_0) (by kernel_rfl), ?_⟩
    refine fcs ⟨Ob.new_ (ob_readi 40 41 n rfl rfl (.inr ⟨_, _, _, rfl, rfl, by kernel_rfl, by decide, rfl⟩) (by kernel_rfl) points_ptr rfl) (by kernel_rfl), ?_⟩
    refine fcs ⟨Ob.new_ (ob_call1 10 41 42 _ rfl rfl (.inr ⟨_, _, _, rfl, rfl, by kernel_rfl, by decide, rfl⟩) (by kernel_rfl) (by kernel_rfl) (z_int2 n h)) (by kernel_rfl), ?_⟩
    refine fcs ⟨Ob.new_ (ob_call2 8 39 42 43 _ rfl rfl (.inr ⟨_, _, _, rfl, rfl, by kernel_rfl, by decide, rfl⟩) (by kernel_rfl) (by kernel_rfl) (by kernel_rfl) (z_same 2 2 ((n : Int) : Rat) ((n : Int) : Rat) true (decide_eq_true rfl))) (by kernel_rfl), ?_⟩
    refine fcs ⟨Ob.new_ (ob_not 43 44 true false rfl rfl rfl (.inr ⟨_, _, _, rfl, rfl, by kernel_rfl, by decide, rfl⟩) (by kernel_rfl) rfl rfl) (by kernel_rfl), ?_⟩
    refine fcs ⟨Ob.new_ (ob_pick_else 36 44 45 (.bool true) rfl rfl (.inl rfl) (by kernel_rfl) (by kernel_rfl) rfl rfl) (by kernel_rfl), ?_⟩
    exact fnl
  intro a8 w8 st8 hbr8 hfr
  have hs8 := hbr8.size
  have hb := up hb hbr8
  have st : St 110 [(1, Fact.cell b1 (Con.par n m s (Con.dg xs) (Con.dg ys))), (2, Fact.eq (.bool false)), (45, Fact.eq (.bool false))] a8 w8 := st8.to (fcs ⟨st8.at_ 1, fcs ⟨st8.at_ 2, fcs ⟨st8.at_ 45, fnl⟩⟩⟩)
  clear st8 hbr8 hfr
  refine wpList_nil ?_
  refine then_normal ?_
  refine wp_cond_false (st.at_ 45) ?_
  refine wp_skip ?_
  refine then_normal ?_
  refine wp_seq ?_
  refine wp_seq ?_
  refine sym_region st [(46, Fact.ptr (Con.dg xs)), (47, Fact.ptr (Con.dg xs)), (48, Fact.rowd xs), (49, Fact.eq (.int .i64 ((xs).length : Int))), (50, Fact.eq (.bool false)), (51, Fact.eq (.bool false)), (52, Fact.ptr (Con.dg ys)), (53, Fact.ptr (Con.dg ys)), (54, Fact.rowd ys), (55, Fact.eq (.int .i64 ((ys).length : Int))), (56, Fact.eq (.bool false)), (57, Fact.eq (.bool false)), (58, Fact.eq (.bool false)), (59, Fact.ptr (Con.dg xs)), (60, Fact.agg (Con.dg xs)), (61, Fact.eq (.bool false)), (62, Fact.eq (.bool true)), (63, Fact.eq (.bool true)), (64, Fact.eq (.bool true)), (65, Fact.eq undef), (66, Fact.eq undef), (67, Fact.eq undef), (68, Fact.eq undef), (69, Fact.eq (.bool true))] [] 24 (by kernel_rfl) (by kernel_rfl) (by kernel_rfl) (Nat.le_of_ble_eq_true rfl) (by kernel_rfl) rfl rfl ?_ ?_
  · refine fcs ⟨Ob.new_ (ob_addr 26 3 1 46 3 (Con.par n m s (Con.dg xs) (Con.dg ys)) (Con.dg xs) rfl rfl (.inl rfl) (by kernel_rfl) points_cell rfl (Con.par_3 n m s _ _) fieldP_3) (by kernel_rfl), ?_⟩
    refine fcs ⟨Ob.new_ (ob_addr 24 0 46 47 0 (Con.dg xs) (Con.dg xs) rfl rfl (.inl rfl) (by kernel_rfl) points_ptr rfl (Con.Sub.refl _) field24_0) (by kernel_rfl), ?_⟩
    refine fcs ⟨Ob.new_ (ob_loadrowd 47 48 xs (Con.dg xs) dg_row rfl rfl (.inl rfl) (by kernel_rfl) points_ptr rfl) (by kernel_rfl), ?_⟩
    refine fcs ⟨Ob.new_ (ob_len 48 49 (xs).length 22 rfl (by kernel_rfl) rfl (.inl rfl) (by kernel_rfl) len_rowd rfl) (by kernel_rfl), ?_⟩
    refine fcs ⟨Ob.new_ (ob_gtc 49 50 .i64 3 _ ((xs).length : Int) 12 false hx rfl rfl (.inl rfl) (by kernel_rfl) rfl rfl) (by kernel_rfl), ?_⟩
    refine fcs ⟨Ob.new_ (ob_copy 50 51 (.inl rfl) rfl (.inl rfl) (by kernel_rfl) rfl) (by kernel_rfl), ?_⟩
    refine fcs ⟨Ob.new_ (ob_addr 26 4 1 52 4 (Con.par n m s (Con.dg xs) (Con.dg ys)) (Con.dg ys) rfl rfl (.inr ⟨_, _, _, rfl, rfl, by kernel_rfl, by decide, rfl⟩) (by kernel_rfl) points_cell rfl (Con.par_4d n m s xs ys) fieldP_4) (by kernel_rfl), ?_⟩
    refine fcs ⟨Ob.new_ (ob_addr 24 0 52 53 0 (Con.dg ys) (Con.dg ys) rfl rfl (.inr ⟨_, _, _, rfl, rfl, by kernel_rfl, by decide, rfl⟩) (by kernel_rfl) points_ptr rfl (Con.Sub.refl _) field24_0) (by kernel_rfl), ?_⟩
    refine fcs ⟨Ob.new_ (ob_loadrowd 53 54 ys (Con.dg ys) dg_row rfl rfl (.inr ⟨_, _, _, rfl, rfl, by kernel_rfl, by decide, rfl⟩) (by kernel_rfl) points_ptr rfl) (by kernel_rfl), ?_⟩
    refine fcs ⟨Ob.new_ (ob_len 54 55 (ys).length 22 rfl (by kernel_rfl) rfl (.inr ⟨_, _, _, rfl, rfl, by kernel_rfl, by decide, rfl⟩) (by kernel_rfl) len_rowd rfl) (by kernel_rfl), ?_⟩
    refine fcs ⟨Ob.new_ (ob_gtc 55 56 .i64 3 _ ((ys).length : Int) 12 false hy rfl rfl (.inr ⟨_, _, _, rfl, rfl, by kernel_rfl, by decide, rfl⟩) (by kernel_rfl) rfl rfl) (by kernel_rfl), ?_⟩
    refine fcs ⟨Ob.new_ (ob_pick_else 51 56 57 (.bool true) rfl rfl (.inl rfl) (by kernel_rfl) (by kernel_rfl) rfl rfl) (by kernel_rfl), ?_⟩
    refine fcs ⟨Ob.new_ (ob_copy 57 58 (.inl rfl) rfl (.inl rfl) (by kernel_rfl) rfl) (by kernel_rfl), ?_⟩
    refine fcs ⟨Ob.new_ (ob_addr 26 3 1 59 3 (Con.par n m s (Con.dg xs) (Con.dg ys)) (Con.dg xs) rfl rfl (.inr ⟨_, _, _, rfl, rfl, by kernel_rfl, by decide, rfl⟩) (by kernel_rfl) points_cell rfl (Con.par_3 n m s _ _) fieldP_3) (by kernel_rfl), ?_⟩
    refine fcs ⟨Ob.new_ (ob_read 24 59 60 (Con.dg xs) rfl rfl (.inr ⟨_, _, _, rfl, rfl, by kernel_rfl, by decide, rfl⟩) (by kernel_rfl) points_ptr rfl row24 info24) (by kernel_rfl), ?_⟩
    refine fcs ⟨Ob.new_ (ob_call1 11 60 61 _ rfl rfl (.inr ⟨_, _, _, rfl, rfl, by kernel_rfl, by decide, rfl⟩) (by kernel_rfl) (by kernel_rfl) (d_valid xs false tx)) (by kernel_rfl), ?_⟩
    refine fcs ⟨Ob.new_ (ob_not 61 62 false true rfl rfl rfl (.inr ⟨_, _, _, rfl, rfl, by kernel_rfl, by decide, rfl⟩) (by kernel_rfl) rfl rfl) (by kernel_rfl), ?_⟩
    refine fcs ⟨Ob.new_ (ob_pick_else 58 62 63 (.bool true) rfl rfl (.inl rfl) (by kernel_rfl) (by kernel_rfl) rfl rfl) (by kernel_rfl), ?_⟩
    refine fcs ⟨Ob.new_ (ob_copy 63 64 (.inl rfl) rfl (.inl rfl) (by kernel_rfl) rfl) (by kernel_rfl), ?_⟩
    refine fcs ⟨Ob.new_ (ob_skip 18 64 65 false rfl rfl (by kernel_rfl) (by decide) rfl rfl rfl) (by kernel_rfl), ?_⟩
    refine fcs ⟨Ob.new_ (ob_skip 18 64 66 false rfl rfl (by kernel_rfl) (by decide) rfl rfl rfl) (by kernel_rfl), ?_⟩
    refine fcs ⟨Ob.new_ (ob_skip 18 64 67 false rfl rfl (by kernel_rfl) (by decide) rfl rfl rfl) (by kernel_rfl), ?_⟩
    refine fcs ⟨Ob.new_ (ob_skip 18 64 68 false rfl rfl (by kernel_rfl) (by decide) rfl rfl rfl) (by kernel_rfl), ?_⟩
    refine fcs ⟨Ob.new_ (ob_pick_or 64 68 69 (.bool true) rfl rfl (.inl rfl) (by kernel_rfl) rfl rfl) (by kernel_rfl), ?_⟩
    exact fnl
  intro a9 w9 st9 hbr9 hfr
  have hs9 := hbr9.size
  have hb := up hb hbr9
  have st : St 110 [(1, Fact.cell b1 (Con.par n m s (Con.dg xs) (Con.dg ys))), (2, Fact.eq (.bool false)), (69, Fact.eq (.bool true))] a9 w9 := st9.to (fcs ⟨st9.at_ 1, fcs ⟨st9.at_ 2, fcs ⟨st9.at_ 69, fnl⟩⟩⟩)
  clear st9 hbr9 hfr
  refine wpList_nil ?_
  refine then_normal ?_
  refine wp_cond_true (st.at_ 69) ?_
  refine wp_seq ?_
  have st := st.to (ks' := [(1, Fact.cell b1 (Con.par n m s (Con.dg xs) (Con.dg ys))), (69, Fact.eq (.bool true))]) (fcs ⟨st.at_ 1, fcs ⟨st.at_ 69, fnl⟩⟩)
  refine sym_region st [(70, Fact.eq (.bool true)), (2, Fact.eq (.bool true))] [] 2 (by kernel_rfl) (by kernel_rfl) (by kernel_rfl) (Nat.le_of_ble_eq_true rfl) (by kernel_rfl) rfl rfl ?_ ?_
  · refine fcs ⟨Ob.new_ (ob_call0 12 70 _ rfl rfl (.inl rfl) (by kernel_rfl) w_awake) (by kernel_rfl), ?_⟩
    refine fcs ⟨Ob.new_ (ob_copy 70 2 (.inr rfl) rfl (.inl rfl) (by kernel_rfl) rfl) (by kernel_rfl), ?_⟩
    exact fnl
  intro a10 w10 st10 hbr10 hfr
  have hs10 := hbr10.size
  have hb := up hb hbr10
  have st : St 110 [(1, Fact.cell b1 (Con.par n m s (Con.dg xs) (Con.dg ys))), (2, Fact.eq (.bool true))] a10 w10 := st10.to (fcs ⟨st10.at_ 1, fcs ⟨st10.at_ 2, fnl⟩⟩)
  clear st10 hbr10 hfr
  refine wpList_nil ?_
  refine then_normal ?_
  refine wp_ret ?_
  exact sym_ret1 rfl st.defers (resAt_tmp st 2) hb (fun _ h => h)
set_option maxRecDepth 100000 in
theorem law_makes_d1 (n m : Int) (h : -9223372036854775808 ≤ n ∧ n ≤ 9223372036854775807) (h2 : -9223372036854775808 ≤ m ∧ m ≤ 9223372036854775807) (hm : Int.natAbs m = 0) (s : Bool) (xs ys : List Nat) (hx : decide ((xs.length : Int) > 12) = false) (hy : decide ((ys.length : Int) > 12) = false) (tx : decide (Nm.tlen xs = xs.length) = true) (ty : decide (Nm.tlen ys = ys.length) = false) : ∀ v0 w, (Fact.agg (Con.par n m s (Con.dg xs) (Con.dg ys))).holds v0 w → Calls Tryd.prog 3 #[v0] w (Ret (Fact.eq (.bool true)) w) := by
  intro v0 w hv0
  refine sym_calls 110 [(0, Fact.agg (Con.par n m s (Con.dg xs) (Con.dg ys)))] Tryd.func3 rfl rfl (Nat.le_of_ble_eq_true rfl) (fcs ⟨⟨Nat.le_of_ble_eq_true rfl, hv0⟩, fnl⟩) fun a st => ?_
  have hb := Below.refl w.heap.size w
  refine wp_seq ?_
  refine sym_region st [(1, Fact.var' (Con.par n m s (Con.dg xs) (Con.dg ys))), (2, Fact.eq (.bool false))] [1] 2 (by kernel_rfl) (by kernel_rfl) (by kernel_rfl) (Nat.le_of_ble_eq_true rfl) (by kernel_rfl) rfl rfl ?_ ?_
  · refine fcs ⟨obn_box 26 0 1 _ (Con.par n m s (Con.dg xs) (Con.dg ys)) rfl rfl rfl (by kernel_rfl) rfl rfl, ?_⟩
    refine fcs ⟨Ob.new_ (ob_const (.bool false) 2 (.inr rfl) rfl (.inl rfl) rfl) (by kernel_rfl), ?_⟩
    exact fnl
  intro a1 w1 st1 hbr1 hfr
  have hs1 := hbr1.size
  have hb := up hb hbr1
  obtain ⟨b1, c1⟩ := (show (Fact.var' (Con.par n m s (Con.dg xs) (Con.dg ys))).holds _ _ from st1.at_ 1)
  have g1 := hfr.ge (s := 1) rfl c1.1
  have st : St 110 [(1, Fact.cell b1 (Con.par n m s (Con.dg xs) (Con.dg ys))), (2, Fact.eq (.bool false))] a1 w1 := st1.to (fcs ⟨c1, fcs ⟨st1.at_ 2, fnl⟩⟩)
  clear st1 hbr1 hfr c1
  refine wpList_nil ?_
  refine then_normal ?_
  refine wp_seq ?_
  refine sym_region st [(12, Fact.ptr (Con.int n)), (13, Fact.eq (.int .i64 n)), (14, Fact.ptr (Con.int m)), (15, Fact.eq (.int .i64 m)), (16, Fact.two (Fact.agg (Con.tri 1 1 false 0 0)) (Fact.eq (.int .i64 8))), (11, Fact.two (Fact.agg (Con.tri 1 1 false 0 0)) (Fact.eq (.int .i64 8))), (17, Fact.agg (Con.tri 1 1 false 0 0)), (18, Fact.eq (.int .i64 8)), (3, Fact.var' (Con.raw 3))] [3] 9 (by kernel_rfl) (by kernel_rfl) (by kernel_rfl) (Nat.le_of_ble_eq_true rfl) (by kernel_rfl) rfl rfl ?_ ?_
  · refine fcs ⟨Ob.new_ (ob_addr 26 0 1 12 0 (Con.par n m s (Con.dg xs) (Con.dg ys)) (Con.int n) rfl rfl (.inl rfl) (by kernel_rfl) points_cell rfl (Con.par_0 n m s _ _) fieldP_0) (by kernel_rfl), ?_⟩
    refine fcs ⟨Ob.new_ (ob_readi 12 13 n rfl rfl (.inl rfl) (by kernel_rfl) points_ptr rfl) (by kernel_rfl), ?_⟩
    refine fcs ⟨Ob.new_ (ob_addr 26 1 1 14 1 (Con.par n m s (Con.dg xs) (Con.dg ys)) (Con.int m) rfl rfl (.inl rfl) (by kernel_rfl) points_cell rfl (Con.par_1 n m s _ _) fieldP_1) (by kernel_rfl), ?_⟩
    refine fcs ⟨Ob.new_ (ob_readi 14 15 m rfl rfl (.inl rfl) (by kernel_rfl) points_ptr rfl) (by kernel_rfl), ?_⟩
    refine fcs ⟨Ob.new_ (ob_call2 6 13 15 16 _ rfl rfl (.inl rfl) (by kernel_rfl) (by kernel_rfl) (by kernel_rfl) (q_ratio0 n m h h2 hm)) (by kernel_rfl), ?_⟩
    refine fcs ⟨Ob.new_ (ob_copy 16 11 (.inl rfl) rfl (.inl rfl) (by kernel_rfl) rfl) (by kernel_rfl), ?_⟩
    refine fcs ⟨Ob.new_ (ob_fst 11 17 (Fact.agg (Con.tri 1 1 false 0 0)) (Fact.eq (.int .i64 8)) rfl rfl (.inl rfl) (by kernel_rfl) rfl rfl) (by kernel_rfl), ?_⟩
    refine fcs ⟨Ob.new_ (ob_snd 11 18 (Fact.agg (Con.tri 1 1 false 0 0)) (Fact.eq (.int .i64 8)) rfl rfl (.inl rfl) (by kernel_rfl) rfl rfl) (by kernel_rfl), ?_⟩
    refine fcs ⟨obn_new 28 3 _ [.bool false, .slice none 0 0, .slice none 0 0] rfl rfl rfl rfl rfl alloc26, ?_⟩
    exact fnl
  intro a2 w2 st2 hbr2 hfr
  have hs2 := hbr2.size
  have hb := up hb hbr2
  obtain ⟨b3, c3⟩ := (show (Fact.var' (Con.raw 3)).holds _ _ from st2.at_ 3)
  have g3 := hfr.ge (s := 3) rfl c3.1
  have st : St 110 [(1, Fact.cell b1 (Con.par n m s (Con.dg xs) (Con.dg ys))), (2, Fact.eq (.bool false)), (17, Fact.agg (Con.tri 1 1 false 0 0)), (18, Fact.eq (.int .i64 8)), (3, Fact.cell b3 (Con.raw 3))] a2 w2 := st2.to (fcs ⟨st2.at_ 1, fcs ⟨st2.at_ 2, fcs ⟨st2.at_ 17, fcs ⟨st2.at_ 18, fcs ⟨c3, fnl⟩⟩⟩⟩⟩)
  clear st2 hbr2 hfr c3
  refine sym_store st 28 3 17 b3 (Con.raw 3) (Con.tri 1 1 false 0 0) [(1, Fact.cell b1 (Con.par n m s (Con.dg xs) (Con.dg ys))), (2, Fact.eq (.bool false)), (18, Fact.eq (.int .i64 8)), (3, Fact.cell b3 (Con.tri 1 1 false 0 0))] rfl rfl rfl rfl rfl rfl info26 ?_ ?_
  · exact fcs ⟨.inr ⟨rfl, safe_cell _ (by omega)⟩, fcs ⟨.inr ⟨rfl, safe_eq _ _⟩, fcs ⟨.inr ⟨rfl, safe_eq _ _⟩, fcs ⟨.inl rfl, fnl⟩⟩⟩⟩
  clear st; intro w3 hB hsz3 st
  have hb := hB _ _ hb (by omega) (by omega)
  clear hB
  refine sym_op st 4 (Fact.eq (.int .i64 8)) rfl (Nat.le_of_ble_eq_true rfl) rfl rfl (by kernel_rfl) (ob_copy 18 4 (.inr rfl) rfl (.inl rfl) (by kernel_rfl) rfl) ?_
  clear st; intro a4 w4 hbr st; have hs4 := hbr.size; have hb := up hb hbr; clear hbr
  refine wpList_nil ?_
  refine then_normal ?_
  refine wp_seq ?_
  refine sym_region st [(20, Fact.ptr (Con.int n)), (21, Fact.eq (.int .i64 n)), (22, Fact.ptr (Con.int m)), (23, Fact.eq (.int .i64 m)), (24, Fact.two (Fact.agg (Con.tri 1 1 false 0 0)) (Fact.eq (.int .i64 8))), (19, Fact.two (Fact.agg (Con.tri 1 1 false 0 0)) (Fact.eq (.int .i64 8))), (25, Fact.agg (Con.tri 1 1 false 0 0)), (26, Fact.eq (.int .i64 8)), (5, Fact.var' (Con.raw 3))] [5] 9 (by kernel_rfl) (by kernel_rfl) (by kernel_rfl) (Nat.le_of_ble_eq_true rfl) (by kernel_rfl) rfl rfl ?_ ?_
  · refine fcs ⟨Ob.new_ (ob_addr 26 0 1 20 0 (Con.par n m s (Con.dg xs) (Con.dg ys)) (Con.int n) rfl rfl (.inl rfl) (by kernel_rfl) points_cell rfl (Con.par_0 n m s _ _) fieldP_0) (by kernel_rfl), ?_⟩
    refine fcs ⟨Ob.new_ (ob_readi 20 21 n rfl rfl (.inl rfl) (by kernel_rfl) points_ptr rfl) (by kernel_rfl), ?_⟩
    refine fcs ⟨Ob.new_ (ob_addr 26 1 1 22 1 (Con.par n m s (Con.dg xs) (Con.dg ys)) (Con.int m) rfl rfl (.inl rfl) (by kernel_rfl) points_cell rfl (Con.par_1 n m s _ _) fieldP_1) (by kernel_rfl), ?_⟩
    refine fcs ⟨Ob.new_ (ob_readi 22 23 m rfl rfl (.inl rfl) (by kernel_rfl) points_ptr rfl) (by kernel_rfl), ?_⟩
    refine fcs ⟨Ob.new_ (ob_call2 7 21 23 24 _ rfl rfl (.inl rfl) (by kernel_rfl) (by kernel_rfl) (by kernel_rfl) (z_ratio0 n m h h2 hm)) (by kernel_rfl), ?_⟩
    refine fcs ⟨Ob.new_ (ob_copy 24 19 (.inl rfl) rfl (.inl rfl) (by kernel_rfl) rfl) (by kernel_rfl), ?_⟩
    refine fcs ⟨Ob.new_ (ob_fst 19 25 (Fact.agg (Con.tri 1 1 false 0 0)) (Fact.eq (.int .i64 8)) rfl rfl (.inl rfl) (by kernel_rfl) rfl rfl) (by kernel_rfl), ?_⟩
    refine fcs ⟨Ob.new_ (ob_snd 19 26 (Fact.agg (Con.tri 1 1 false 0 0)) (Fact.eq (.int .i64 8)) rfl rfl (.inl rfl) (by kernel_rfl) rfl rfl) (by kernel_rfl), ?_⟩
    refine fcs ⟨obn_new 28 5 _ [.bool false, .slice none 0 0, .slice none 0 0] rfl rfl rfl rfl rfl alloc26, ?_⟩
    exact fnl
  intro a5 w5 st5 hbr5 hfr
  have hs5 := hbr5.size
  have hb := up hb hbr5
  obtain ⟨b5, c5⟩ := (show (Fact.var' (Con.raw 3)).holds _ _ from st5.at_ 5)
  have g5 := hfr.ge (s := 5) rfl c5.1
  have st : St 110 [(1, Fact.cell b1 (Con.par n m s (Con.dg xs) (Con.dg ys))), (2, Fact.eq (.bool false)), (3, Fact.cell b3 (Con.tri 1 1 false 0 0)), (4, Fact.eq (.int .i64 8)), (25, Fact.agg (Con.tri 1 1 false 0 0)), (26, Fact.eq (.int .i64 8)), (5, Fact.cell b5 (Con.raw 3))] a5 w5 := st5.to (fcs ⟨st5.at_ 1, fcs ⟨st5.at_ 2, fcs ⟨st5.at_ 3, fcs ⟨st5.at_ 4, fcs ⟨st5.at_ 25, fcs ⟨st5.at_ 26, fcs ⟨c5, fnl⟩⟩⟩⟩⟩⟩⟩)
  clear st5 hbr5 hfr c5
  refine sym_store st 28 5 25 b5 (Con.raw 3) (Con.tri 1 1 false 0 0) [(1, Fact.cell b1 (Con.par n m s (Con.dg xs) (Con.dg ys))), (2, Fact.eq (.bool false)), (3, Fact.cell b3 (Con.tri 1 1 false 0 0)), (4, Fact.eq (.int .i64 8)), (26, Fact.eq (.int .i64 8)), (5, Fact.cell b5 (Con.tri 1 1 false 0 0))] rfl rfl rfl rfl rfl rfl info26 ?_ ?_
  · exact fcs ⟨.inr ⟨rfl, safe_cell _ (by omega)⟩, fcs ⟨.inr ⟨rfl, safe_eq _ _⟩, fcs ⟨.inr ⟨rfl, safe_cell _ (by omega)⟩, fcs ⟨.inr ⟨rfl, safe_eq _ _⟩, fcs ⟨.inr ⟨rfl, safe_eq _ _⟩, fcs ⟨.inl rfl, fnl⟩⟩⟩⟩⟩⟩
  clear st; intro w6 hB hsz6 st
  have hb := hB _ _ hb (by omega) (by omega)
  clear hB
  refine sym_op st 6 (Fact.eq (.int .i64 8)) rfl (Nat.le_of_ble_eq_true rfl) rfl rfl (by kernel_rfl) (ob_copy 26 6 (.inr rfl) rfl (.inl rfl) (by kernel_rfl) rfl) ?_
  clear st; intro a7 w7 hbr st; have hs7 := hbr.size; have hb := up hb hbr; clear hbr
  refine wpList_nil ?_
  refine then_normal ?_
  refine wp_seq ?_
  refine wp_seq ?_
  refine sym_region st [(27, Fact.eq (.int .i64 8)), (28, Fact.eq (.int .i64 8)), (29, Fact.eq (.bool false)), (30, Fact.eq (.bool false)), (31, Fact.agg (Con.tri 1 1 false 0 0)), (32, Fact.agg (Con.tri 1 1 false 0 0)), (33, Fact.eq (.bool true)), (34, Fact.eq (.bool false)), (35, Fact.eq (.bool false)), (36, Fact.eq (.bool false)), (37, Fact.ptr (Con.int n)), (38, Fact.eq (.int .i64 n)), (39, Fact.agg (Con.fr 2 ((n : Int) : Rat))), (40, Fact.ptr (Con.int n)), (41, Fact.eq (.int .i64 n)), (42, Fact.agg (Con.fr 2 ((n : Int) : Rat))), (43, Fact.eq (.bool true)), (44, Fact.eq (.bool false)), (45, Fact.eq (.bool false))] [] 19 (by kernel_rfl) (by kernel_rfl) (by kernel_rfl) (Nat.le_of_ble_eq_true rfl) (by kernel_rfl) rfl rfl ?_ ?_
  · refine fcs ⟨Ob.new_ (ob_copy 4 27 (.inl rfl) rfl (.inl rfl) (by kernel_rfl) rfl) (by kernel_rfl), ?_⟩
    refine fcs ⟨Ob.new_ (ob_copy 6 28 (.inl rfl) rfl (.inl rfl) (by kernel_rfl) rfl) (by kernel_rfl), ?_⟩
    refine fcs ⟨Ob.new_ (ob_nei 27 28 29 .i64 29 _ 8 8 false rfl rfl rfl (.inl rfl) (by kernel_rfl) (by kernel_rfl) rfl rfl rfl) (by kernel_rfl), ?_⟩
    refine fcs ⟨Ob.new_ (ob_copy 29 30 (.inl rfl) rfl (.inl rfl) (by kernel_rfl) rfl) (by kernel_rfl), ?_⟩
    refine fcs ⟨Ob.new_ (ob_read 28 3 31 (Con.tri 1 1 false 0 0) rfl rfl (.inr ⟨_, _, _, rfl, rfl, by kernel_rfl, by decide, rfl⟩) (by kernel_rfl) points_cell rfl row26 info26) (by kernel_rfl), ?_⟩
    refine fcs ⟨Ob.new_ (ob_read 28 5 32 (Con.tri 1 1 false 0 0) rfl rfl (.inr ⟨_, _, _, rfl, rfl, by kernel_rfl, by decide, rfl⟩) (by kernel_rfl) points_cell rfl row26 info26) (by kernel_rfl), ?_⟩
    refine fcs ⟨Ob.new_ (ob_call2 8 31 32 33 _ rfl rfl (.inr ⟨_, _, _, rfl, rfl, by kernel_rfl, by decide, rfl⟩) (by kernel_rfl) (by kernel_rfl) (by kernel_rfl) (z_same3 1 1 1 1 false 0 0)) (by kernel_rfl), ?_⟩
    refine fcs ⟨Ob.new_ (ob_not 33 34 true false rfl rfl rfl (.inr ⟨_, _, _, rfl, rfl, by kernel_rfl, by decide, rfl⟩) (by kernel_rfl) rfl rfl) (by kernel_rfl), ?_⟩
    refine fcs ⟨Ob.new_ (ob_pick_else 30 34 35 (.bool true) rfl rfl (.inl rfl) (by kernel_rfl) (by kernel_rfl) rfl rfl) (by kernel_rfl), ?_⟩
    refine fcs ⟨Ob.new_ (ob_copy 35 36 (.inl rfl) rfl (.inl rfl) (by kernel_rfl) rfl) (by kernel_rfl), ?_⟩
    refine fcs ⟨Ob.new_ (ob_addr 26 0 1 37 0 (Con.par n m s (Con.dg xs) (Con.dg ys)) (Con.int n) rfl rfl (.inr ⟨_, _, _, rfl, rfl, by kernel_rfl, by decide, rfl⟩) (by kernel_rfl) points_cell rfl (Con.par_0 n m s _ _) fieldP_0) (by kernel_rfl), ?_⟩
    refine fcs ⟨Ob.new_ (ob_readi 37 38 n rfl rfl (.inr ⟨_, _, _, rfl, rfl, by kernel_rfl, by decide, rfl⟩) (by kernel_rfl) points_ptr rfl) (by kernel_rfl), ?_⟩
    refine fcs ⟨Ob.new_ (ob_call1 9 38 39 _ rfl rfl (.inr ⟨_, _, _, rfl, rfl, by kernel_rfl, by decide, rfl⟩) (by kernel_rfl) (by kernel_rfl) (q_int n h)) (by kernel_rfl), ?_⟩
    refine fcs ⟨Ob.new_ (ob_addr 26 0 1 40 0 (Con.par n m s (Con.dg xs) (Con.dg ys)) (Con.int n) rfl rfl (.inr ⟨_, _, _, rfl, rfl, by kernel_rfl, by decide, rfl⟩) (by kernel_rfl) points_cell rfl (Con.par_0 n m s _ _) fieldP_0) (by kernel_rfl), ?_⟩
    refine fcs ⟨Ob.new_ (ob_readi 40 41 n rfl rfl (.inr ⟨_, _, _, rfl, rfl, by kernel_rfl, by decide, rfl⟩) (by kernel_rfl) points_ptr rfl) (by kernel_rfl), ?_⟩
    refine fcs ⟨Ob.new_ (ob_call1 10 41 42 _ rfl rfl (.inr ⟨_, _, _, rfl, rfl, by kernel_rfl, by decide, rfl⟩) (by kernel_rfl) (by kernel_rfl) (z_int2 n h)) (by kernel_rfl), ?_⟩
    refine fcs ⟨Ob.new_ (ob_call2 8 39 42 43 _ rfl rfl (.inr ⟨_, _, _, rfl, rfl, by kernel_rfl, by decide, rfl⟩) (by kernel_rfl) (by kernel_rfl) (by kernel_rfl) (z_same 2 2 ((n : Int) : Rat) ((n : Int) : Rat) true (decide_eq_true rfl))) (by kernel_rfl), ?_⟩
    refine fcs ⟨Ob.new_ (ob_not 43 44 true false rfl rfl rfl (.inr ⟨_, _, _, rfl, rfl, by kernel_rfl, by decide, rfl⟩) (by kernel_rfl) rfl rfl) (by kernel_rfl), ?_⟩
    refine fcs ⟨Ob.new_ (ob_pick_else 36 44 45 (.bool true) rfl rfl (.inl rfl) (by kernel_rfl) (by kernel_rfl) rfl rfl) (by kernel_rfl), ?_⟩
    exact fnl
  intro a8 w8 st8 hbr8 hfr
  have hs8 := hbr8.size
  have hb := up hb hbr8
  have st : St 110 [(1, Fact.cell b1 (Con.par n m s (Con.dg xs) (Con.dg ys))), (2, Fact.eq (.bool false)), (45, Fact.eq (.bool false))] a8 w8 := st8.to (fcs ⟨st8.at_ 1, fcs ⟨st8.at_ 2, fcs ⟨st8.at_ 45, fnl⟩⟩⟩)
  clear st8 hbr8 hfr
  refine wpList_nil ?_
  refine then_normal ?_
  refine wp_cond_false (st.at_ 45) ?_
  refine wp_skip ?_
  refine then_normal ?_
  refine wp_seq ?_
  refine wp_seq ?_
  refine sym_region st [(46, Fact.ptr (Con.dg xs)), (47, Fact.ptr (Con.dg xs)), (48, Fact.rowd xs), (49, Fact.eq (.int .i64 ((xs).length : Int))), (50, Fact.eq (.bool false)), (51, Fact.eq (.bool false)), (52, Fact.ptr (Con.dg ys)), (53, Fact.ptr (Con.dg ys)), (54, Fact.rowd ys), (55, Fact.eq (.int .i64 ((ys).length : Int))), (56, Fact.eq (.bool false)), (57, Fact.eq (.bool false)), (58, Fact.eq (.bool false)), (59, Fact.ptr (Con.dg xs)), (60, Fact.agg (Con.dg xs)), (61, Fact.eq (.bool true)), (62, Fact.eq (.bool false)), (63, Fact.eq (.bool false)), (64, Fact.eq (.bool false)), (65, Fact.ptr (Con.dg ys)), (66, Fact.agg (Con.dg ys)), (67, Fact.eq (.bool false)), (68, Fact.eq (.bool true)), (69, Fact.eq (.bool true))] [] 24 (by kernel_rfl) (by kernel_rfl) (by kernel_rfl) (Nat.le_of_ble_eq_true rfl) (by kernel_rfl) rfl rfl ?_ ?_
  · refine fcs ⟨Ob.new_ (ob_addr 26 3 1 46 3 (Con.par n m s (Con.dg xs) (Con.dg ys)) (Con.dg xs) rfl rfl (.inl rfl) (by kernel_rfl) points_cell rfl (Con.par_3 n m s _ _) fieldP_3) (by kernel_rfl), ?_⟩
    refine fcs ⟨Ob.new_ (ob_addr 24 0 46 47 0 (Con.dg xs) (Con.dg xs) rfl rfl (.inl rfl) (by kernel_rfl) points_ptr rfl (Con.Sub.refl _) field24_0) (by kernel_rfl), ?_⟩
    refine fcs ⟨Ob.new_ (ob_loadrowd 47 48 xs (Con.dg xs) dg_row rfl rfl (.inl rfl) (by kernel_rfl) points_ptr rfl) (by kernel_rfl), ?_⟩
    refine fcs ⟨Ob.new_ (ob_len 48 49 (xs).length 22 rfl (by kernel_rfl) rfl (.inl rfl) (by kernel_rfl) len_rowd rfl) (by kernel_rfl), ?_⟩
    refine fcs ⟨Ob.new_ (ob_gtc 49 50 .i64 3 _ ((xs).length : Int) 12 false hx rfl rfl (.inl rfl) (by kernel_rfl) rfl rfl) (by kernel_rfl), ?_⟩
    refine fcs ⟨Ob.new_ (ob_copy 50 51 (.inl rfl) rfl (.inl rfl) (by kernel_rfl) rfl) (by kernel_rfl), ?_⟩
    refine fcs ⟨Ob.new_ (ob_addr 26 4 1 52 4 (Con.par n m s (Con.dg xs) (Con.dg ys)) (Con.dg ys) rfl rfl (.inr ⟨_, _, _, rfl, rfl, by kernel_rfl, by decide, rfl⟩) (by kernel_rfl) points_cell rfl (Con.par_4d n m s xs ys) fieldP_4) (by kernel_rfl), ?_⟩
    refine fcs ⟨Ob.new_ (ob_addr 24 0 52 53 0 (Con.dg ys) (Con.dg ys) rfl rfl (.inr ⟨_, _, _, rfl, rfl, by kernel_rfl, by decide, rfl⟩) (by kernel_rfl) points_ptr rfl (Con.Sub.refl _) field24_0) (by kernel_rfl), ?_⟩
    refine fcs ⟨Ob.new_ (ob_loadrowd 53 54 ys (Con.dg ys) dg_row rfl rfl (.inr ⟨_, _, _, rfl, rfl, by kernel_rfl, by decide, rfl⟩) (by kernel_rfl) points_ptr rfl) (by kernel_rfl), ?_⟩
    refine fcs ⟨Ob.new_ (ob_len 54 55 (ys).length 22 rfl (by kernel_rfl) rfl (.inr ⟨_, _, _, rfl, rfl, by kernel_rfl, by decide, rfl⟩) (by kernel_rfl) len_rowd rfl) (by kernel_rfl), ?_⟩
    refine fcs ⟨Ob.new_ (ob_gtc 55 56 .i64 3 _ ((ys).length : Int) 12 false hy rfl rfl (.inr ⟨_, _, _, rfl, rfl, by kernel_rfl, by decide, rfl⟩) (by kernel_rfl) rfl rfl) (by kernel_rfl), ?_⟩
    refine fcs ⟨Ob.new_ (ob_pick_else 51 56 57 (.bool true) rfl rfl (.inl rfl) (by kernel_rfl) (by kernel_rfl) rfl rfl) (by kernel_rfl), ?_⟩
    refine fcs ⟨Ob.new_ (ob_copy 57 58 (.inl rfl) rfl (.inl rfl) (by kernel_rfl) rfl) (by kernel_rfl), ?_⟩
    refine fcs ⟨Ob.new_ (ob_addr 26 3 1 59 3 (Con.par n m s (Con.dg xs) (Con.dg ys)) (Con.dg xs) rfl rfl (.inr ⟨_, _, _, rfl, rfl, by kernel_rfl, by decide, rfl⟩) (by kernel_rfl) points_cell rfl (Con.par_3 n m s _ _) fieldP_3) (by kernel_rfl), ?_⟩
    refine fcs ⟨Ob.new_ (ob_read 24 59 60 (Con.dg xs) rfl rfl (.inr ⟨_, _, _, rfl, rfl, by kernel_rfl, by decide, rfl⟩) (by kernel_rfl) points_ptr rfl row24 info24) (by kernel_rfl), ?_⟩
    refine fcs ⟨Ob.new_ (ob_call1 11 60 61 _ rfl rfl (.inr ⟨_, _, _, rfl, rfl, by kernel_rfl, by decide, rfl⟩) (by kernel_rfl) (by kernel_rfl) (d_valid xs true tx)) (by kernel_rfl), ?_⟩
    refine fcs ⟨Ob.new_ (ob_not 61 62 true false rfl rfl rfl (.inr ⟨_, _, _, rfl, rfl, by kernel_rfl, by decide, rfl⟩) (by kernel_rfl) rfl rfl) (by kernel_rfl), ?_⟩
    refine fcs ⟨Ob.new_ (ob_pick_else 58 62 63 (.bool true) rfl rfl (.inl rfl) (by kernel_rfl) (by kernel_rfl) rfl rfl) (by kernel_rfl), ?_⟩
    refine fcs ⟨Ob.new_ (ob_copy 63 64 (.inl rfl) rfl (.inl rfl) (by kernel_rfl) rfl) (by kernel_rfl), ?_⟩
    refine fcs ⟨Ob.new_ (ob_addr 26 4 1 65 4 (Con.par n m s (Con.dg xs) (Con.dg ys)) (Con.dg ys) rfl rfl (.inr ⟨_, _, _, rfl, rfl, by kernel_rfl, by decide, rfl⟩) (by kernel_rfl) points_cell rfl (Con.par_4d n m s xs ys) fieldP_4) (by kernel_rfl), ?_⟩
    refine fcs ⟨Ob.new_ (ob_read 24 65 66 (Con.dg ys) rfl rfl (.inr ⟨_, _, _, rfl, rfl, by kernel_rfl, by decide, rfl⟩) (by kernel_rfl) points_ptr rfl row24 info24) (by kernel_rfl), ?_⟩
    refine fcs ⟨Ob.new_ (ob_call1 11 66 67 _ rfl rfl (.inr ⟨_, _, _, rfl, rfl, by kernel_rfl, by decide, rfl⟩) (by kernel_rfl) (by kernel_rfl) (d_valid ys false ty)) (by kernel_rfl), ?_⟩
    refine fcs ⟨Ob.new_ (ob_not 67 68 false true rfl rfl rfl (.inr ⟨_, _, _, rfl, rfl, by kernel_rfl, by decide, rfl⟩) (by kernel_rfl) rfl rfl) (by kernel_rfl), ?_⟩
    refine fcs ⟨Ob.new_ (ob_pick_else 64 68 69 (.bool true) rfl rfl (.inl rfl) (by kernel_rfl) (by kernel_rfl) rfl rfl) (by kernel_rfl), ?_⟩
    exact fnl
  intro a9 w9 st9 hbr9 hfr
  have hs9 := hbr9.size
  have hb := up hb hbr9
  have st : St 110 [(1, Fact.cell b1 (Con.par n m s (Con.dg xs) (Con.dg ys))), (2, Fact.eq (.bool false)), (69, Fact.eq (.bool true))] a9 w9 := st9.to (fcs ⟨st9.at_ 1, fcs ⟨st9.at_ 2, fcs ⟨st9.at_ 69, fnl⟩⟩⟩)
  clear st9 hbr9 hfr
  refine wpList_nil ?_
  refine then_normal ?_
  refine wp_cond_true (st.at_ 69) ?_
  refine wp_seq ?_
  have st := st.to (ks' := [(1, Fact.cell b1 (Con.par n m s (Con.dg xs) (Con.dg ys))), (69, Fact.eq (.bool true))]) (fcs ⟨st.at_ 1, fcs ⟨st.at_ 69, fnl⟩⟩)
  refine sym_region st [(70, Fact.eq (.bool true)), (2, Fact.eq (.bool true))] [] 2 (by kernel_rfl) (by kernel_rfl) (by kernel_rfl) (Nat.le_of_ble_eq_true rfl) (by kernel_rfl) rfl rfl ?_ ?_
  · refine fcs ⟨Ob.new_ (ob_call0 12 70 _ rfl rfl (.inl rfl) (by kernel_rfl) w_awake) (by kernel_rfl), ?_⟩
    refine fcs ⟨Ob.new_ (ob_copy 70 2 (.inr rfl) rfl (.inl rfl) (by kernel_rfl) rfl) (by kernel_rfl), ?_⟩
    exact fnl
  intro a10 w10 st10 hbr10 hfr
  have hs10 := hbr10.size
  have hb := up hb hbr10
  have st : St 110 [(1, Fact.cell b1 (Con.par n m s (Con.dg xs) (Con.dg ys))), (2, Fact.eq (.bool true))] a10 w10 := st10.to (fcs ⟨st10.at_ 1, fcs ⟨st10.at_ 2, fnl⟩⟩)
  clear st10 hbr10 hfr
  refine wpList_nil ?_
  refine then_normal ?_
  refine wp_ret ?_
  exact sym_ret1 rfl st.defers (resAt_tmp st 2) hb (fun _ h => h)
set_option maxRecDepth 100000 in
theorem law_makes_e1 (n m : Int) (h : -9223372036854775808 ≤ n ∧ n ≤ 9223372036854775807) (h2 : -9223372036854775808 ≤ m ∧ m ≤ 9223372036854775807) (hm : Int.natAbs m = 0) (s : Bool) (p q : Nat) (zp : Nm.Sz 12 p) (zq : Nm.Sz 12 q) (hq : q = 0) : ∀ v0 w, (Fact.agg (Con.par n m s (Con.nn 12 p) (Con.nn 12 q))).holds v0 w → Calls Tryd.prog 3 #[v0] w (Ret (Fact.eq (.bool true)) w) := by
  intro v0 w hv0
  refine sym_calls 110 [(0, Fact.agg (Con.par n m s (Con.nn 12 p) (Con.nn 12 q)))] Tryd.func3 rfl rfl (Nat.le_of_ble_eq_true rfl) (fcs ⟨⟨Nat.le_of_ble_eq_true rfl, hv0⟩, fnl⟩) fun a st => ?_
  have hb := Below.refl w.heap.size w
  refine wp_seq ?_
  refine sym_region st [(1, Fact.var' (Con.par n m s (Con.nn 12 p) (Con.nn 12 q))), (2, Fact.eq (.bool false))] [1] 2 (by kernel_rfl) (by kernel_rfl) (by kernel_rfl) (Nat.le_of_ble_eq_true rfl) (by kernel_rfl) rfl rfl ?_ ?_
  · refine fcs ⟨obn_box 26 0 1 _ (Con.par n m s (Con.nn 12 p) (Con.nn 12 q)) rfl rfl rfl (by kernel_rfl) rfl rfl, ?_⟩
    refine fcs ⟨Ob.new_ (ob_const (.bool false) 2 (.inr rfl) rfl (.inl rfl) rfl) (by kernel_rfl), ?_⟩
    exact fnl
  intro a1 w1 st1 hbr1 hfr
  have hs1 := hbr1.size
  have hb := up hb hbr1
  obtain ⟨b1, c1⟩ := (show (Fact.var' (Con.par n m s (Con.nn 12 p) (Con.nn 12 q))).holds _ _ from st1.at_ 1)
  have g1 := hfr.ge (s := 1) rfl c1.1
  have st : St 110 [(1, Fact.cell b1 (Con.par n m s (Con.nn 12 p) (Con.nn 12 q))), (2, Fact.eq (.bool false))] a1 w1 := st1.to (fcs ⟨c1, fcs ⟨st1.at_ 2, fnl⟩⟩)
  clear st1 hbr1 hfr c1
  refine wpList_nil ?_
  refine then_normal ?_
  refine wp_seq ?_
  refine sym_region st [(12, Fact.ptr (Con.int n)), (13, Fact.eq (.int .i64 n)), (14, Fact.ptr (Con.int m)), (15, Fact.eq (.int .i64 m)), (16, Fact.two (Fact.agg (Con.tri 1 1 false 0 0)) (Fact.eq (.int .i64 8))), (11, Fact.two (Fact.agg (Con.tri 1 1 false 0 0)) (Fact.eq (.int .i64 8))), (17, Fact.agg (Con.tri 1 1 false 0 0)), (18, Fact.eq (.int .i64 8)), (3, Fact.var' (Con.raw 3))] [3] 9 (by kernel_rfl) (by kernel_rfl) (by kernel_rfl) (Nat.le_of_ble_eq_true rfl) (by kernel_rfl) rfl rfl ?_ ?_
  · refine fcs ⟨Ob.new_ (ob_addr 26 0 1 12 0 (Con.par n m s (Con.nn 12 p) (Con.nn 12 q)) (Con.int n) rfl rfl (.inl rfl) (by kernel_rfl) points_cell rfl (Con.par_0 n m s _ _) fieldP_0) (by kernel_rfl), ?_⟩
    refine fcs ⟨Ob.new_ (ob_readi 12 13 n rfl rfl (.inl rfl) (by kernel_rfl) points_ptr rfl) (by kernel_rfl), ?_⟩
    refine fcs ⟨Ob.new_ (ob_addr 26 1 1 14 1 (Con.par n m s (Con.nn 12 p) (Con.nn 12 q)) (Con.int m) rfl rfl (.inl rfl) (by kernel_rfl) points_cell rfl (Con.par_1 n m s _ _) fieldP_1) (by kernel_rfl), ?_⟩
    refine fcs ⟨Ob.new_ (ob_readi 14 15 m rfl rfl (.inl rfl) (by kernel_rfl) points_ptr rfl) (by kernel_rfl), ?_⟩
    refine fcs ⟨Ob.new_ (ob_call2 6 13 15 16 _ rfl rfl (.inl rfl) (by kernel_rfl) (by kernel_rfl) (by kernel_rfl) (q_ratio0 n m h h2 hm)) (by kernel_rfl), ?_⟩
    refine fcs ⟨Ob.new_ (ob_copy 16 11 (.inl rfl) rfl (.inl rfl) (by kernel_rfl) rfl) (by kernel_rfl), ?_⟩
    refine fcs ⟨Ob.new_ (ob_fst 11 17 (Fact.agg (Con.tri 1 1 false 0 0)) (Fact.eq (.int .i64 8)) rfl rfl (.inl rfl) (by kernel_rfl) rfl rfl) (by kernel_rfl), ?_⟩
    refine fcs ⟨Ob.new_ (ob_snd 11 18 (Fact.agg (Con.tri 1 1 false 0 0)) (Fact.eq (.int .i64 8)) rfl rfl (.inl rfl) (by kernel_rfl) rfl rfl) (by kernel_rfl), ?_⟩
    refine fcs ⟨obn_new 28 3 _ [.bool false, .slice none 0 0, .slice none 0 0] rfl rfl rfl rfl rfl alloc26, ?_⟩
    exact fnl
  intro a2 w2 st2 hbr2 hfr
  have hs2 := hbr2.size
  have hb := up hb hbr2
  obtain ⟨b3, c3⟩ := (show (Fact.var' (Con.raw 3)).holds _ _ from st2.at_ 3)
  have g3 := hfr.ge (s := 3) rfl c3.1
  have st : St 110 [(1, Fact.cell b1 (Con.par n m s (Con.nn 12 p) (Con.nn 12 q))), (2, Fact.eq (.bool false)), (17, Fact.agg (Con.tri 1 1 false 0 0)), (18, Fact.eq (.int .i64 8)), (3, Fact.cell b3 (Con.raw 3))] a2 w2 := st2.to (fcs ⟨st2.at_ 1, fcs ⟨st2.at_ 2, fcs ⟨st2.at_ 17, fcs ⟨st2.at_ 18, fcs ⟨c3, fnl⟩⟩⟩⟩⟩)
  clear st2 hbr2 hfr c3
  refine sym_store st 28 3 17 b3 (Con.raw 3) (Con.tri 1 1 false 0 0) [(1, Fact.cell b1 (Con.par n m s (Con.nn 12 p) (Con.nn 12 q))), (2, Fact.eq (.bool false)), (18, Fact.eq (.int .i64 8)), (3, Fact.cell b3 (Con.tri 1 1 false 0 0))] rfl rfl rfl rfl rfl rfl info26 ?_ ?_
  · exact fcs ⟨.inr ⟨rfl, safe_cell _ (by omega)⟩, fcs ⟨.inr ⟨rfl, safe_eq _ _⟩, fcs ⟨.inr ⟨rfl, safe_eq _ _⟩, fcs ⟨.inl rfl, fnl⟩⟩⟩⟩
  clear st; intro w3 hB hsz3 st
  have hb := hB _ _ hb (by omega) (by omega)
  clear hB
  refine sym_op st 4 (Fact.eq (.int .i64 8)) rfl (Nat.le_of_ble_eq_true rfl) rfl rfl (by kernel_rfl) (ob_copy 18 4 (.inr rfl) rfl (.inl rfl) (by kernel_rfl) rfl) ?_
  clear st; intro a4 w4 hbr st; have hs4 := hbr.size; have hb := up hb hbr; clear hbr
  refine wpList_nil ?_
  refine then_normal ?_
  refine wp_seq ?_
  refine sym_region st [(20, Fact.ptr (Con.int n)), (21, Fact.eq (.int .i64 n)), (22, Fact.ptr (Con.int m)), (23, Fact.eq (.int .i64 m)), (24, Fact.two (Fact.agg (Con.tri 1 1 false 0 0)) (Fact.eq (.int .i64 8))), (19, Fact.two (Fact.agg (Con.tri 1 1 false 0 0)) (Fact.eq (.int .i64 8))), (25, Fact.agg (Con.tri 1 1 false 0 0)), (26, Fact.eq (.int .i64 8)), (5, Fact.var' (Con.raw 3))] [5] 9 (by kernel_rfl) (by kernel_rfl) (by kernel_rfl) (Nat.le_of_ble_eq_true rfl) (by kernel_rfl) rfl rfl ?_ ?_
  · refine fcs ⟨Ob.new_ (ob_addr 26 0 1 20 0 (Con.par n m s (Con.nn 12 p) (Con.nn 12 q)) (Con.int n) rfl rfl (.inl rfl) (by kernel_rfl) points_cell rfl (Con.par_0 n m s _ _) fieldP_0) (by kernel_rfl), ?_⟩
    refine fcs ⟨Ob.new_ (ob_readi 20 21 n rfl rfl (.inl rfl) (by kernel_rfl) points_ptr rfl) (by kernel_rfl), ?_⟩
    refine fcs ⟨Ob.new_ (ob_addr 26 1 1 22 1 (Con.par n m s (Con.nn 12 p) (Con.nn 12 q)) (Con.int m) rfl rfl (.inl rfl) (by kernel_rfl) points_cell rfl (Con.par_1 n m s _ _) fieldP_1) (by kernel_rfl), ?_⟩
    refine fcs ⟨Ob.new_ (ob_readi 22 23 m rfl rfl (.inl rfl) (by kernel_rfl) points_ptr rfl) (by kernel_rfl), ?_⟩
    refine fcs ⟨Ob.new_ (ob_call2 7 21 23 24 _ rfl rfl (.inl rfl) (by kernel_rfl) (by kernel_rfl) (by kernel_rfl) (z_ratio0 n m h h2 hm)) (by kernel_rfl), ?_⟩
    refine fcs ⟨Ob.new_ (ob_copy 24 19 (.inl rfl) rfl (.inl rfl) (by kernel_rfl) rfl) (by kernel_rfl), ?_⟩
    refine fcs ⟨Ob.new_ (ob_fst 19 25 (Fact.agg (Con.tri 1 1 false 0 0)) (Fact.eq (.int .i64 8)) rfl rfl (.inl rfl) (by kernel_rfl) rfl rfl) (by kernel_rfl), ?_⟩
    refine fcs ⟨Ob.new_ (ob_snd 19 26 (Fact.agg (Con.tri 1 1 false 0 0)) (Fact.eq (.int .i64 8)) rfl rfl (.inl rfl) (by kernel_rfl) rfl rfl) (by kernel_rfl), ?_⟩
    refine fcs ⟨obn_new 28 5 _ [.bool false, .slice none 0 0, .slice none 0 0] rfl rfl rfl rfl rfl alloc26, ?_⟩
    exact fnl
  intro a5 w5 st5 hbr5 hfr
  have hs5 := hbr5.size
  have hb := up hb hbr5
  obtain ⟨b5, c5⟩ := (show (Fact.var' (Con.raw 3)).holds _ _ from st5.at_ 5)
  have g5 := hfr.ge (s := 5) rfl c5.1
  have st : St 110 [(1, Fact.cell b1 (Con.par n m s (Con.nn 12 p) (Con.nn 12 q))), (2, Fact.eq (.bool false)), (3, Fact.cell b3 (Con.tri 1 1 false 0 0)), (4, Fact.eq (.int .i64 8)), (25, Fact.agg (Con.tri 1 1 false 0 0)), (26, Fact.eq (.int .i64 8)), (5, Fact.cell b5 (Con.raw 3))] a5 w5 := st5.to (fcs ⟨st5.at_ 1, fcs ⟨st5.at_ 2, fcs ⟨st5.at_ 3, fcs ⟨st5.at_ 4, fcs ⟨st5.at_ 25, fcs ⟨st5.at_ 26, fcs ⟨c5, fnl⟩⟩⟩⟩⟩⟩⟩)
  clear st5 hbr5 hfr c5
  refine sym_store st 28 5 25 b5 (Con.raw 3) (Con.tri 1 1 false 0 0) [(1, Fact.cell b1 (Con.par n m s (Con.nn 12 p) (Con.nn 12 q))), (2, Fact.eq (.bool false)), (3, Fact.cell b3 (Con.tri 1 1 false 0 0)), (4, Fact.eq (.int .i64 8)), (26, Fact.eq (.int .i64 8)), (5, Fact.cell b5 (Con.tri 1 1 false 0 0))] rfl rfl rfl rfl rfl rfl info26 ?_ ?_
  · exact fcs ⟨.inr ⟨rfl, safe_cell _ (by omega)⟩, fcs ⟨.inr ⟨rfl, safe_eq _ _⟩, fcs ⟨.inr ⟨rfl, safe_cell _ (by omega)⟩, fcs ⟨.inr ⟨rfl, safe_eq _ _⟩, fcs ⟨.inr ⟨rfl, safe_eq _ _⟩, fcs ⟨.inl rfl, fnl⟩⟩⟩⟩⟩⟩
  clear st; intro w6 hB hsz6 st
  have hb := hB _ _ hb (by omega) (by omega)
  clear hB
  refine sym_op st 6 (Fact.eq (.int .i64 8)) rfl (Nat.le_of_ble_eq_true rfl) rfl rfl (by kernel_rfl) (ob_copy 26 6 (.inr rfl) rfl (.inl rfl) (by kernel_rfl) rfl) ?_
  clear st; intro a7 w7 hbr st; have hs7 := hbr.size; have hb := up hb hbr; clear hbr
  refine wpList_nil ?_
  refine then_normal ?_
  refine wp_seq ?_
  refine wp_seq ?_
  refine sym_region st [(27, Fact.eq (.int .i64 8)), (28, Fact.eq (.int .i64 8)), (29, Fact.eq (.bool false)), (30, Fact.eq (.bool false)), (31, Fact.agg (Con.tri 1 1 false 0 0)), (32, Fact.agg (Con.tri 1 1 false 0 0)), (33, Fact.eq (.bool true)), (34, Fact.eq (.bool false)), (35, Fact.eq (.bool false)), (36, Fact.eq (.bool false)), (37, Fact.ptr (Con.int n)), (38, Fact.eq (.int .i64 n)), (39, Fact.agg (Con.fr 2 ((n : Int) : Rat))), (40, Fact.ptr (Con.int n)), (41, Fact.eq (.int .i64 n)), (42, Fact.agg (Con.fr 2 ((n : Int) : Rat))), (43, Fact.eq (.bool true)), (44, Fact.eq (.bool false)), (45, Fact.eq (.bool false))] [] 19 (by kernel_rfl) (by kernel_rfl) (by kernel_rfl) (Nat.le_of_ble_eq_true rfl) (by kernel_rfl) rfl rfl ?_ ?_
  · refine fcs ⟨Ob.new_ (ob_copy 4 27 (.inl rfl) rfl (.inl rfl) (by kernel_rfl) rfl) (by kernel_rfl), ?_⟩
    refine fcs ⟨Ob.new_ (ob_copy 6 28 (.inl rfl) rfl (.inl rfl) (by kernel_rfl) rfl) (by kernel_rfl), ?_⟩
    refine fcs ⟨Ob.new_ (ob_nei 27 28 29 .i64 29 _ 8 8 false rfl rfl rfl (.inl rfl) (by kernel_rfl) (by kernel_rfl) rfl rfl rfl) (by kernel_rfl), ?_⟩
    refine fcs ⟨Ob.new_ (ob_copy 29 30 (.inl rfl) rfl (.inl rfl) (by kernel_rfl) rfl) (by kernel_rfl), ?_⟩
    refine fcs ⟨Ob.new_ (ob_read 28 3 31 (Con.tri 1 1 false 0 0) rfl rfl (.inr ⟨_, _, _, rfl, rfl, by kernel_rfl, by decide, rfl⟩) (by kernel_rfl) points_cell rfl row26 info26) (by kernel_rfl), ?_⟩
    refine fcs ⟨Ob.new_ (ob_read 28 5 32 (Con.tri 1 1 false 0 0) rfl rfl (.inr ⟨_, _, _, rfl, rfl, by kernel_rfl, by decide, rfl⟩) (by kernel_rfl) points_cell rfl row26 info26) (by kernel_rfl), ?_⟩
    refine fcs ⟨Ob.new_ (ob_call2 8 31 32 33 _ rfl rfl (.inr ⟨_, _, _, rfl, rfl, by kernel_rfl, by decide, rfl⟩) (by kernel_rfl) (by kernel_rfl) (by kernel_rfl) (z_same3 1 1 1 1 false 0 0)) (by kernel_rfl), ?_⟩
    refine fcs ⟨Ob.new_ (ob_not 33 34 true false rfl rfl rfl (.inr ⟨_, _, _, rfl, rfl, by kernel_rfl, by decide, rfl⟩) (by kernel_rfl) rfl rfl) (by kernel_rfl), ?_⟩
    refine fcs ⟨Ob.new_ (ob_pick_else 30 34 35 (.bool true) rfl rfl (.inl rfl) (by kernel_rfl) (by kernel_rfl) rfl rfl) (by kernel_rfl), ?_⟩
    refine fcs ⟨Ob.new_ (ob_copy 35 36 (.inl rfl) rfl (.inl rfl) (by kernel_rfl) rfl) (by kernel_rfl), ?_⟩
    refine fcs ⟨Ob.new_ (ob_addr 26 0 1 37 0 (Con.par n m s (Con.nn 12 p) (Con.nn 12 q)) (Con.int n) rfl rfl (.inr ⟨_, _, _, rfl, rfl, by kernel_rfl, by decide, rfl⟩) (by kernel_rfl) points_cell rfl (Con.par_0 n m s _ _) fieldP_0) (by kernel_rfl), ?_⟩
    refine fcs ⟨Ob.new_ (ob_readi 37 38 n rfl rfl (.inr ⟨_, _, _, rfl, rfl, by kernel_rfl, by decide, rfl⟩) (by kernel_rfl) points_ptr rfl) (by kernel_rfl), ?_⟩
    refine fcs ⟨Ob.new_ (ob_call1 9 38 39 _ rfl rfl (.inr ⟨_, _, _, rfl, rfl, by kernel_rfl, by decide, rfl⟩) (by kernel_rfl) (by kernel_rfl) (q_int n h)) (by kernel_rfl), ?_⟩
    refine fcs ⟨Ob.new_ (ob_addr 26 0 1 40 0 (Con.par n m s (Con.nn 12 p) (Con.nn 12 q)) (Con.int n) rfl rfl (.inr ⟨_, _, _, rfl, rfl, by kernel_rfl, by decide, rfl⟩) (by kernel_rfl) points_cell rfl (Con.par_0 n m s _ _) fieldP_0) (by kernel_rfl), ?_⟩
    refine fcs ⟨Ob.new_ (ob_readi 40 41 n rfl rfl (.inr ⟨_, _, _, rfl, rfl, by kernel_rfl, by decide, rfl⟩) (by kernel_rfl) points_ptr rfl) (by kernel_rfl), ?_⟩
    refine fcs ⟨Ob.new_ (ob_call1 10 41 42 _ rfl rfl (.inr ⟨_, _, _, rfl, rfl, by kernel_rfl, by decide, rfl⟩) (by kernel_rfl) (by kernel_rfl) (z_int2 n h)) (by kernel_rfl), ?_⟩
    refine fcs ⟨Ob.new_ (ob_call2 8 39 42 43 _ rfl rfl (.inr ⟨_, _, _, rfl, rfl, by kernel_rfl, by decide, rfl⟩) (by kernel_rfl) (by kernel_rfl) (by kernel_rfl) (z_same 2 2 ((n : Int) : Rat) ((n : Int) : Rat) true (decide_eq_true rfl))) (by kernel_rfl), ?_⟩
    refine fcs ⟨Ob.new_ (ob_not 43 44 true false rfl rfl rfl (.inr ⟨_, _, _, rfl, rfl, by kernel_rfl, by decide, rfl⟩) (by kernel_rfl) rfl rfl) (by kernel_rfl), ?_⟩
    refine fcs ⟨Ob.new_ (ob_pick_else 36 44 45 (.bool true) rfl rfl (.inl rfl) (by kernel_rfl) (by kernel_rfl) rfl rfl) (by kernel_rfl), ?_⟩
    exact fnl
  intro a8 w8 st8 hbr8 hfr
  have hs8 := hbr8.size
  have hb := up hb hbr8
  have st : St 110 [(1, Fact.cell b1 (Con.par n m s (Con.nn 12 p) (Con.nn 12 q))), (2, Fact.eq (.bool false)), (45, Fact.eq (.bool false))] a8 w8 := st8.to (fcs ⟨st8.at_ 1, fcs ⟨st8.at_ 2, fcs ⟨st8.at_ 45, fnl⟩⟩⟩)
  clear st8 hbr8 hfr
  refine wpList_nil ?_
  refine then_normal ?_
  refine wp_cond_false (st.at_ 45) ?_
  refine wp_skip ?_
  refine then_normal ?_
  refine wp_seq ?_
  refine wp_seq ?_
  refine sym_region st [(46, Fact.ptr (Con.nn 12 p)), (47, Fact.ptr (Con.nn 12 p)), (48, Fact.rown 12 p), (49, Fact.eq (.int .i64 ((Nm.nat p).length : Int))), (50, Fact.eq (.bool false)), (51, Fact.eq (.bool false)), (52, Fact.ptr (Con.nn 12 q)), (53, Fact.ptr (Con.nn 12 q)), (54, Fact.rown 12 q), (55, Fact.eq (.int .i64 ((Nm.nat q).length : Int))), (56, Fact.eq (.bool false)), (57, Fact.eq (.bool false)), (58, Fact.eq (.bool false)), (59, Fact.ptr (Con.nn 12 p)), (60, Fact.agg (Con.nn 12 p)), (61, Fact.eq (.bool true)), (62, Fact.eq (.bool false)), (63, Fact.eq (.bool false)), (64, Fact.eq (.bool false)), (65, Fact.ptr (Con.nn 12 q)), (66, Fact.agg (Con.nn 12 q)), (67, Fact.eq (.bool true)), (68, Fact.eq (.bool false)), (69, Fact.eq (.bool false))] [] 24 (by kernel_rfl) (by kernel_rfl) (by kernel_rfl) (Nat.le_of_ble_eq_true rfl) (by kernel_rfl) rfl rfl ?_ ?_
  · refine fcs ⟨Ob.new_ (ob_addr 26 3 1 46 3 (Con.par n m s (Con.nn 12 p) (Con.nn 12 q)) (Con.nn 12 p) rfl rfl (.inl rfl) (by kernel_rfl) points_cell rfl (Con.par_3 n m s _ _) fieldP_3) (by kernel_rfl), ?_⟩
    refine fcs ⟨Ob.new_ (ob_addr 24 0 46 47 0 (Con.nn 12 p) (Con.nn 12 p) rfl rfl (.inl rfl) (by kernel_rfl) points_ptr rfl (Con.Sub.refl _) field24_0) (by kernel_rfl), ?_⟩
    refine fcs ⟨Ob.new_ (ob_loadrow 47 48 12 p rfl rfl (.inl rfl) (by kernel_rfl) points_ptr rfl) (by kernel_rfl), ?_⟩
    refine fcs ⟨Ob.new_ (ob_len 48 49 (Nm.nat p).length 22 rfl (by kernel_rfl) rfl (.inl rfl) (by kernel_rfl) len_rown rfl) (by kernel_rfl), ?_⟩
    refine fcs ⟨Ob.new_ (ob_gtc 49 50 .i64 3 _ ((Nm.nat p).length : Int) 12 false (len_gt zp) rfl rfl (.inl rfl) (by kernel_rfl) rfl rfl) (by kernel_rfl), ?_⟩
    refine fcs ⟨Ob.new_ (ob_copy 50 51 (.inl rfl) rfl (.inl rfl) (by kernel_rfl) rfl) (by kernel_rfl), ?_⟩
    refine fcs ⟨Ob.new_ (ob_addr 26 4 1 52 4 (Con.par n m s (Con.nn 12 p) (Con.nn 12 q)) (Con.nn 12 q) rfl rfl (.inr ⟨_, _, _, rfl, rfl, by kernel_rfl, by decide, rfl⟩) (by kernel_rfl) points_cell rfl (Con.par_4n n m s 12 p 12 q) fieldP_4) (by kernel_rfl), ?_⟩
    refine fcs ⟨Ob.new_ (ob_addr 24 0 52 53 0 (Con.nn 12 q) (Con.nn 12 q) rfl rfl (.inr ⟨_, _, _, rfl, rfl, by kernel_rfl, by decide, rfl⟩) (by kernel_rfl) points_ptr rfl (Con.Sub.refl _) field24_0) (by kernel_rfl), ?_⟩
    refine fcs ⟨Ob.new_ (ob_loadrow 53 54 12 q rfl rfl (.inr ⟨_, _, _, rfl, rfl, by kernel_rfl, by decide, rfl⟩) (by kernel_rfl) points_ptr rfl) (by kernel_rfl), ?_⟩
    refine fcs ⟨Ob.new_ (ob_len 54 55 (Nm.nat q).length 22 rfl (by kernel_rfl) rfl (.inr ⟨_, _, _, rfl, rfl, by kernel_rfl, by decide, rfl⟩) (by kernel_rfl) len_rown rfl) (by kernel_rfl), ?_⟩
    refine fcs ⟨Ob.new_ (ob_gtc 55 56 .i64 3 _ ((Nm.nat q).length : Int) 12 false (len_gt zq) rfl rfl (.inr ⟨_, _, _, rfl, rfl, by kernel_rfl, by decide, rfl⟩) (by kernel_rfl) rfl rfl) (by kernel_rfl), ?_⟩
    refine fcs ⟨Ob.new_ (ob_pick_else 51 56 57 (.bool true) rfl rfl (.inl rfl) (by kernel_rfl) (by kernel_rfl) rfl rfl) (by kernel_rfl), ?_⟩
    refine fcs ⟨Ob.new_ (ob_copy 57 58 (.inl rfl) rfl (.inl rfl) (by kernel_rfl) rfl) (by kernel_rfl), ?_⟩
    refine fcs ⟨Ob.new_ (ob_addr 26 3 1 59 3 (Con.par n m s (Con.nn 12 p) (Con.nn 12 q)) (Con.nn 12 p) rfl rfl (.inr ⟨_, _, _, rfl, rfl, by kernel_rfl, by decide, rfl⟩) (by kernel_rfl) points_cell rfl (Con.par_3 n m s _ _) fieldP_3) (by kernel_rfl), ?_⟩
    refine fcs ⟨Ob.new_ (ob_read 24 59 60 (Con.nn 12 p) rfl rfl (.inr ⟨_, _, _, rfl, rfl, by kernel_rfl, by decide, rfl⟩) (by kernel_rfl) points_ptr rfl row24 info24) (by kernel_rfl), ?_⟩
    refine fcs ⟨Ob.new_ (ob_call1 11 60 61 _ rfl rfl (.inr ⟨_, _, _, rfl, rfl, by kernel_rfl, by decide, rfl⟩) (by kernel_rfl) (by kernel_rfl) (r_valid 12 p)) (by kernel_rfl), ?_⟩
    refine fcs ⟨Ob.new_ (ob_not 61 62 true false rfl rfl rfl (.inr ⟨_, _, _, rfl, rfl, by kernel_rfl, by decide, rfl⟩) (by kernel_rfl) rfl rfl) (by kernel_rfl), ?_⟩
    refine fcs ⟨Ob.new_ (ob_pick_else 58 62 63 (.bool true) rfl rfl (.inl rfl) (by kernel_rfl) (by kernel_rfl) rfl rfl) (by kernel_rfl), ?_⟩
    refine fcs ⟨Ob.new_ (ob_copy 63 64 (.inl rfl) rfl (.inl rfl) (by kernel_rfl) rfl) (by kernel_rfl), ?_⟩
    refine fcs ⟨Ob.new_ (ob_addr 26 4 1 65 4 (Con.par n m s (Con.nn 12 p) (Con.nn 12 q)) (Con.nn 12 q) rfl rfl (.inr ⟨_, _, _, rfl, rfl, by kernel_rfl, by decide, rfl⟩) (by kernel_rfl) points_cell rfl (Con.par_4n n m s 12 p 12 q) fieldP_4) (by kernel_rfl), ?_⟩
    refine fcs ⟨Ob.new_ (ob_read 24 65 66 (Con.nn 12 q) rfl rfl (.inr ⟨_, _, _, rfl, rfl, by kernel_rfl, by decide, rfl⟩) (by kernel_rfl) points_ptr rfl row24 info24) (by kernel_rfl), ?_⟩
    refine fcs ⟨Ob.new_ (ob_call1 11 66 67 _ rfl rfl (.inr ⟨_, _, _, rfl, rfl, by kernel_rfl, by decide, rfl⟩) (by kernel_rfl) (by kernel_rfl) (r_valid 12 q)) (by kernel_rfl), ?_⟩
    refine fcs ⟨Ob.new_ (ob_not 67 68 true false rfl rfl rfl (.inr ⟨_, _, _, rfl, rfl, by kernel_rfl, by decide, rfl⟩) (by kernel_rfl) rfl rfl) (by kernel_rfl), ?_⟩
    refine fcs ⟨Ob.new_ (ob_pick_else 64 68 69 (.bool true) rfl rfl (.inl rfl) (by kernel_rfl) (by kernel_rfl) rfl rfl) (by kernel_rfl), ?_⟩
    exact fnl
  intro a9 w9 st9 hbr9 hfr
  have hs9 := hbr9.size
  have hb := up hb hbr9
  have st : St 110 [(1, Fact.cell b1 (Con.par n m s (Con.nn 12 p) (Con.nn 12 q))), (2, Fact.eq (.bool false)), (69, Fact.eq (.bool false))] a9 w9 := st9.to (fcs ⟨st9.at_ 1, fcs ⟨st9.at_ 2, fcs ⟨st9.at_ 69, fnl⟩⟩⟩)
  clear st9 hbr9 hfr
  refine wpList_nil ?_
  refine then_normal ?_
  refine wp_cond_false (st.at_ 69) ?_
  refine wp_skip ?_
  refine then_normal ?_
  refine wp_seq ?_
  refine sym_region st [(72, Fact.ptr (Con.bool s)), (73, Fact.eq (.bool s)), (74, Fact.ptr (Con.nn 12 p)), (75, Fact.agg (Con.nn 12 p)), (76, Fact.ptr (Con.nn 12 q)), (77, Fact.agg (Con.nn 12 q)), (78, Fact.two (Fact.agg (Con.tri 1 1 false 0 0)) (Fact.eq (.int .i64 8))), (71, Fact.two (Fact.agg (Con.tri 1 1 false 0 0)) (Fact.eq (.int .i64 8))), (79, Fact.agg (Con.tri 1 1 false 0 0)), (80, Fact.eq (.int .i64 8)), (7, Fact.var' (Con.raw 3))] [7] 11 (by kernel_rfl) (by kernel_rfl) (by kernel_rfl) (Nat.le_of_ble_eq_true rfl) (by kernel_rfl) rfl rfl ?_ ?_
  · refine fcs ⟨Ob.new_ (ob_addr 26 2 1 72 2 (Con.par n m s (Con.nn 12 p) (Con.nn 12 q)) (Con.bool s) rfl rfl (.inl rfl) (by kernel_rfl) points_cell rfl (Con.par_2 n m s _ _) fieldP_2) (by kernel_rfl), ?_⟩
    refine fcs ⟨Ob.new_ (ob_readb 72 73 s s rfl rfl rfl (.inl rfl) (by kernel_rfl) points_ptr rfl) (by kernel_rfl), ?_⟩
    refine fcs ⟨Ob.new_ (ob_addr 26 3 1 74 3 (Con.par n m s (Con.nn 12 p) (Con.nn 12 q)) (Con.nn 12 p) rfl rfl (.inl rfl) (by kernel_rfl) points_cell rfl (Con.par_3 n m s _ _) fieldP_3) (by kernel_rfl), ?_⟩
    refine fcs ⟨Ob.new_ (ob_read 24 74 75 (Con.nn 12 p) rfl rfl (.inl rfl) (by kernel_rfl) points_ptr rfl row24 info24) (by kernel_rfl), ?_⟩
    refine fcs ⟨Ob.new_ (ob_addr 26 4 1 76 4 (Con.par n m s (Con.nn 12 p) (Con.nn 12 q)) (Con.nn 12 q) rfl rfl (.inl rfl) (by kernel_rfl) points_cell rfl (Con.par_4n n m s 12 p 12 q) fieldP_4) (by kernel_rfl), ?_⟩
    refine fcs ⟨Ob.new_ (ob_read 24 76 77 (Con.nn 12 q) rfl rfl (.inl rfl) (by kernel_rfl) points_ptr rfl row24 info24) (by kernel_rfl), ?_⟩
    refine fcs ⟨Ob.new_ (ob_call3 13 73 75 77 78 _ rfl rfl (.inl rfl) (by kernel_rfl) (by kernel_rfl) (by kernel_rfl) (by kernel_rfl) (q_make0 12 12 s p q hq)) (by kernel_rfl), ?_⟩
    refine fcs ⟨Ob.new_ (ob_copy 78 71 (.inl rfl) rfl (.inl rfl) (by kernel_rfl) rfl) (by kernel_rfl), ?_⟩
    refine fcs ⟨Ob.new_ (ob_fst 71 79 (Fact.agg (Con.tri 1 1 false 0 0)) (Fact.eq (.int .i64 8)) rfl rfl (.inl rfl) (by kernel_rfl) rfl rfl) (by kernel_rfl), ?_⟩
    refine fcs ⟨Ob.new_ (ob_snd 71 80 (Fact.agg (Con.tri 1 1 false 0 0)) (Fact.eq (.int .i64 8)) rfl rfl (.inl rfl) (by kernel_rfl) rfl rfl) (by kernel_rfl), ?_⟩
    refine fcs ⟨obn_new 28 7 _ [.bool false, .slice none 0 0, .slice none 0 0] rfl rfl rfl rfl rfl alloc26, ?_⟩
    exact fnl
  intro a10 w10 st10 hbr10 hfr
  have hs10 := hbr10.size
  have hb := up hb hbr10
  obtain ⟨b7, c7⟩ := (show (Fact.var' (Con.raw 3)).holds _ _ from st10.at_ 7)
  have g7 := hfr.ge (s := 7) rfl c7.1
  have st : St 110 [(1, Fact.cell b1 (Con.par n m s (Con.nn 12 p) (Con.nn 12 q))), (2, Fact.eq (.bool false)), (79, Fact.agg (Con.tri 1 1 false 0 0)), (80, Fact.eq (.int .i64 8)), (7, Fact.cell b7 (Con.raw 3))] a10 w10 := st10.to (fcs ⟨st10.at_ 1, fcs ⟨st10.at_ 2, fcs ⟨st10.at_ 79, fcs ⟨st10.at_ 80, fcs ⟨c7, fnl⟩⟩⟩⟩⟩)
  clear st10 hbr10 hfr c7
  refine sym_store st 28 7 79 b7 (Con.raw 3) (Con.tri 1 1 false 0 0) [(1, Fact.cell b1 (Con.par n m s (Con.nn 12 p) (Con.nn 12 q))), (2, Fact.eq (.bool false)), (80, Fact.eq (.int .i64 8)), (7, Fact.cell b7 (Con.tri 1 1 false 0 0))] rfl rfl rfl rfl rfl rfl info26 ?_ ?_
  · exact fcs ⟨.inr ⟨rfl, safe_cell _ (by omega)⟩, fcs ⟨.inr ⟨rfl, safe_eq _ _⟩, fcs ⟨.inr ⟨rfl, safe_eq _ _⟩, fcs ⟨.inl rfl, fnl⟩⟩⟩⟩
  clear st; intro w11 hB hsz11 st
  have hb := hB _ _ hb (by omega) (by omega)
  clear hB
  refine sym_op st 8 (Fact.eq (.int .i64 8)) rfl (Nat.le_of_ble_eq_true rfl) rfl rfl (by kernel_rfl) (ob_copy 80 8 (.inr rfl) rfl (.inl rfl) (by kernel_rfl) rfl) ?_
  clear st; intro a12 w12 hbr st; have hs12 := hbr.size; have hb := up hb hbr; clear hbr
  refine wpList_nil ?_
  refine then_normal ?_
  refine wp_seq ?_
  refine sym_region st [(82, Fact.ptr (Con.bool s)), (83, Fact.eq (.bool s)), (84, Fact.ptr (Con.nn 12 p)), (85, Fact.agg (Con.nn 12 p)), (86, Fact.ptr (Con.nn 12 q)), (87, Fact.agg (Con.nn 12 q)), (88, Fact.two (Fact.agg (Con.tri 1 1 false 0 0)) (Fact.eq (.int .i64 8))), (81, Fact.two (Fact.agg (Con.tri 1 1 false 0 0)) (Fact.eq (.int .i64 8))), (89, Fact.agg (Con.tri 1 1 false 0 0)), (90, Fact.eq (.int .i64 8)), (9, Fact.var' (Con.raw 3))] [9] 11 (by kernel_rfl) (by kernel_rfl) (by kernel_rfl) (Nat.le_of_ble_eq_true rfl) (by kernel_rfl) rfl rfl ?_ ?_
  · refine fcs ⟨Ob.new_ (ob_addr 26 2 1 82 2 (Con.par n m s (Con.nn 12 p) (Con.nn 12 q)) (Con.bool s) rfl rfl (.inl rfl) (by kernel_rfl) points_cell rfl (Con.par_2 n m s _ _) fieldP_2) (by kernel_rfl), ?_⟩
    refine fcs ⟨Ob.new_ (ob_readb 82 83 s s rfl rfl rfl (.inl rfl) (by kernel_rfl) points_ptr rfl) (by kernel_rfl), ?_⟩
    refine fcs ⟨Ob.new_ (ob_addr 26 3 1 84 3 (Con.par n m s (Con.nn 12 p) (Con.nn 12 q)) (Con.nn 12 p) rfl rfl (.inl rfl) (by kernel_rfl) points_cell rfl (Con.par_3 n m s _ _) fieldP_3) (by kernel_rfl), ?_⟩
    refine fcs ⟨Ob.new_ (ob_read 24 84 85 (Con.nn 12 p) rfl rfl (.inl rfl) (by kernel_rfl) points_ptr rfl row24 info24) (by kernel_rfl), ?_⟩
    refine fcs ⟨Ob.new_ (ob_addr 26 4 1 86 4 (Con.par n m s (Con.nn 12 p) (Con.nn 12 q)) (Con.nn 12 q) rfl rfl (.inl rfl) (by kernel_rfl) points_cell rfl (Con.par_4n n m s 12 p 12 q) fieldP_4) (by kernel_rfl), ?_⟩
    refine fcs ⟨Ob.new_ (ob_read 24 86 87 (Con.nn 12 q) rfl rfl (.inl rfl) (by kernel_rfl) points_ptr rfl row24 info24) (by kernel_rfl), ?_⟩
    refine fcs ⟨Ob.new_ (ob_call3 14 83 85 87 88 _ rfl rfl (.inl rfl) (by kernel_rfl) (by kernel_rfl) (by kernel_rfl) (by kernel_rfl) (z_make0 12 12 s p q hq)) (by kernel_rfl), ?_⟩
    refine fcs ⟨Ob.new_ (ob_copy 88 81 (.inl rfl) rfl (.inl rfl) (by kernel_rfl) rfl) (by kernel_rfl), ?_⟩
    refine fcs ⟨Ob.new_ (ob_fst 81 89 (Fact.agg (Con.tri 1 1 false 0 0)) (Fact.eq (.int .i64 8)) rfl rfl (.inl rfl) (by kernel_rfl) rfl rfl) (by kernel_rfl), ?_⟩
    refine fcs ⟨Ob.new_ (ob_snd 81 90 (Fact.agg (Con.tri 1 1 false 0 0)) (Fact.eq (.int .i64 8)) rfl rfl (.inl rfl) (by kernel_rfl) rfl rfl) (by kernel_rfl), ?_⟩
    refine fcs ⟨obn_new 28 9 _ [.bool false, .slice none 0 0, .slice none 0 0] rfl rfl rfl rfl rfl alloc26, ?_⟩
    exact fnl
  intro a13 w13 st13 hbr13 hfr
  have hs13 := hbr13.size
  have hb := up hb hbr13
  obtain ⟨b9, c9⟩ := (show (Fact.var' (Con.raw 3)).holds _ _ from st13.at_ 9)
  have g9 := hfr.ge (s := 9) rfl c9.1
  have st : St 110 [(2, Fact.eq (.bool false)), (7, Fact.cell b7 (Con.tri 1 1 false 0 0)), (8, Fact.eq (.int .i64 8)), (89, Fact.agg (Con.tri 1 1 false 0 0)), (90, Fact.eq (.int .i64 8)), (9, Fact.cell b9 (Con.raw 3))] a13 w13 := st13.to (fcs ⟨st13.at_ 2, fcs ⟨st13.at_ 7, fcs ⟨st13.at_ 8, fcs ⟨st13.at_ 89, fcs ⟨st13.at_ 90, fcs ⟨c9, fnl⟩⟩⟩⟩⟩⟩)
  clear st13 hbr13 hfr c9
  refine sym_store st 28 9 89 b9 (Con.raw 3) (Con.tri 1 1 false 0 0) [(2, Fact.eq (.bool false)), (7, Fact.cell b7 (Con.tri 1 1 false 0 0)), (8, Fact.eq (.int .i64 8)), (90, Fact.eq (.int .i64 8)), (9, Fact.cell b9 (Con.tri 1 1 false 0 0))] rfl rfl rfl rfl rfl rfl info26 ?_ ?_
  · exact fcs ⟨.inr ⟨rfl, safe_eq _ _⟩, fcs ⟨.inr ⟨rfl, safe_cell _ (by omega)⟩, fcs ⟨.inr ⟨rfl, safe_eq _ _⟩, fcs ⟨.inr ⟨rfl, safe_eq _ _⟩, fcs ⟨.inl rfl, fnl⟩⟩⟩⟩⟩
  clear st; intro w14 hB hsz14 st
  have hb := hB _ _ hb (by omega) (by omega)
  clear hB
  refine sym_op st 10 (Fact.eq (.int .i64 8)) rfl (Nat.le_of_ble_eq_true rfl) rfl rfl (by kernel_rfl) (ob_copy 90 10 (.inr rfl) rfl (.inl rfl) (by kernel_rfl) rfl) ?_
  clear st; intro a15 w15 hbr st; have hs15 := hbr.size; have hb := up hb hbr; clear hbr
  refine wpList_nil ?_
  refine then_normal ?_
  refine wp_seq ?_
  have st := st.to (ks' := [(7, Fact.cell b7 (Con.tri 1 1 false 0 0)), (8, Fact.eq (.int .i64 8)), (9, Fact.cell b9 (Con.tri 1 1 false 0 0)), (10, Fact.eq (.int .i64 8))]) (fcs ⟨st.at_ 7, fcs ⟨st.at_ 8, fcs ⟨st.at_ 9, fcs ⟨st.at_ 10, fnl⟩⟩⟩⟩)
  refine sym_region st [(91, Fact.eq (.int .i64 8)), (92, Fact.eq (.int .i64 8)), (93, Fact.eq (.bool true)), (94, Fact.eq (.bool true)), (95, Fact.agg (Con.tri 1 1 false 0 0)), (96, Fact.agg (Con.tri 1 1 false 0 0)), (97, Fact.eq (.bool true)), (98, Fact.eq (.bool true)), (99, Fact.eq (.bool true)), (100, Fact.eq (.int .i64 8)), (101, Fact.eq (.bool true)), (102, Fact.eq (.bool true)), (103, Fact.eq undef), (104, Fact.eq undef), (105, Fact.eq (.bool true)), (106, Fact.eq (.bool true)), (107, Fact.eq (.bool true)), (108, Fact.eq (.bool true)), (109, Fact.eq (.bool true)), (2, Fact.eq (.bool true))] [] 20 (by kernel_rfl) (by kernel_rfl) (by kernel_rfl) (Nat.le_of_ble_eq_true rfl) (by kernel_rfl) rfl rfl ?_ ?_
  · refine fcs ⟨Ob.new_ (ob_copy 8 91 (.inl rfl) rfl (.inl rfl) (by kernel_rfl) rfl) (by kernel_rfl), ?_⟩
    refine fcs ⟨Ob.new_ (ob_copy 10 92 (.inl rfl) rfl (.inl rfl) (by kernel_rfl) rfl) (by kernel_rfl), ?_⟩
    refine fcs ⟨Ob.new_ (ob_eqi 91 92 93 .i64 29 _ 8 8 true rfl rfl rfl (.inl rfl) (by kernel_rfl) (by kernel_rfl) rfl rfl rfl) (by kernel_rfl), ?_⟩
    refine fcs ⟨Ob.new_ (ob_copy 93 94 (.inl rfl) rfl (.inl rfl) (by kernel_rfl) rfl) (by kernel_rfl), ?_⟩
    refine fcs ⟨Ob.new_ (ob_read 28 7 95 (Con.tri 1 1 false 0 0) rfl rfl (.inr ⟨_, _, _, rfl, rfl, by kernel_rfl, by decide, rfl⟩) (by kernel_rfl) points_cell rfl row26 info26) (by kernel_rfl), ?_⟩
    refine fcs ⟨Ob.new_ (ob_read 28 9 96 (Con.tri 1 1 false 0 0) rfl rfl (.inr ⟨_, _, _, rfl, rfl, by kernel_rfl, by decide, rfl⟩) (by kernel_rfl) points_cell rfl row26 info26) (by kernel_rfl), ?_⟩
    refine fcs ⟨Ob.new_ (ob_call2 8 95 96 97 _ rfl rfl (.inr ⟨_, _, _, rfl, rfl, by kernel_rfl, by decide, rfl⟩) (by kernel_rfl) (by kernel_rfl) (by kernel_rfl) (z_same3 1 1 1 1 false 0 0)) (by kernel_rfl), ?_⟩
    refine fcs ⟨Ob.new_ (ob_pick 94 97 98 _ rfl rfl (.inl rfl) (by kernel_rfl) (by kernel_rfl) rfl rfl) (by kernel_rfl), ?_⟩
    refine fcs ⟨Ob.new_ (ob_copy 98 99 (.inl rfl) rfl (.inl rfl) (by kernel_rfl) rfl) (by kernel_rfl), ?_⟩
    refine fcs ⟨Ob.new_ (ob_copy 8 100 (.inl rfl) rfl (.inr ⟨_, _, _, rfl, rfl, by kernel_rfl, by decide, rfl⟩) (by kernel_rfl) rfl) (by kernel_rfl), ?_⟩
    refine fcs ⟨Ob.new_ (ob_nec 100 101 .i64 29 _ 8 0 true rfl rfl rfl (.inr ⟨_, _, _, rfl, rfl, by kernel_rfl, by decide, rfl⟩) (by kernel_rfl) rfl rfl) (by kernel_rfl), ?_⟩
    refine fcs ⟨Ob.new_ (ob_copy 101 102 (.inl rfl) rfl (.inr ⟨_, _, _, rfl, rfl, by kernel_rfl, by decide, rfl⟩) (by kernel_rfl) rfl) (by kernel_rfl), ?_⟩
    refine fcs ⟨Ob.new_ (ob_skip 11 102 103 false rfl rfl (by kernel_rfl) (by decide) rfl rfl rfl) (by kernel_rfl), ?_⟩
    refine fcs ⟨Ob.new_ (ob_skip 11 102 104 false rfl rfl (by kernel_rfl) (by decide) rfl rfl rfl) (by kernel_rfl), ?_⟩
    refine fcs ⟨Ob.new_ (ob_pick_or 102 104 105 (.bool true) rfl rfl (.inr ⟨_, _, _, rfl, rfl, by kernel_rfl, by decide, rfl⟩) (by kernel_rfl) rfl rfl) (by kernel_rfl), ?_⟩
    refine fcs ⟨Ob.new_ (ob_pick 99 105 106 _ rfl rfl (.inl rfl) (by kernel_rfl) (by kernel_rfl) rfl rfl) (by kernel_rfl), ?_⟩
    refine fcs ⟨Ob.new_ (ob_copy 106 107 (.inl rfl) rfl (.inl rfl) (by kernel_rfl) rfl) (by kernel_rfl), ?_⟩
    refine fcs ⟨Ob.new_ (ob_call0 12 108 _ rfl rfl (.inr ⟨_, _, _, rfl, rfl, by kernel_rfl, by decide, rfl⟩) (by kernel_rfl) w_awake) (by kernel_rfl), ?_⟩
    refine fcs ⟨Ob.new_ (ob_pick 107 108 109 _ rfl rfl (.inl rfl) (by kernel_rfl) (by kernel_rfl) rfl rfl) (by kernel_rfl), ?_⟩
    refine fcs ⟨Ob.new_ (ob_copy 109 2 (.inr rfl) rfl (.inl rfl) (by kernel_rfl) rfl) (by kernel_rfl), ?_⟩
    exact fnl
  intro a16 w16 st16 hbr16 hfr
  have hs16 := hbr16.size
  have hb := up hb hbr16
  have st : St 110 [(2, Fact.eq (.bool true))] a16 w16 := st16.to (fcs ⟨st16.at_ 2, fnl⟩)
  clear st16 hbr16 hfr
  refine wpList_nil ?_
  refine then_normal ?_
  refine wp_ret ?_
  exact sym_ret1 rfl st.defers (resAt_tmp st 2) hb (fun _ h => h)
set_option maxRecDepth 100000 in
theorem law_makes_f1 (n m : Int) (h : -9223372036854775808 ≤ n ∧ n ≤ 9223372036854775807) (h2 : -9223372036854775808 ≤ m ∧ m ≤ 9223372036854775807) (hm : Int.natAbs m = 0) (s : Bool) (p q : Nat) (zp : Nm.Sz 12 p) (zq : Nm.Sz 12 q) (hq : q ≠ 0) : ∀ v0 w, (Fact.agg (Con.par n m s (Con.nn 12 p) (Con.nn 12 q))).holds v0 w → Calls Tryd.prog 3 #[v0] w (Ret (Fact.eq (.bool true)) w) := by
  intro v0 w hv0
  refine sym_calls 110 [(0, Fact.agg (Con.par n m s (Con.nn 12 p) (Con.nn 12 q)))] Tryd.func3 rfl rfl (Nat.le_of_ble_eq_true rfl) (fcs ⟨⟨Nat.le_of_ble_eq_true rfl, hv0⟩, fnl⟩) fun a st => ?_
  have hb := Below.refl w.heap.size w
  refine wp_seq ?_
  refine sym_region st [(1, Fact.var' (Con.par n m s (Con.nn 12 p) (Con.nn 12 q))), (2, Fact.eq (.bool false))] [1] 2 (by kernel_rfl) (by kernel_rfl) (by kernel_rfl) (Nat.le_of_ble_eq_true rfl) (by kernel_rfl) rfl rfl ?_ ?_
  · refine fcs ⟨obn_box 26 0 1 _ (Con.par n m s (Con.nn 12 p) (Con.nn 12 q)) rfl rfl rfl (by kernel_rfl) rfl rfl, ?_⟩
    refine fcs ⟨Ob.new_ (ob_const (.bool false) 2 (.inr rfl) rfl (.inl rfl) rfl) (by kernel_rfl), ?_⟩
    exact fnl
  intro a1 w1 st1 hbr1 hfr
  have hs1 := hbr1.size
  have hb := up hb hbr1
  obtain ⟨b1, c1⟩ := (show (Fact.var' (Con.par n m s (Con.nn 12 p) (Con.nn 12 q))).holds _ _ from st1.at_ 1)
  have g1 := hfr.ge (s := 1) rfl c1.1
  have st : St 110 [(1, Fact.cell b1 (Con.par n m s (Con.nn 12 p) (Con.nn 12 q))), (2, Fact.eq (.bool false))] a1 w1 := st1.to (fcs ⟨c1, fcs ⟨st1.at_ 2, fnl⟩⟩)
  clear st1 hbr1 hfr c1
  refine wpList_nil ?_
  refine then_normal ?_
  refine wp_seq ?_
  refine sym_region st [(12, Fact.ptr (Con.int n)), (13, Fact.eq (.int .i64 n)), (14, Fact.ptr (Con.int m)), (15, Fact.eq (.int .i64 m)), (16, Fact.two (Fact.agg (Con.tri 1 1 false 0 0)) (Fact.eq (.int .i64 8))), (11, Fact.two (Fact.agg (Con.tri 1 1 false 0 0)) (Fact.eq (.int .i64 8))), (17, Fact.agg (Con.tri 1 1 false 0 0)), (18, Fact.eq (.int .i64 8)), (3, Fact.var' (Con.raw 3))] [3] 9 (by kernel_rfl) (by kernel_rfl) (by kernel_rfl) (Nat.le_of_ble_eq_true rfl) (by kernel_rfl) rfl rfl ?_ ?_
  · refine fcs ⟨Ob.new_ (ob_addr 26 0 1 12 0 (Con.par n m s (Con.nn 12 p) (Con.nn 12 q)) (Con.int n) rfl rfl (.inl rfl) (by kernel_rfl) points_cell rfl (Con.par_0 n m s _ _) fieldP_0) (by kernel_rfl), ?_⟩
    refine fcs ⟨Ob.new_ (ob_readi 12 13 n rfl rfl (.inl rfl) (by kernel_rfl) points_ptr rfl) (by kernel_rfl), ?_⟩
    refine fcs ⟨Ob.new_ (ob_addr 26 1 1 14 1 (Con.par n m s (Con.nn 12 p) (Con.nn 12 q)) (Con.int m) rfl rfl (.inl rfl) (by kernel_rfl) points_cell rfl (Con.par_1 n m s _ _) fieldP_1) (by kernel_rfl), ?_⟩
    refine fcs ⟨Ob.new_ (ob_readi 14 15 m rfl rfl (.inl rfl) (by kernel_rfl) points_ptr rfl) (by kernel_rfl), ?_⟩
    refine fcs ⟨Ob.new_ (ob_call2 6 13 15 16 _ rfl rfl (.inl rfl) (by kernel_rfl) (by kernel_rfl) (by kernel_rfl) (q_ratio0 n m h h2 hm)) (by kernel_rfl), ?_⟩
    refine fcs ⟨Ob.new_ (ob_copy 16 11 (.inl rfl) rfl (.inl rfl) (by kernel_rfl) rfl) (by kernel_rfl), ?_⟩
    refine fcs ⟨Ob.new_ (ob_fst 11 17 (Fact.agg (Con.tri 1 1 false 0 0)) (Fact.eq (.int .i64 8)) rfl rfl (.inl rfl) (by kernel_rfl) rfl rfl) (by kernel_rfl), ?_⟩
    refine fcs ⟨Ob.new_ (ob_snd 11 18 (Fact.agg (Con.tri 1 1 false 0 0)) (Fact.eq (.int .i64 8)) rfl rfl (.inl rfl) (by kernel_rfl) rfl rfl) (by kernel_rfl), ?_⟩
    refine fcs ⟨obn_new 28 3 _ [.bool false, .slice none 0 0, .slice none 0 0] rfl rfl rfl rfl rfl alloc26, ?_⟩
    exact fnl
  intro a2 w2 st2 hbr2 hfr
  have hs2 := hbr2.size
  have hb := up hb hbr2
  obtain ⟨b3, c3⟩ := (show (Fact.var' (Con.raw 3)).holds _ _ from st2.at_ 3)
  have g3 := hfr.ge (s := 3) rfl c3.1
  have st : St 110 [(1, Fact.cell b1 (Con.par n m s (Con.nn 12 p) (Con.nn 12 q))), (2, Fact.eq (.bool false)), (17, Fact.agg (Con.tri 1 1 false 0 0)), (18, Fact.eq (.int .i64 8)), (3, Fact.cell b3 (Con.raw 3))] a2 w2 := st2.to (fcs ⟨st2.at_ 1, fcs ⟨st2.at_ 2, fcs ⟨st2.at_ 17, fcs ⟨st2.at_ 18, fcs ⟨c3, fnl⟩⟩⟩⟩⟩)
  clear st2 hbr2 hfr c3
  refine sym_store st 28 3 17 b3 (Con.raw 3) (Con.tri 1 1 false 0 0) [(1, Fact.cell b1 (Con.par n m s (Con.nn 12 p) (Con.nn 12 q))), (2, Fact.eq (.bool false)), (18, Fact.eq (.int .i64 8)), (3, Fact.cell b3 (Con.tri 1 1 false 0 0))] rfl rfl rfl rfl rfl rfl info26 ?_ ?_
  · exact fcs ⟨.inr ⟨rfl, safe_cell _ (by omega)⟩, fcs ⟨.inr ⟨rfl, safe_eq _ _⟩, fcs ⟨.inr ⟨rfl, safe_eq _ _⟩, fcs ⟨.inl rfl, fnl⟩⟩⟩⟩
  clear st; intro w3 hB hsz3 st
  have hb := hB _ _ hb (by omega) (by omega)
  clear hB
  refine sym_op st 4 (Fact.eq (.int .i64 8)) rfl (Nat.le_of_ble_eq_true rfl) rfl rfl (by kernel_rfl) (ob_copy 18 4 (.inr rfl) rfl (.inl rfl) (by kernel_rfl) rfl) ?_
  clear st; intro a4 w4 hbr st; have hs4 := hbr.size; have hb := up hb hbr; clear hbr
  refine wpList_nil ?_
  refine then_normal ?_
  refine wp_seq ?_
  refine sym_region st [(20, Fact.ptr (Con.int n)), (21, Fact.eq (.int .i64 n)), (22, Fact.ptr (Con.int m)), (23, Fact.eq (.int .i64 m)), (24, Fact.two (Fact.agg (Con.tri 1 1 false 0 0)) (Fact.eq (.int .i64 8))), (19, Fact.two (Fact.agg (Con.tri 1 1 false 0 0)) (Fact.eq (.int .i64 8))), (25, Fact.agg (Con.tri 1 1 false 0 0)), (26, Fact.eq (.int .i64 8)), (5, Fact.var' (Con.raw 3))] [5] 9 (by kernel_rfl) (by kernel_rfl) (by kernel_rfl) (Nat.le_of_ble_eq_true rfl) (by kernel_rfl) rfl rfl ?_ ?_
  · refine fcs ⟨Ob.new_ (ob_addr 26 0 1 20 0 (Con.par n m s (Con.nn 12 p) (Con.nn 12 q)) (Con.int n) rfl rfl (.inl rfl) (by kernel_rfl) points_cell rfl (Con.par_0 n m s _ _) fieldP_0) (by kernel_rfl), ?_⟩
    refine fcs ⟨Ob.new_ (ob_readi 20 21 n rfl rfl (.inl rfl) (by kernel_rfl) points_ptr rfl) (by kernel_rfl), ?_⟩
    refine fcs ⟨Ob.new_ (ob_addr 26 1 1 22 1 (Con.par n m s (Con.nn 12 p) (Con.nn 12 q)) (Con.int m) rfl rfl (.inl rfl) (by kernel_rfl) points_cell rfl (Con.par_1 n m s _ _) fieldP_1) (by kernel_rfl), ?_⟩
    refine fcs ⟨Ob.new_ (ob_readi 22 23 m rfl rfl (.inl rfl) (by kernel_rfl) points_ptr rfl) (by kernel_rfl), ?_⟩
    refine fcs ⟨Ob.new_ (ob_call2 7 21 23 24 _ rfl rfl (.inl rfl) (by kernel_rfl) (by kernel_rfl) (by kernel_rfl) (z_ratio0 n m h h2 hm)) (by kernel_rfl), ?_⟩
    refine fcs ⟨Ob.new_ (ob_copy 24 19 (.inl rfl) rfl (.inl rfl) (by kernel_rfl) rfl) (by kernel_rfl), ?_⟩
    refine fcs ⟨Ob.new_ (ob_fst 19 25 (Fact.agg (Con.tri 1 1 false 0 0)) (Fact.eq (.int .i64 8)) rfl rfl (.inl rfl) (by kernel_rfl) rfl rfl) (by kernel_rfl), ?_⟩
    refine fcs ⟨Ob.new_ (ob_snd 19 26 (Fact.agg (Con.tri 1 1 false 0 0)) (Fact.eq (.int .i64 8)) rfl rfl (.inl rfl) (by kernel_rfl) rfl rfl) (by kernel_rfl), ?_⟩
    refine fcs ⟨obn_new 28 5 _ [.bool false, .slice none 0 0, .slice none 0 0] rfl rfl rfl rfl rfl alloc26, ?_⟩
    exact fnl
  intro a5 w5 st5 hbr5 hfr
  have hs5 := hbr5.size
  have hb := up hb hbr5
  obtain ⟨b5, c5⟩ := (show (Fact.var' (Con.raw 3)).holds _ _ from st5.at_ 5)
  have g5 := hfr.ge (s := 5) rfl c5.1
  have st : St 110 [(1, Fact.cell b1 (Con.par n m s (Con.nn 12 p) (Con.nn 12 q))), (2, Fact.eq (.bool false)), (3, Fact.cell b3 (Con.tri 1 1 false 0 0)), (4, Fact.eq (.int .i64 8)), (25, Fact.agg (Con.tri 1 1 false 0 0)), (26, Fact.eq (.int .i64 8)), (5, Fact.cell b5 (Con.raw 3))] a5 w5 := st5.to (fcs ⟨st5.at_ 1, fcs ⟨st5.at_ 2, fcs ⟨st5.at_ 3, fcs ⟨st5.at_ 4, fcs ⟨st5.at_ 25, fcs ⟨st5.at_ 26, fcs ⟨c5, fnl⟩⟩⟩⟩⟩⟩⟩)
  clear st5 hbr5 hfr c5
  refine sym_store st 28 5 25 b5 (Con.raw 3) (Con.tri 1 1 false 0 0) [(1, Fact.cell b1 (Con.par n m s (Con.nn 12 p) (Con.nn 12 q))), (2, Fact.eq (.bool false)), (3, Fact.cell b3 (Con.tri 1 1 false 0 0)), (4, Fact.eq (.int .i64 8)), (26, Fact.eq (.int .i64 8)), (5, Fact.cell b5 (Con.tri 1 1 false 0 0))] rfl rfl rfl rfl rfl rfl info26 ?_ ?_
  · exact fcs ⟨.inr ⟨rfl, safe_cell _ (by omega)⟩, fcs ⟨.inr ⟨rfl, safe_eq _ _⟩, fcs ⟨.inr ⟨rfl, safe_cell _ (by omega)⟩, fcs ⟨.inr ⟨rfl, safe_eq _ _⟩, fcs ⟨.inr ⟨rfl, safe_eq _ _⟩, fcs ⟨.inl rfl, fnl⟩⟩⟩⟩⟩⟩
  clear st; intro w6 hB hsz6 st
  have hb := hB _ _ hb (by omega) (by omega)
  clear hB
  refine sym_op st 6 (Fact.eq (.int .i64 8)) rfl (Nat.le_of_ble_eq_true rfl) rfl rfl (by kernel_rfl) (ob_copy 26 6 (.inr rfl) rfl (.inl rfl) (by kernel_rfl) rfl) ?_
  clear st; intro a7 w7 hbr st; have hs7 := hbr.size; have hb := up hb hbr; clear hbr
  refine wpList_nil ?_
  refine then_normal ?_
  refine wp_seq ?_
  refine wp_seq ?_
  refine sym_region st [(27, Fact.eq (.int .i64 8)), (28, Fact.eq (.int .i64 8)), (29, Fact.eq (.bool false)), (30, Fact.eq (.bool false)), (31, Fact.agg (Con.tri 1 1 false 0 0)), (32, Fact.agg (Con.tri 1 1 false 0 0)), (33, Fact.eq (.bool true)), (34, Fact.eq (.bool false)), (35, Fact.eq (.bool false)), (36, Fact.eq (.bool false)), (37, Fact.ptr (Con.int n)), (38, Fact.eq (.int .i64 n)), (39, Fact.agg (Con.fr 2 ((n : Int) : Rat))), (40, Fact.ptr (Con.int n)), (41, Fact.eq (.int .i64 n)), (42, Fact.agg (Con.fr 2 ((n : Int) : Rat))), (43, Fact.eq (.bool true)), (44, Fact.eq (.bool false)), (45, Fact.eq (.bool false))] [] 19 (by kernel_rfl) (by kernel_rfl) (by kernel_rfl) (Nat.le_of_ble_eq_true rfl) (by kernel_rfl) rfl rfl ?_ ?_
  · refine fcs ⟨Ob.new_ (ob_copy 4 27 (.inl rfl) rfl (.inl rfl) (by kernel_rfl) rfl) (by kernel_rfl), ?_⟩
    refine fcs ⟨Ob.new_ (ob_copy 6 28 (.inl rfl) rfl (.inl rfl) (by kernel_rfl) rfl) (by kernel_rfl), ?_⟩
    refine fcs ⟨Ob.new_ (ob_nei 27 28 29 .i64 29 _ 8 8 false rfl rfl rfl (.inl rfl) (by kernel_rfl) (by kernel_rfl) rfl rfl rfl) (by kernel_rfl), ?_⟩
    refine fcs ⟨Ob.new_ (ob_copy 29 30 (.inl rfl) rfl (.inl rfl) (by kernel_rfl) rfl) (by kernel_rfl), ?_⟩
    refine fcs ⟨Ob.new_ (ob_read 28 3 31 (Con.tri 1 1 false 0 0) rfl rfl (.inr ⟨_, _, _, rfl, rfl, by kernel_rfl, by decide, rfl⟩) (by kernel_rfl) points_cell rfl row26 info26) (by kernel_rfl), ?_⟩
    refine fcs ⟨Ob.new_ (ob_read 28 5 32 (Con.tri 1 1 false 0 0) rfl rfl (.inr ⟨_, _, _, rfl, rfl, by kernel_rfl, by decide, rfl⟩) (by kernel_rfl) points_cell rfl row26 info26) (by kernel_rfl), ?_⟩
    refine fcs ⟨Ob.new_ (ob_call2 8 31 32 33 _ rfl rfl (.inr ⟨_, _, _, rfl, rfl, by kernel_rfl, by decide, rfl⟩) (by kernel_rfl) (by kernel_rfl) (by kernel_rfl) (z_same3 1 1 1 1 false 0 0)) (by kernel_rfl), ?_⟩
    refine fcs ⟨Ob.new_ (ob_not 33 34 true false rfl rfl rfl (.inr ⟨_, _, _, rfl, rfl, by kernel_rfl, by decide, rfl⟩) (by kernel_rfl) rfl rfl) (by kernel_rfl), ?_⟩
    refine fcs ⟨Ob.new_ (ob_pick_else 30 34 35 (.bool true) rfl rfl (.inl rfl) (by kernel_rfl) (by kernel_rfl) rfl rfl) (by kernel_rfl), ?_⟩
    refine fcs ⟨Ob.new_ (ob_copy 35 36 (.inl rfl) rfl (.inl rfl) (by kernel_rfl) rfl) (by kernel_rfl), ?_⟩
    refine fcs ⟨Ob.new_ (ob_addr 26 0 1 37 0 (Con.par n m s (Con.nn 12 p) (Con.nn 12 q)) (Con.int n) rfl rfl (.inr ⟨_, _, _, rfl, rfl, by kernel_rfl, by decide, rfl⟩) (by kernel_rfl) points_cell rfl (Con.par_0 n m s _ _) fieldP_0) (by kernel_rfl), ?_⟩
    refine fcs ⟨Ob.new_ (ob_readi 37 38 n rfl rfl (.inr ⟨_, _, _, rfl, rfl, by kernel_rfl, by decide, rfl⟩) (by kernel_rfl) points_ptr rfl) (by kernel_rfl), ?_⟩
    refine fcs ⟨Ob.new_ (ob_call1 9 38 39 _ rfl rfl (.inr ⟨_, _, _, rfl, rfl, by kernel_rfl, by decide, rfl⟩) (by kernel_rfl) (by kernel_rfl) (q_int n h)) (by kernel_rfl), ?_⟩
    refine fcs ⟨Ob.new_ (ob_addr 26 0 1 40 0 (Con.par n m s (Con.nn 12 p) (Con.nn 12 q)) (Con.int n) rfl rfl (.inr ⟨_, _, _, rfl, rfl, by kernel_rfl, by decide, rfl⟩) (by kernel_rfl) points_cell rfl (Con.par_0 n m s _ _) fieldP_0) (by kernel_rfl), ?_⟩
    refine fcs ⟨Ob.new_ (ob_readi 40 41 n rfl rfl (.inr ⟨_, _, _, rfl, rfl, by kernel_rfl, by decide, rfl⟩) (by kernel_rfl) points_ptr rfl) (by kernel_rfl), ?_⟩
    refine fcs ⟨Ob.new_ (ob_call1 10 41 42 _ rfl rfl (.inr ⟨_, _, _, rfl, rfl, by kernel_rfl, by decide, rfl⟩) (by kernel_rfl) (by kernel_rfl) (z_int2 n h)) (by kernel_rfl), ?_⟩
    refine fcs ⟨Ob.new_ (ob_call2 8 39 42 43 _ rfl rfl (.inr ⟨_, _, _, rfl, rfl, by kernel_rfl, by decide, rfl⟩) (by kernel_rfl) (by kernel_rfl) (by kernel_rfl) (z_same 2 2 ((n : Int) : Rat) ((n : Int) : Rat) true (decide_eq_true rfl))) (by kernel_rfl), ?_⟩
    refine fcs ⟨Ob.new_ (ob_not 43 44 true false rfl rfl rfl (.inr ⟨_, _, _, rfl, rfl, by kernel_rfl, by decide, rfl⟩) (by kernel_rfl) rfl rfl) (by kernel_rfl), ?_⟩
    refine fcs ⟨Ob.new_ (ob_pick_else 36 44 45 (.bool true) rfl rfl (.inl rfl) (by kernel_rfl) (by kernel_rfl) rfl rfl) (by kernel_rfl), ?_⟩
    exact fnl
  intro a8 w8 st8 hbr8 hfr
  have hs8 := hbr8.size
  have hb := up hb hbr8
  have st : St 110 [(1, Fact.cell b1 (Con.par n m s (Con.nn 12 p) (Con.nn 12 q))), (2, Fact.eq (.bool false)), (45, Fact.eq (.bool false))] a8 w8 := st8.to (fcs ⟨st8.at_ 1, fcs ⟨st8.at_ 2, fcs ⟨st8.at_ 45, fnl⟩⟩⟩)
  clear st8 hbr8 hfr
  refine wpList_nil ?_
  refine then_normal ?_
  refine wp_cond_false (st.at_ 45) ?_
  refine wp_skip ?_
  refine then_normal ?_
  refine wp_seq ?_
  refine wp_seq ?_
  refine sym_region st [(46, Fact.ptr (Con.nn 12 p)), (47, Fact.ptr (Con.nn 12 p)), (48, Fact.rown 12 p), (49, Fact.eq (.int .i64 ((Nm.nat p).length : Int))), (50, Fact.eq (.bool false)), (51, Fact.eq (.bool false)), (52, Fact.ptr (Con.nn 12 q)), (53, Fact.ptr (Con.nn 12 q)), (54, Fact.rown 12 q), (55, Fact.eq (.int .i64 ((Nm.nat q).length : Int))), (56, Fact.eq (.bool false)), (57, Fact.eq (.bool false)), (58, Fact.eq (.bool false)), (59, Fact.ptr (Con.nn 12 p)), (60, Fact.agg (Con.nn 12 p)), (61, Fact.eq (.bool true)), (62, Fact.eq (.bool false)), (63, Fact.eq (.bool false)), (64, Fact.eq (.bool false)), (65, Fact.ptr (Con.nn 12 q)), (66, Fact.agg (Con.nn 12 q)), (67, Fact.eq (.bool true)), (68, Fact.eq (.bool false)), (69, Fact.eq (.bool false))] [] 24 (by kernel_rfl) (by kernel_rfl) (by kernel_rfl) (Nat.le_of_ble_eq_true rfl) (by kernel_rfl) rfl rfl ?_ ?_
  · refine fcs ⟨Ob.new_ (ob_addr 26 3 1 46 3 (Con.par n m s (Con.nn 12 p) (Con.nn 12 q)) (Con.nn 12 p) rfl rfl (.inl rfl) (by kernel_rfl) points_cell rfl (Con.par_3 n m s _ _) fieldP_3) (by kernel_rfl), ?_⟩
    refine fcs ⟨Ob.new_ (ob_addr 24 0 46 47 0 (Con.nn 12 p) (Con.nn 12 p) rfl rfl (.inl rfl) (by kernel_rfl) points_ptr rfl (Con.Sub.refl _) field24_0) (by kernel_rfl), ?_⟩
    refine fcs ⟨Ob.new_ (ob_loadrow 47 48 12 p rfl rfl (.inl rfl) (by kernel_rfl) points_ptr rfl) (by kernel_rfl), ?_⟩
    refine fcs ⟨Ob.new_ (ob_len 48 49 (Nm.nat p).length 22 rfl (by kernel_rfl) rfl (.inl rfl) (by kernel_rfl) len_rown rfl) (by kernel_rfl), ?_⟩
    refine fcs ⟨Ob.new_ (ob_gtc 49 50 .i64 3 _ ((Nm.nat p).length : Int) 12 false (len_gt zp) rfl rfl (.inl rfl) (by kernel_rfl) rfl rfl) (by kernel_rfl), ?_⟩
    refine fcs ⟨Ob.new_ (ob_copy 50 51 (.inl rfl) rfl (.inl rfl) (by kernel_rfl) rfl) (by kernel_rfl), ?_⟩
    refine fcs ⟨Ob.new_ (ob_addr 26 4 1 52 4 (Con.par n m s (Con.nn 12 p) (Con.nn 12 q)) (Con.nn 12 q) rfl rfl (.inr ⟨_, _, _, rfl, rfl, by kernel_rfl, by decide, rfl⟩) (by kernel_rfl) points_cell rfl (Con.par_4n n m s 12 p 12 q) fieldP_4) (by kernel_rfl), ?_⟩
    refine fcs ⟨Ob.new_ (ob_addr 24 0 52 53 0 (Con.nn 12 q) (Con.nn 12 q) rfl rfl (.inr ⟨_, _, _, rfl, rfl, by kernel_rfl, by decide, rfl⟩) (by kernel_rfl) points_ptr rfl (Con.Sub.refl _) field24_0) (by kernel_rfl), ?_⟩
    refine fcs ⟨Ob.new_ (ob_loadrow 53 54 12 q rfl rfl (.inr ⟨_, _, _, rfl, rfl, by kernel_rfl, by decide, rfl⟩) (by kernel_rfl) points_ptr rfl) (by kernel_rfl), ?_⟩
    refine fcs ⟨Ob.new_ (ob_len 54 55 (Nm.nat q).length 22 rfl (by kernel_rfl) rfl (.inr ⟨_, _, _, rfl, rfl, by kernel_rfl, by decide, rfl⟩) (by kernel_rfl) len_rown rfl) (by kernel_rfl), ?_⟩
    refine fcs ⟨Ob.new_ (ob_gtc 55 56 .i64 3 _ ((Nm.nat q).length : Int) 12 false (len_gt zq) rfl rfl (.inr ⟨_, _, _, rfl, rfl, by kernel_rfl, by decide, rfl⟩) (by kernel_rfl) rfl rfl) (by kernel_rfl), ?_⟩
    refine fcs ⟨Ob.new_ (ob_pick_else 51 56 57 (.bool true) rfl rfl (.inl rfl) (by kernel_rfl) (by kernel_rfl) rfl rfl) (by kernel_rfl), ?_⟩
    refine fcs ⟨Ob.new_ (ob_copy 57 58 (.inl rfl) rfl (.inl rfl) (by kernel_rfl) rfl) (by kernel_rfl), ?_⟩
    refine fcs ⟨Ob.new_ (ob_addr 26 3 1 59 3 (Con.par n m s (Con.nn 12 p) (Con.nn 12 q)) (Con.nn 12 p) rfl rfl (.inr ⟨_, _, _, rfl, rfl, by kernel_rfl, by decide, rfl⟩) (by kernel_rfl) points_cell rfl (Con.par_3 n m s _ _) fieldP_3) (by kernel_rfl), ?_⟩
    refine fcs ⟨Ob.new_ (ob_read 24 59 60 (Con.nn 12 p) rfl rfl (.inr ⟨_, _, _, rfl, rfl, by kernel_rfl, by decide, rfl⟩) (by kernel_rfl) points_ptr rfl row24 info24) (by kernel_rfl), ?_⟩
    refine fcs ⟨Ob.new_ (ob_call1 11 60 61 _ rfl rfl (.inr ⟨_, _, _, rfl, rfl, by kernel_rfl, by decide, rfl⟩) (by kernel_rfl) (by kernel_rfl) (r_valid 12 p)) (by kernel_rfl), ?_⟩
    refine fcs ⟨Ob.new_ (ob_not 61 62 true false rfl rfl rfl (.inr ⟨_, _, _, rfl, rfl, by kernel_rfl, by decide, rfl⟩) (by kernel_rfl) rfl rfl) (by kernel_rfl), ?_⟩
    refine fcs ⟨Ob.new_ (ob_pick_else 58 62 63 (.bool true) rfl rfl (.inl rfl) (by kernel_rfl) (by kernel_rfl) rfl rfl) (by kernel_rfl), ?_⟩
    refine fcs ⟨Ob.new_ (ob_copy 63 64 (.inl rfl) rfl (.inl rfl) (by kernel_rfl) rfl) (by kernel_rfl), ?_⟩
    refine fcs ⟨Ob.new_ (ob_addr 26 4 1 65 4 (Con.par n m s (Con.nn 12 p) (Con.nn 12 q)) (Con.nn 12 q) rfl rfl (.inr ⟨_, _, _, rfl, rfl, by kernel_rfl, by decide, rfl⟩) (by kernel_rfl) points_cell rfl (Con.par_4n n m s 12 p 12 q) fieldP_4) (by kernel_rfl), ?_⟩
    refine fcs ⟨Ob.new_ (ob_read 24 65 66 (Con.nn 12 q) rfl rfl (.inr ⟨_, _, _, rfl, rfl, by kernel_rfl, by decide, rfl⟩) (by kernel_rfl) points_ptr rfl row24 info24) (by kernel_rfl), ?_⟩
    refine fcs ⟨Ob.new_ (ob_call1 11 66 67 _ rfl rfl (.inr ⟨_, _, _, rfl, rfl, by kernel_rfl, by decide, rfl⟩) (by kernel_rfl) (by kernel_rfl) (r_valid 12 q)) (by kernel_rfl), ?_⟩
    refine fcs ⟨Ob.new_ (ob_not 67 68 true false rfl rfl rfl (.inr ⟨_, _, _, rfl, rfl, by kernel_rfl, by decide, rfl⟩) (by kernel_rfl) rfl rfl) (by kernel_rfl), ?_⟩
    refine fcs ⟨Ob.new_ (ob_pick_else 64 68 69 (.bool true) rfl rfl (.inl rfl) (by kernel_rfl) (by kernel_rfl) rfl rfl) (by kernel_rfl), ?_⟩
    exact fnl
  intro a9 w9 st9 hbr9 hfr
  have hs9 := hbr9.size
  have hb := up hb hbr9
  have st : St 110 [(1, Fact.cell b1 (Con.par n m s (Con.nn 12 p) (Con.nn 12 q))), (2, Fact.eq (.bool false)), (69, Fact.eq (.bool false))] a9 w9 := st9.to (fcs ⟨st9.at_ 1, fcs ⟨st9.at_ 2, fcs ⟨st9.at_ 69, fnl⟩⟩⟩)
  clear st9 hbr9 hfr
  refine wpList_nil ?_
  refine then_normal ?_
  refine wp_cond_false (st.at_ 69) ?_
  refine wp_skip ?_
  refine then_normal ?_
  refine wp_seq ?_
  refine sym_region st [(72, Fact.ptr (Con.bool s)), (73, Fact.eq (.bool s)), (74, Fact.ptr (Con.nn 12 p)), (75, Fact.agg (Con.nn 12 p)), (76, Fact.ptr (Con.nn 12 q)), (77, Fact.agg (Con.nn 12 q)), (78, Fact.two (Fact.agg (Con.fr 12 (Rt.of s p q))) (Fact.eq (.int .i64 0))), (71, Fact.two (Fact.agg (Con.fr 12 (Rt.of s p q))) (Fact.eq (.int .i64 0))), (79, Fact.agg (Con.fr 12 (Rt.of s p q))), (80, Fact.eq (.int .i64 0)), (7, Fact.var' (Con.raw 3))] [7] 11 (by kernel_rfl) (by kernel_rfl) (by kernel_rfl) (Nat.le_of_ble_eq_true rfl) (by kernel_rfl) rfl rfl ?_ ?_
  · refine fcs ⟨Ob.new_ (ob_addr 26 2 1 72 2 (Con.par n m s (Con.nn 12 p) (Con.nn 12 q)) (Con.bool s) rfl rfl (.inl rfl) (by kernel_rfl) points_cell rfl (Con.par_2 n m s _ _) fieldP_2) (by kernel_rfl), ?_⟩
    refine fcs ⟨Ob.new_ (ob_readb 72 73 s s rfl rfl rfl (.inl rfl) (by kernel_rfl) points_ptr rfl) (by kernel_rfl), ?_⟩
    refine fcs ⟨Ob.new_ (ob_addr 26 3 1 74 3 (Con.par n m s (Con.nn 12 p) (Con.nn 12 q)) (Con.nn 12 p) rfl rfl (.inl rfl) (by kernel_rfl) points_cell rfl (Con.par_3 n m s _ _) fieldP_3) (by kernel_rfl), ?_⟩
    refine fcs ⟨Ob.new_ (ob_read 24 74 75 (Con.nn 12 p) rfl rfl (.inl rfl) (by kernel_rfl) points_ptr rfl row24 info24) (by kernel_rfl), ?_⟩
    refine fcs ⟨Ob.new_ (ob_addr 26 4 1 76 4 (Con.par n m s (Con.nn 12 p) (Con.nn 12 q)) (Con.nn 12 q) rfl rfl (.inl rfl) (by kernel_rfl) points_cell rfl (Con.par_4n n m s 12 p 12 q) fieldP_4) (by kernel_rfl), ?_⟩
    refine fcs ⟨Ob.new_ (ob_read 24 76 77 (Con.nn 12 q) rfl rfl (.inl rfl) (by kernel_rfl) points_ptr rfl row24 info24) (by kernel_rfl), ?_⟩
    refine fcs ⟨Ob.new_ (ob_call3 13 73 75 77 78 _ rfl rfl (.inl rfl) (by kernel_rfl) (by kernel_rfl) (by kernel_rfl) (by kernel_rfl) (q_make 12 12 12 s p q hq (by omega) (by omega) (by omega))) (by kernel_rfl), ?_⟩
    refine fcs ⟨Ob.new_ (ob_copy 78 71 (.inl rfl) rfl (.inl rfl) (by kernel_rfl) rfl) (by kernel_rfl), ?_⟩
    refine fcs ⟨Ob.new_ (ob_fst 71 79 (Fact.agg (Con.fr 12 (Rt.of s p q))) (Fact.eq (.int .i64 0)) rfl rfl (.inl rfl) (by kernel_rfl) rfl rfl) (by kernel_rfl), ?_⟩
    refine fcs ⟨Ob.new_ (ob_snd 71 80 (Fact.agg (Con.fr 12 (Rt.of s p q))) (Fact.eq (.int .i64 0)) rfl rfl (.inl rfl) (by kernel_rfl) rfl rfl) (by kernel_rfl), ?_⟩
    refine fcs ⟨obn_new 28 7 _ [.bool false, .slice none 0 0, .slice none 0 0] rfl rfl rfl rfl rfl alloc26, ?_⟩
    exact fnl
  intro a10 w10 st10 hbr10 hfr
  have hs10 := hbr10.size
  have hb := up hb hbr10
  obtain ⟨b7, c7⟩ := (show (Fact.var' (Con.raw 3)).holds _ _ from st10.at_ 7)
  have g7 := hfr.ge (s := 7) rfl c7.1
  have st : St 110 [(1, Fact.cell b1 (Con.par n m s (Con.nn 12 p) (Con.nn 12 q))), (2, Fact.eq (.bool false)), (79, Fact.agg (Con.fr 12 (Rt.of s p q))), (80, Fact.eq (.int .i64 0)), (7, Fact.cell b7 (Con.raw 3))] a10 w10 := st10.to (fcs ⟨st10.at_ 1, fcs ⟨st10.at_ 2, fcs ⟨st10.at_ 79, fcs ⟨st10.at_ 80, fcs ⟨c7, fnl⟩⟩⟩⟩⟩)
  clear st10 hbr10 hfr c7
  refine sym_store st 28 7 79 b7 (Con.raw 3) (Con.fr 12 (Rt.of s p q)) [(1, Fact.cell b1 (Con.par n m s (Con.nn 12 p) (Con.nn 12 q))), (2, Fact.eq (.bool false)), (80, Fact.eq (.int .i64 0)), (7, Fact.cell b7 (Con.fr 12 (Rt.of s p q)))] rfl rfl rfl rfl rfl rfl info26 ?_ ?_
  · exact fcs ⟨.inr ⟨rfl, safe_cell _ (by omega)⟩, fcs ⟨.inr ⟨rfl, safe_eq _ _⟩, fcs ⟨.inr ⟨rfl, safe_eq _ _⟩, fcs ⟨.inl rfl, fnl⟩⟩⟩⟩
  clear st; intro w11 hB hsz11 st
  have hb := hB _ _ hb (by omega) (by omega)
  clear hB
  refine sym_op st 8 (Fact.eq (.int .i64 0)) rfl (Nat.le_of_ble_eq_true rfl) rfl rfl (by kernel_rfl) (ob_copy 80 8 (.inr rfl) rfl (.inl rfl) (by kernel_rfl) rfl) ?_
  clear st; intro a12 w12 hbr st; have hs12 := hbr.size; have hb := up hb hbr; clear hbr
  refine wpList_nil ?_
  refine then_normal ?_
  refine wp_seq ?_
  refine sym_region st [(82, Fact.ptr (Con.bool s)), (83, Fact.eq (.bool s)), (84, Fact.ptr (Con.nn 12 p)), (85, Fact.agg (Con.nn 12 p)), (86, Fact.ptr (Con.nn 12 q)), (87, Fact.agg (Con.nn 12 q)), (88, Fact.two (Fact.agg (Con.fr 12 (Rt.of s p q))) (Fact.eq (.int .i64 0))), (81, Fact.two (Fact.agg (Con.fr 12 (Rt.of s p q))) (Fact.eq (.int .i64 0))), (89, Fact.agg (Con.fr 12 (Rt.of s p q))), (90, Fact.eq (.int .i64 0)), (9, Fact.var' (Con.raw 3))] [9] 11 (by kernel_rfl) (by kernel_rfl) (by kernel_rfl) (Nat.le_of_ble_eq_true rfl) (by kernel_rfl) rfl rfl ?_ ?_
  · refine fcs ⟨Ob.new_ (ob_addr 26 2 1 82 2 (Con.par n m s (Con.nn 12 p) (Con.nn 12 q)) (Con.bool s) rfl rfl (.inl rfl) (by kernel_rfl) points_cell rfl (Con.par_2 n m s _ _) fieldP_2) (by kernel_rfl), ?_⟩
    refine fcs ⟨Ob.new_ (ob_readb 82 83 s s rfl rfl rfl (.inl rfl) (by kernel_rfl) points_ptr rfl) (by kernel_rfl), ?_⟩
    refine fcs ⟨Ob.new_ (ob_addr 26 3 1 84 3 (Con.par n m s (Con.nn 12 p) (Con.nn 12 q)) (Con.nn 12 p) rfl rfl (.inl rfl) (by kernel_rfl) points_cell rfl (Con.par_3 n m s _ _) fieldP_3) (by kernel_rfl), ?_⟩
    refine fcs ⟨Ob.new_ (ob_read 24 84 85 (Con.nn 12 p) rfl rfl (.inl rfl) (by kernel_rfl) points_ptr rfl row24 info24) (by kernel_rfl), ?_⟩
    refine fcs ⟨Ob.new_ (ob_addr 26 4 1 86 4 (Con.par n m s (Con.nn 12 p) (Con.nn 12 q)) (Con.nn 12 q) rfl rfl (.inl rfl) (by kernel_rfl) points_cell rfl (Con.par_4n n m s 12 p 12 q) fieldP_4) (by kernel_rfl), ?_⟩
    refine fcs ⟨Ob.new_ (ob_read 24 86 87 (Con.nn 12 q) rfl rfl (.inl rfl) (by kernel_rfl) points_ptr rfl row24 info24) (by kernel_rfl), ?_⟩
    refine fcs ⟨Ob.new_ (ob_call3 14 83 85 87 88 _ rfl rfl (.inl rfl) (by kernel_rfl) (by kernel_rfl) (by kernel_rfl) (by kernel_rfl) (z_make 12 12 12 s p q hq (by omega) (by omega) (by omega))) (by kernel_rfl), ?_⟩
    refine fcs ⟨Ob.new_ (ob_copy 88 81 (.inl rfl) rfl (.inl rfl) (by kernel_rfl) rfl) (by kernel_rfl), ?_⟩
    refine fcs ⟨Ob.new_ (ob_fst 81 89 (Fact.agg (Con.fr 12 (Rt.of s p q))) (Fact.eq (.int .i64 0)) rfl rfl (.inl rfl) (by kernel_rfl) rfl rfl) (by kernel_rfl), ?_⟩
    refine fcs ⟨Ob.new_ (ob_snd 81 90 (Fact.agg (Con.fr 12 (Rt.of s p q))) (Fact.eq (.int .i64 0)) rfl rfl (.inl rfl) (by kernel_rfl) rfl rfl) (by kernel_rfl), ?_⟩
    refine fcs ⟨obn_new 28 9 _ [.bool false, .slice none 0 0, .slice none 0 0] rfl rfl rfl rfl rfl alloc26, ?_⟩
    exact fnl
  intro a13 w13 st13 hbr13 hfr
  have hs13 := hbr13.size
  have hb := up hb hbr13
  obtain ⟨b9, c9⟩ := (show (Fact.var' (Con.raw 3)).holds _ _ from st13.at_ 9)
  have g9 := hfr.ge (s := 9) rfl c9.1
  have st : St 110 [(2, Fact.eq (.bool false)), (7, Fact.cell b7 (Con.fr 12 (Rt.of s p q))), (8, Fact.eq (.int .i64 0)), (89, Fact.agg (Con.fr 12 (Rt.of s p q))), (90, Fact.eq (.int .i64 0)), (9, Fact.cell b9 (Con.raw 3))] a13 w13 := st13.to (fcs ⟨st13.at_ 2, fcs ⟨st13.at_ 7, fcs ⟨st13.at_ 8, fcs ⟨st13.at_ 89, fcs ⟨st13.at_ 90, fcs ⟨c9, fnl⟩⟩⟩⟩⟩⟩)
  clear st13 hbr13 hfr c9
  refine sym_store st 28 9 89 b9 (Con.raw 3) (Con.fr 12 (Rt.of s p q)) [(2, Fact.eq (.bool false)), (7, Fact.cell b7 (Con.fr 12 (Rt.of s p q))), (8, Fact.eq (.int .i64 0)), (90, Fact.eq (.int .i64 0)), (9, Fact.cell b9 (Con.fr 12 (Rt.of s p q)))] rfl rfl rfl rfl rfl rfl info26 ?_ ?_
  · exact fcs ⟨.inr ⟨rfl, safe_eq _ _⟩, fcs ⟨.inr ⟨rfl, safe_cell _ (by omega)⟩, fcs ⟨.inr ⟨rfl, safe_eq _ _⟩, fcs ⟨.inr ⟨rfl, safe_eq _ _⟩, fcs ⟨.inl rfl, fnl⟩⟩⟩⟩⟩
  clear st; intro w14 hB hsz14 st
  have hb := hB _ _ hb (by omega) (by omega)
  clear hB
  refine sym_op st 10 (Fact.eq (.int .i64 0)) rfl (Nat.le_of_ble_eq_true rfl) rfl rfl (by kernel_rfl) (ob_copy 90 10 (.inr rfl) rfl (.inl rfl) (by kernel_rfl) rfl) ?_
  clear st; intro a15 w15 hbr st; have hs15 := hbr.size; have hb := up hb hbr; clear hbr
  refine wpList_nil ?_
  refine then_normal ?_
  refine wp_seq ?_
  have st := st.to (ks' := [(7, Fact.cell b7 (Con.fr 12 (Rt.of s p q))), (8, Fact.eq (.int .i64 0)), (9, Fact.cell b9 (Con.fr 12 (Rt.of s p q))), (10, Fact.eq (.int .i64 0))]) (fcs ⟨st.at_ 7, fcs ⟨st.at_ 8, fcs ⟨st.at_ 9, fcs ⟨st.at_ 10, fnl⟩⟩⟩⟩)
  refine sym_region st [(91, Fact.eq (.int .i64 0)), (92, Fact.eq (.int .i64 0)), (93, Fact.eq (.bool true)), (94, Fact.eq (.bool true)), (95, Fact.agg (Con.fr 12 (Rt.of s p q))), (96, Fact.agg (Con.fr 12 (Rt.of s p q))), (97, Fact.eq (.bool true)), (98, Fact.eq (.bool true)), (99, Fact.eq (.bool true)), (100, Fact.eq (.int .i64 0)), (101, Fact.eq (.bool false)), (102, Fact.eq (.bool false)), (103, Fact.agg (Con.fr 12 (Rt.of s p q))), (104, Fact.eq (.bool true)), (105, Fact.eq (.bool true)), (106, Fact.eq (.bool true)), (107, Fact.eq (.bool true)), (108, Fact.eq (.bool true)), (109, Fact.eq (.bool true)), (2, Fact.eq (.bool true))] [] 20 (by kernel_rfl) (by kernel_rfl) (by kernel_rfl) (Nat.le_of_ble_eq_true rfl) (by kernel_rfl) rfl rfl ?_ ?_
  · refine fcs ⟨Ob.new_ (ob_copy 8 91 (.inl rfl) rfl (.inl rfl) (by kernel_rfl) rfl) (by kernel_rfl), ?_⟩
    refine fcs ⟨Ob.new_ (ob_copy 10 92 (.inl rfl) rfl (.inl rfl) (by kernel_rfl) rfl) (by kernel_rfl), ?_⟩
    refine fcs ⟨Ob.new_ (ob_eqi 91 92 93 .i64 29 _ 0 0 true rfl rfl rfl (.inl rfl) (by kernel_rfl) (by kernel_rfl) rfl rfl rfl) (by kernel_rfl), ?_⟩
    refine fcs ⟨Ob.new_ (ob_copy 93 94 (.inl rfl) rfl (.inl rfl) (by kernel_rfl) rfl) (by kernel_rfl), ?_⟩
    refine fcs ⟨Ob.new_ (ob_read 28 7 95 (Con.fr 12 (Rt.of s p q)) rfl rfl (.inr ⟨_, _, _, rfl, rfl, by kernel_rfl, by decide, rfl⟩) (by kernel_rfl) points_cell rfl row26 info26) (by kernel_rfl), ?_⟩
    refine fcs ⟨Ob.new_ (ob_read 28 9 96 (Con.fr 12 (Rt.of s p q)) rfl rfl (.inr ⟨_, _, _, rfl, rfl, by kernel_rfl, by decide, rfl⟩) (by kernel_rfl) points_cell rfl row26 info26) (by kernel_rfl), ?_⟩
    refine fcs ⟨Ob.new_ (ob_call2 8 95 96 97 _ rfl rfl (.inr ⟨_, _, _, rfl, rfl, by kernel_rfl, by decide, rfl⟩) (by kernel_rfl) (by kernel_rfl) (by kernel_rfl) (z_same 12 12 (Rt.of s p q) (Rt.of s p q) true (decide_eq_true rfl))) (by kernel_rfl), ?_⟩
    refine fcs ⟨Ob.new_ (ob_pick 94 97 98 _ rfl rfl (.inl rfl) (by kernel_rfl) (by kernel_rfl) rfl rfl) (by kernel_rfl), ?_⟩
    refine fcs ⟨Ob.new_ (ob_copy 98 99 (.inl rfl) rfl (.inl rfl) (by kernel_rfl) rfl) (by kernel_rfl), ?_⟩
    refine fcs ⟨Ob.new_ (ob_copy 8 100 (.inl rfl) rfl (.inr ⟨_, _, _, rfl, rfl, by kernel_rfl, by decide, rfl⟩) (by kernel_rfl) rfl) (by kernel_rfl), ?_⟩
    refine fcs ⟨Ob.new_ (ob_nec 100 101 .i64 29 _ 0 0 false rfl rfl rfl (.inr ⟨_, _, _, rfl, rfl, by kernel_rfl, by decide, rfl⟩) (by kernel_rfl) rfl rfl) (by kernel_rfl), ?_⟩
    refine fcs ⟨Ob.new_ (ob_copy 101 102 (.inl rfl) rfl (.inr ⟨_, _, _, rfl, rfl, by kernel_rfl, by decide, rfl⟩) (by kernel_rfl) rfl) (by kernel_rfl), ?_⟩
    refine fcs ⟨Ob.new_ (ob_read 28 7 103 (Con.fr 12 (Rt.of s p q)) rfl rfl (.inr ⟨_, _, _, rfl, rfl, by kernel_rfl, by decide, rfl⟩) (by kernel_rfl) points_cell rfl row26 info26) (by kernel_rfl), ?_⟩
    refine fcs ⟨Ob.new_ (ob_call1 15 103 104 _ rfl rfl (.inr ⟨_, _, _, rfl, rfl, by kernel_rfl, by decide, rfl⟩) (by kernel_rfl) (by kernel_rfl) (z_valid 12 (Rt.of s p q) (by omega))) (by kernel_rfl), ?_⟩
    refine fcs ⟨Ob.new_ (ob_pick_else 102 104 105 (.bool true) rfl rfl (.inr ⟨_, _, _, rfl, rfl, by kernel_rfl, by decide, rfl⟩) (by kernel_rfl) (by kernel_rfl) rfl rfl) (by kernel_rfl), ?_⟩
    refine fcs ⟨Ob.new_ (ob_pick 99 105 106 _ rfl rfl (.inl rfl) (by kernel_rfl) (by kernel_rfl) rfl rfl) (by kernel_rfl), ?_⟩
    refine fcs ⟨Ob.new_ (ob_copy 106 107 (.inl rfl) rfl (.inl rfl) (by kernel_rfl) rfl) (by kernel_rfl), ?_⟩
    refine fcs ⟨Ob.new_ (ob_call0 12 108 _ rfl rfl (.inr ⟨_, _, _, rfl, rfl, by kernel_rfl, by decide, rfl⟩) (by kernel_rfl) w_awake) (by kernel_rfl), ?_⟩
    refine fcs ⟨Ob.new_ (ob_pick 107 108 109 _ rfl rfl (.inl rfl) (by kernel_rfl) (by kernel_rfl) rfl rfl) (by kernel_rfl), ?_⟩
    refine fcs ⟨Ob.new_ (ob_copy 109 2 (.inr rfl) rfl (.inl rfl) (by kernel_rfl) rfl) (by kernel_rfl), ?_⟩
    exact fnl
  intro a16 w16 st16 hbr16 hfr
  have hs16 := hbr16.size
  have hb := up hb hbr16
  have st : St 110 [(2, Fact.eq (.bool true))] a16 w16 := st16.to (fcs ⟨st16.at_ 2, fnl⟩)
  clear st16 hbr16 hfr
  refine wpList_nil ?_
  refine then_normal ?_
  refine wp_ret ?_
  exact sym_ret1 rfl st.defers (resAt_tmp st 2) hb (fun _ h => h)
theorem law_makes (n m : Int) (h : -9223372036854775808 ≤ n ∧ n ≤ 9223372036854775807) (h2 : -9223372036854775808 ≤ m ∧ m ≤ 9223372036854775807) (s : Bool) (xs ys : List Nat) : ∀ v0 w, (Fact.agg (Con.par n m s (Con.any_ xs) (Con.any_ ys))).holds v0 w → Calls Tryd.prog 3 #[v0] w (Ret (Fact.eq (.bool true)) w) := by
  intro v0 w hv
  by_cases hm : Int.natAbs m = 0
  · cases hx : decide ((xs.length : Int) > 12) with
    | true => exact law_makes_a1 n m h h2 hm s xs ys hx v0 w hv
    | false =>
    cases hy : decide ((ys.length : Int) > 12) with
    | true => exact law_makes_b1 n m h h2 hm s xs ys hx hy v0 w hv
    | false =>
    have ex := of_decide_eq_false hx
    have ey := of_decide_eq_false hy
    have hd := Fact.par_dg hv (by omega) (by omega)
    cases tx : decide (Nm.tlen xs = xs.length) with
    | false => exact law_makes_c1 n m h h2 hm s xs ys hx hy tx v0 w hd
    | true =>
    cases ty : decide (Nm.tlen ys = ys.length) with
    | false => exact law_makes_d1 n m h h2 hm s xs ys hx hy tx ty v0 w hd
    | true =>
    obtain ⟨hn, zp, zq⟩ := Fact.par_nn hd (of_decide_eq_true tx) (of_decide_eq_true ty) (by omega) (by omega)
    by_cases hq : Nm.val ys = 0
    · exact law_makes_e1 n m h h2 hm s _ _ zp zq hq v0 w hn
    · exact law_makes_f1 n m h h2 hm s _ _ zp zq hq v0 w hn
  · cases hx : decide ((xs.length : Int) > 12) with
    | true => exact law_makes_a0 n m h h2 hm s xs ys hx v0 w hv
    | false =>
    cases hy : decide ((ys.length : Int) > 12) with
    | true => exact law_makes_b0 n m h h2 hm s xs ys hx hy v0 w hv
    | false =>
    have ex := of_decide_eq_false hx
    have ey := of_decide_eq_false hy
    have hd := Fact.par_dg hv (by omega) (by omega)
    cases tx : decide (Nm.tlen xs = xs.length) with
    | false => exact law_makes_c0 n m h h2 hm s xs ys hx hy tx v0 w hd
    | true =>
    cases ty : decide (Nm.tlen ys = ys.length) with
    | false => exact law_makes_d0 n m h h2 hm s xs ys hx hy tx ty v0 w hd
    | true =>
    obtain ⟨hn, zp, zq⟩ := Fact.par_nn hd (of_decide_eq_true tx) (of_decide_eq_true ty) (by omega) (by omega)
    by_cases hq : Nm.val ys = 0
    · exact law_makes_e0 n m h h2 hm s _ _ zp zq hq v0 w hn
    · exact law_makes_f0 n m h h2 hm s _ _ zp zq hq v0 w hn
end Go.Proofs.YtjfehdkfogdpgaaDoor
namespace Go.Proofs.YtjfehdkfogdpgaaDoor
open Go.ChangeShapes Go.WideShapes Go.ChangeAt Go.RowKit Go.Deep
section
variable {H : Type} {enc : TypeId × Value → H}
set_option maxRecDepth 100000 in
theorem open_dig {W : World} {k : Nat} {c0 : Value} {y : DataW H × List MemPlace} (h2 : DataW.trod enc Tryd.prog W 0 (fun _ => true) true k 22 [c0] = some y) :
    ∃ A n c xs, c0 = .slice A n c ∧ Rd W A xs ∧ xs.length = n ∧ n ≤ c ∧ Nm.Dig xs := by
  rcases open_ints Tryd.underlying22 Tryd.underlying48 cells35 h2 with ⟨hc, _⟩ | ⟨a, len, cap, zs, hc, _, hl, _, hz, _, hcell, hwf⟩
  · injection hc with hc _
    subst hc
    exact ⟨none, 0, 0, [], rfl, .inl rfl, rfl, Nat.le_refl _, Nm.Dig.nil⟩
  · injection hc with hc _
    subst hc
    have hzl : zs.length = cap := by simpa using hz
    have hb : ∀ z ∈ zs, 0 ≤ z ∧ z < 4294967296 := fun z hm => by
      have := hwf z hm
      simp [Lit.wf, IntKind.min, IntKind.max, IntKind.signed, IntKind.bits] at this
      omega
    refine ⟨some a, len, cap, (zs.take len).map Int.toNat, rfl, ?_, by simp; omega, hl, ?_⟩
    · rcases Nat.eq_zero_or_pos len with h0 | h0
      · subst h0; exact .inl (by simp)
      · have h3 := hcell 0 (by omega)
        have hs : a.spot = none := by
          rw [Addr.add_zero'] at h3
          cases hsp : a.spot with
          | none => rfl
          | some x =>
            unfold World.cell? at h3
            rw [hsp] at h3
            split at h3
            · simp at h3
            · cases h3
        obtain ⟨g, off, sp⟩ := a
        have hs' : sp = none := hs
        subst hs'
        refine .inr ⟨g, off, rfl, fun i hi => ?_⟩
        have hi' : i < len := by simp at hi; omega
        have h4 := hcell i (by omega)
        rw [Addr.add_lit] at h4
        rw [h4]
        have hiz : i < zs.length := by omega
        have h5 := hb zs[i] (List.getElem_mem hiz)
        simp only [List.getD, List.getElem?_eq_getElem hiz, Option.getD_some, List.getElem_map, List.getElem_take]
        rw [Int.toNat_of_nonneg h5.1]
    · intro z hz
      obtain ⟨x, hx, rfl⟩ := List.mem_map.1 hz
      have := hb x (List.mem_of_mem_take hx)
      omega
theorem open_natc {W : World} {k : Nat} {c0 : Value} {y : DataW H × List MemPlace} (h : DataW.trod enc Tryd.prog W 0 (fun _ => true) true k 24 [c0] = some y) :
    ∃ zs, (Con.any_ zs).is W [c0] := by
  obtain ⟨ys, m, _, _, _, hlen, hg⟩ := DataW.trod_struct Tryd.underlying24 h
  have h1 := hg 0 _ rfl
  have c22 : Tryd.prog.cellsOf 22 = 1 := by kernel_rfl
  have h2 : ∃ y, DataW.trod enc Tryd.prog W 0 (fun _ => true) true m 22 [c0] = some y := by
    match ys, hlen with
    | [y], _ => exact ⟨y, by simpa [c22] using h1⟩
  obtain ⟨y, h2⟩ := h2
  obtain ⟨A, n, c, zs, rfl, hr, rfl, hc, hd⟩ := open_dig h2
  exact ⟨zs, A, c, rfl, hr, hc, hd⟩
theorem cells4 : Tryd.prog.cellsOf 4 = 1 := by kernel_rfl
end
end Go.Proofs.YtjfehdkfogdpgaaDoor
namespace Go.Proofs.YtjfehdkfogdpgaaDoor
open Go.ChangeShapes Go.WideShapes Go.ChangeAt Go.RowKit Go.Deep
section
variable {H : Type} {enc : TypeId × Value → H}
theorem cellsP : Tryd.prog.cellsOf 26 = 5 := by kernel_rfl
theorem cells2 : Tryd.prog.cellsOf 2 = 1 := by kernel_rfl
set_option maxRecDepth 100000 in
theorem open_parts {W : World} {r : Reach} {b0 : Nat} {v : Value} {d : DataW H} {p : List MemPlace} (hv : Value.okWide Tryd.prog W r b0 26 v) (h : DataW.Trod enc Tryd.prog W 0 (fun _ => true) true 26 v d p) :
    ∃ n m s xs ys, (-9223372036854775808 ≤ n ∧ n ≤ 9223372036854775807) ∧ (-9223372036854775808 ≤ m ∧ m ≤ 9223372036854775807) ∧ (Fact.agg (Con.par n m s (Con.any_ xs) (Con.any_ ys))).holds v W := by
  obtain ⟨cs, rfl, hsz⟩ := okWide_struct Tryd.underlying26 hv
  obtain ⟨l⟩ := cs
  match l, hsz.trans cellsP with
  | [c0, c1, c2, c3, c4], _ =>
    obtain ⟨fuel, hf⟩ := h
    obtain ⟨zs, m, _, _, _, hlen, hg⟩ := DataW.trod_struct Tryd.underlying26 hf
    match zs, hlen with
    | [y0, y1, y2, y3, y4], _ =>
      have h0 : DataW.trod enc Tryd.prog W 0 (fun _ => true) true m 2 [c0] = some y0 := by simpa [Value.cells, cells2] using hg 0 _ rfl
      have h1 : DataW.trod enc Tryd.prog W 0 (fun _ => true) true m 2 [c1] = some y1 := by simpa [Value.cells, cells2] using hg 1 _ rfl
      have h2 : DataW.trod enc Tryd.prog W 0 (fun _ => true) true m 4 [c2] = some y2 := by simpa [Value.cells, cells4] using hg 2 _ rfl
      have h3 : DataW.trod enc Tryd.prog W 0 (fun _ => true) true m 24 [c3] = some y3 := by simpa [Value.cells, cells24] using hg 3 _ rfl
      have h4 : DataW.trod enc Tryd.prog W 0 (fun _ => true) true m 24 [c4] = some y4 := by simpa [Value.cells, cells24] using hg 4 _ rfl
      obtain ⟨n, hn, _, wn⟩ := DataW.trod_int Tryd.underlying2 h0
      obtain ⟨k, hk, _, wk⟩ := DataW.trod_int Tryd.underlying2 h1
      obtain ⟨b, hb, _⟩ := DataW.trod_bool Tryd.underlying4 h2
      injection hn with hn _
      injection hk with hk _
      injection hb with hb _
      subst hn hk hb
      obtain ⟨xs, hx⟩ := open_natc h3
      obtain ⟨ys, hy⟩ := open_natc h4
      refine ⟨n, k, b, xs, ys, ?_, ?_, [.int .i64 n, .int .i64 k, .bool b, c3, c4], rfl, [_], _, rfl, rfl, [_], _, rfl, rfl, [_], _, rfl, rfl, [_], _, rfl, hx, hy⟩
      · simp [Lit.wf, IntKind.min, IntKind.max, IntKind.signed, IntKind.bits] at wn
        omega
      · simp [Lit.wf, IntKind.min, IntKind.max, IntKind.signed, IntKind.bits] at wk
        omega
end
end Go.Proofs.YtjfehdkfogdpgaaDoor
namespace Go.Proofs.YtjfehdkfogdpgaaDoor
open Go.ChangeShapes Go.WideShapes Go.ChangeAt Go.RowKit
set_option maxRecDepth 100000 in
theorem fractionMakes_lifted (os : Os) (started : os.Started) (H : Type) (enc : TypeId × Value → H) :
    ReturnsInHanded {} Tryd.checked os 3 .any (fun w args => (Rows.fractionMakesSpec.pre enc Tryd.prog Tryd.f3 Rows.fractionMakesRow.domain false w args ∧ laidMetH Tryd.prog Rows.fractionMakesRow.laid w) ∧ sizedMet enc Tryd.prog Tryd.f3 (OpenSpec.ofChange Rows.fractionMakesSpec) false w args)
      (Rows.fractionMakesSpec.post enc Tryd.prog Tryd.f3 false true false false) := by
  refine returnsInHanded_of_change_and (C := Tryd.checked) (X := fun w _ => laidMetH Tryd.prog Rows.fractionMakesRow.laid w) (fun _ _ _ hh h => h.of_heap hh) Tryd.own started (by kernel_rfl) Tryd.func3
    (ChangeSpec.witness_shaped (enc := enc) (C := Tryd.checked) (os := os) (X := fun w _ => laidMetH Tryd.prog Rows.fractionMakesRow.laid w) false (World.laidAll Tryd.prog os Rows.fractionMakesRow.laid) #[.agg #[.int .i64 0, .int .i64 0, .bool false, .slice none 0 0, .slice none 0 0]] 8 (World.laidAll_os _ _ _)
      (World.shaped_of_ZipB (by kernel_rfl) (by kernel_rfl)) (by kernel_rfl) (by kernel_rfl) (by kernel_rfl)
      (by rw [MakeChecks.laidMetH_plain _ _ _ (by kernel_rfl)]; exact laidMet_laidAll _ (by kernel_rfl) (by kernel_rfl))) ?_
  intro W base args ds gs before hval0 hW hc _ hL _
  have hval : ∀ (j : Nat) t v, Tryd.f3.params[j]? = some t → args[j]? = some v → Value.okWide Tryd.prog W .any base t v := hval0
  have hW' := hW
  obtain ⟨p, q, hA0, hV, rfl, _, _⟩ := hW
  have hA : DataW.TrodAll enc Tryd.prog W 0 (fun _ => true) true Tryd.f3.params.toList args.toList ds p := hA0
  rw [Tryd.params3] at hA hval
  obtain ⟨v0, d0, rfl, rfl, h0⟩ := trodAll_one hA
  obtain ⟨rfl, rfl⟩ := trodVars_none hV
  clear hA0
  simp only [List.append_nil] at hW' 
  have hlt0 : ∀ x ∈ p, x.block < W.heap.size := fun x hx => by simpa using hW'.lt x (by simp [hx])
  obtain ⟨n0, m0, s0, xs0, ys0, rn0, rm0, g0⟩ := open_parts (hval 0 26 v0 rfl rfl) h0
  refine (law_makes n0 m0 rn0 rm0 s0 xs0 ys0 _ W g0).mono fun e W' ⟨u, he, hb, hu⟩ => ?_
  obtain rfl : u = .bool true := hu
  subst he
  exact ⟨_, rfl, post_true rfl rfl hW' rfl rfl (trodAll_mk1 (Below.trod Tryd.laidOut (by kernel_rfl) (of_decide_eq_true (by kernel_rfl)) h0 hb hlt0)) hb⟩
theorem fractionMakes_holds : Rows.FractionMakesSaid :=
  OpenClaim.holds_of_wide 3 Tryd.f3 rfl rfl rfl rfl rfl rfl rfl ⟨rfl, rfl, rfl, rfl, rfl⟩ rfl rfl rfl rfl rfl (by kernel_rfl) Tryd.func3 (by kernel_rfl)
    (of_decide_eq_true (by kernel_rfl)) (by unfold Func.isWrapper; first | (rw [if_pos (by decide +kernel)]; kernel_rfl) | (rw [if_neg (by decide +kernel)]; exact ⟨rfl, rfl⟩))
    (fun os started H enc _ => fractionMakes_lifted os started H enc)
theorem fractionMakes_card : Rows.FractionMakesCardSaid :=
  Claim7.holds_tied_plain_at .later [] [.data, .pinned] true (true, "428520cfc8c758f6fde9c7187defc164a5f9d48dfea1a7e7b7af18e8e722a290") false fractionMakes_holds (fun _ h => by cases h) (by kernel_rfl) (fun _ h => by cases h) fractionMakes_row_tie rfl ⟨rfl, rfl⟩ (by kernel_rfl) rfl
    (fun f fn hf hfn => by
      obtain rfl : f = 3 := Option.some.inj ((show Tryd.prog.funcNamed "robotics/roboticslaw02.FractionMakes" = some 3 by kernel_rfl).symm.trans hf) |>.symm
      obtain rfl : fn = Tryd.f3 := (Option.some.inj (Tryd.func3.symm.trans hfn)).symm
      exact ⟨by kernel_rfl, fun j t ht => by
        rw [Tryd.params3] at ht
        have hm : t ∈ [26] := by simpa using Array.mem_of_getElem? ht
        have hall : ([26].all fun u => !Tryd.prog.wantsStandIn u) = true := by kernel_rfl
        exact (show Tryd.prog.wantsStandIn t = false by simpa using List.all_eq_true.1 hall t hm)⟩)
    (by kernel_rfl)
end Go.Proofs.YtjfehdkfogdpgaaDoor

/-
  Contracts of Cmp and Valid, and of the reference of fractions. Conditions: numbers of at most 300 digits together.
  Contracts of size and magnitude (the amount of an integer), and what an integer is as a fraction. Conditions: integers of 64 bits.
  Contracts of magnitude, Int and Ratio, and of copied. Conditions: integers of 64 bits.
  Fractions as they come in: a sign and two slices of digits that may have leading zeros. No conditions beyond those that each names.
  Contracts of Valid (both) at whatever sign and slices of digits, and of fit. Conditions: slices of at most 300 digits.
  Obligations of operations on words and on the digits of a number. No conditions beyond those that each names.
  Contract of signed: an integer with a sign as an int64. No conditions.
  More obligations of operations on words; the floor of a fraction. No conditions beyond those that each names.
-/
import Derived.Laws.Bits64b
import Derived.Test.YtjfehdkfogdpgaaDoorMaC
namespace Go.Proofs.YtjfehdkfogdpgaaDoor
open Go.RowKit
theorem Con.tri_0 (k l : Nat) (s : Bool) (p q : Nat) : (Con.tri k l s p q).Sub 0 (Con.bool s) := (Con.Sub.refl _).left
theorem Con.tri_1 (k l : Nat) (s : Bool) (p q : Nat) : (Con.tri k l s p q).Sub 1 (Con.nn k p) := ((Con.Sub.refl _).left (D := Con.nn l q)).right (C := Con.bool s)
theorem Con.tri_2 (k l : Nat) (s : Bool) (p q : Nat) : (Con.tri k l s p q).Sub 2 (Con.nn l q) := ((Con.Sub.refl _).right (C := Con.nn k p)).right (C := Con.bool s)
theorem natlen_zero (p : Nat) : (((Nm.nat p).length : Int) == 0) = decide (p = 0) := by
  by_cases h : p = 0
  · subst h; rw [Nm.nat_zero]; rfl
  · have : (Nm.nat p).length ≠ 0 := fun e => h ((Nm.nat_nil_iff p).1 (List.eq_nil_of_length_eq_zero e))
    rw [decide_eq_false h, beq_eq_false_iff_ne]; omega
set_option maxRecDepth 100000 in
theorem z_zero (k p : Nat) (b : Bool) (hbd : decide (p = 0) = b) : ∀ v0 w, (Fact.agg (Con.nn k p)).holds v0 w → Calls Tryd.prog 34 #[v0] w (Ret (Fact.eq (.bool b)) w) := by
  intro v0 w hv0
  refine sym_calls 7 [(0, Fact.agg (Con.nn k p))] Tryd.func34 rfl rfl (Nat.le_of_ble_eq_true rfl) (fcs ⟨⟨Nat.le_of_ble_eq_true rfl, hv0⟩, fnl⟩) fun a st => ?_
  have hb := Below.refl w.heap.size w
  refine wp_seq ?_
  refine sym_region st [(1, Fact.var' (Con.nn k p)), (2, Fact.eq (.bool false))] [1] 2 (by kernel_rfl) (by kernel_rfl) (by kernel_rfl) (Nat.le_of_ble_eq_true rfl) (by kernel_rfl) rfl rfl ?_ ?_
  · refine fcs ⟨obn_box 24 0 1 _ (Con.nn k p) rfl rfl rfl (by kernel_rfl) rfl rfl, ?_⟩
    refine fcs ⟨Ob.new_ (ob_const (.bool false) 2 (.inr rfl) rfl (.inl rfl) rfl) (by kernel_rfl), ?_⟩
    exact fnl
  intro a1 w1 st1 hbr1 hfr
  have hs1 := hbr1.size
  have hb := up hb hbr1
  obtain ⟨b1, c1⟩ := (show (Fact.var' (Con.nn k p)).holds _ _ from st1.at_ 1)
  have g1 := hfr.ge (s := 1) rfl c1.1
  have st : St 7 [(1, Fact.cell b1 (Con.nn k p)), (2, Fact.eq (.bool false))] a1 w1 := st1.to (fcs ⟨c1, fcs ⟨st1.at_ 2, fnl⟩⟩)
  clear st1 hbr1 hfr c1
  refine wpList_nil ?_
  refine then_normal ?_
  refine wp_seq ?_
  have st := st.to (ks' := [(1, Fact.cell b1 (Con.nn k p))]) (fcs ⟨st.at_ 1, fnl⟩)
  refine sym_region st [(3, Fact.ptr (Con.nn k p)), (4, Fact.rown k p), (5, Fact.eq (.int .i64 ((Nm.nat p).length : Int))), (6, Fact.eq (.bool b)), (2, Fact.eq (.bool b))] [] 5 (by kernel_rfl) (by kernel_rfl) (by kernel_rfl) (Nat.le_of_ble_eq_true rfl) (by kernel_rfl) rfl rfl ?_ ?_
  · refine fcs ⟨Ob.new_ (ob_addr 24 0 1 3 0 (Con.nn k p) (Con.nn k p) rfl rfl (.inl rfl) (by kernel_rfl) points_cell rfl (Con.Sub.refl _) field24_0) (by kernel_rfl), ?_⟩
    refine fcs ⟨Ob.new_ (ob_loadrow 3 4 k p rfl rfl (.inl rfl) (by kernel_rfl) points_ptr rfl) (by kernel_rfl), ?_⟩
    refine fcs ⟨Ob.new_ (ob_len 4 5 (Nm.nat p).length 22 rfl (by kernel_rfl) rfl (.inl rfl) (by kernel_rfl) len_rown rfl) (by kernel_rfl), ?_⟩
    refine fcs ⟨Ob.new_ (ob_eqc 5 6 .i64 3 _ ((Nm.nat p).length : Int) 0 b ((natlen_zero p).trans hbd) rfl rfl (.inl rfl) (by kernel_rfl) rfl rfl) (by kernel_rfl), ?_⟩
    refine fcs ⟨Ob.new_ (ob_copy 6 2 (.inr rfl) rfl (.inl rfl) (by kernel_rfl) rfl) (by kernel_rfl), ?_⟩
    exact fnl
  intro a2 w2 st2 hbr2 hfr
  have hs2 := hbr2.size
  have hb := up hb hbr2
  have st : St 7 [(2, Fact.eq (.bool b))] a2 w2 := st2.to (fcs ⟨st2.at_ 2, fnl⟩)
  clear st2 hbr2 hfr
  refine wpList_nil ?_
  refine then_normal ?_
  refine wp_ret ?_
  exact sym_ret1 rfl st.defers (resAt_tmp st 2) hb (fun _ h => h)
set_option maxRecDepth 100000 in
theorem z_make (k l r : Nat) (s : Bool) (p q : Nat) (hq : q ≠ 0) (hkr : k ≤ r) (hlr : l ≤ r) (hr : r ≤ 300) : ∀ v0 v1 v2 w, (Fact.eq (.bool s)).holds v0 w → (Fact.agg (Con.nn k p)).holds v1 w → (Fact.agg (Con.nn l q)).holds v2 w → Calls Tryd.prog 14 #[v0, v1, v2] w (Ret (Fact.two (Fact.fr r (Rt.of s p q)) (Fact.eq (.int .i64 0))) w) := by
  intro v0 v1 v2 w hv0 hv1 hv2
  cases s with
  | false =>
    refine sym_calls 44 [(0, Fact.eq (.bool false)), (1, Fact.agg (Con.nn k p)), (2, Fact.agg (Con.nn l q))] Tryd.func14 rfl rfl (Nat.le_of_ble_eq_true rfl) (fcs ⟨⟨Nat.le_of_ble_eq_true rfl, hv0⟩, fcs ⟨⟨Nat.le_of_ble_eq_true rfl, hv1⟩, fcs ⟨⟨Nat.le_of_ble_eq_true rfl, hv2⟩, fnl⟩⟩⟩) fun a st => ?_
    have hb := Below.refl w.heap.size w
    refine wp_seq ?_
    refine sym_region st [(4, Fact.var' (Con.nn k p)), (5, Fact.var' (Con.nn l q)), (6, Fact.var' (Con.raw 3)), (7, Fact.eq (.int .i64 0))] [4, 5, 6] 4 (by kernel_rfl) (by kernel_rfl) (by kernel_rfl) (Nat.le_of_ble_eq_true rfl) (by kernel_rfl) rfl rfl ?_ ?_
    · refine fcs ⟨obn_box 24 1 4 _ (Con.nn k p) rfl rfl rfl (by kernel_rfl) rfl rfl, ?_⟩
      refine fcs ⟨obn_box 24 2 5 _ (Con.nn l q) rfl rfl rfl (by kernel_rfl) rfl rfl, ?_⟩
      refine fcs ⟨obn_new 28 6 _ [.bool false, .slice none 0 0, .slice none 0 0] rfl rfl rfl rfl rfl alloc26, ?_⟩
      refine fcs ⟨Ob.new_ (ob_const (.int .i64 0) 7 (.inr rfl) rfl (.inl rfl) rfl) (by kernel_rfl), ?_⟩
      exact fnl
    intro a1 w1 st1 hbr1 hfr
    have hs1 := hbr1.size
    have hb := up hb hbr1
    obtain ⟨b4, c4⟩ := (show (Fact.var' (Con.nn k p)).holds _ _ from st1.at_ 4)
    have g4 := hfr.ge (s := 4) rfl c4.1
    obtain ⟨b5, c5⟩ := (show (Fact.var' (Con.nn l q)).holds _ _ from st1.at_ 5)
    have g5 := hfr.ge (s := 5) rfl c5.1
    obtain ⟨b6, c6⟩ := (show (Fact.var' (Con.raw 3)).holds _ _ from st1.at_ 6)
    have g6 := hfr.ge (s := 6) rfl c6.1
    have ne4_5 := hfr.apart (s := 4) (t := 5) rfl rfl (by decide) c4.1 c5.1
    have ne4_6 := hfr.apart (s := 4) (t := 6) rfl rfl (by decide) c4.1 c6.1
    have ne5_6 := hfr.apart (s := 5) (t := 6) rfl rfl (by decide) c5.1 c6.1
    have st : St 44 [(0, Fact.eq (.bool false)), (4, Fact.cell b4 (Con.nn k p)), (5, Fact.cell b5 (Con.nn l q)), (6, Fact.cell b6 (Con.raw 3)), (7, Fact.eq (.int .i64 0))] a1 w1 := st1.to (fcs ⟨st1.at_ 0, fcs ⟨c4, fcs ⟨c5, fcs ⟨c6, fcs ⟨st1.at_ 7, fnl⟩⟩⟩⟩⟩)
    clear st1 hbr1 hfr c4 c5 c6
    refine wpList_nil ?_
    refine then_normal ?_
    refine wp_seq ?_
    refine wp_seq ?_
    refine sym_region st [(15, Fact.agg (Con.nn l q)), (16, Fact.eq (.bool false))] [] 2 (by kernel_rfl) (by kernel_rfl) (by kernel_rfl) (Nat.le_of_ble_eq_true rfl) (by kernel_rfl) rfl rfl ?_ ?_
    · refine fcs ⟨Ob.new_ (ob_read 24 5 15 (Con.nn l q) rfl rfl (.inl rfl) (by kernel_rfl) points_cell rfl row24 info24) (by kernel_rfl), ?_⟩
      refine fcs ⟨Ob.new_ (ob_call1 34 15 16 _ rfl rfl (.inl rfl) (by kernel_rfl) (by kernel_rfl) (z_zero l q false (decide_eq_false hq))) (by kernel_rfl), ?_⟩
      exact fnl
    intro a2 w2 st2 hbr2 hfr
    have hs2 := hbr2.size
    have hb := up hb hbr2
    have st : St 44 [(0, Fact.eq (.bool false)), (4, Fact.cell b4 (Con.nn k p)), (5, Fact.cell b5 (Con.nn l q)), (6, Fact.cell b6 (Con.raw 3)), (7, Fact.eq (.int .i64 0)), (16, Fact.eq (.bool false))] a2 w2 := st2.to (fcs ⟨st2.at_ 0, fcs ⟨st2.at_ 4, fcs ⟨st2.at_ 5, fcs ⟨st2.at_ 6, fcs ⟨st2.at_ 7, fcs ⟨st2.at_ 16, fnl⟩⟩⟩⟩⟩⟩)
    clear st2 hbr2 hfr
    refine wpList_nil ?_
    refine then_normal ?_
    refine wp_cond_false (st.at_ 16) ?_
    refine wp_skip ?_
    refine then_normal ?_
    refine wp_seq ?_
    refine sym_region st [(18, Fact.agg (Con.nn k p)), (19, Fact.agg (Con.nn l q)), (20, Fact.agg (Con.nn l (Nat.gcd p q))), (8, Fact.var' (Con.raw 1))] [8] 4 (by kernel_rfl) (by kernel_rfl) (by kernel_rfl) (Nat.le_of_ble_eq_true rfl) (by kernel_rfl) rfl rfl ?_ ?_
    · refine fcs ⟨Ob.new_ (ob_read 24 4 18 (Con.nn k p) rfl rfl (.inl rfl) (by kernel_rfl) points_cell rfl row24 info24) (by kernel_rfl), ?_⟩
      refine fcs ⟨Ob.new_ (ob_read 24 5 19 (Con.nn l q) rfl rfl (.inl rfl) (by kernel_rfl) points_cell rfl row24 info24) (by kernel_rfl), ?_⟩
      refine fcs ⟨Ob.new_ (ob_call2 35 18 19 20 _ rfl rfl (.inl rfl) (by kernel_rfl) (by kernel_rfl) (by kernel_rfl) (r_gcd k l p q hq (by omega) (by omega))) (by kernel_rfl), ?_⟩
      refine fcs ⟨obn_new 24 8 _ [.slice none 0 0] rfl rfl rfl rfl rfl alloc24, ?_⟩
      exact fnl
    intro a3 w3 st3 hbr3 hfr
    have hs3 := hbr3.size
    have hb := up hb hbr3
    obtain ⟨b8, c8⟩ := (show (Fact.var' (Con.raw 1)).holds _ _ from st3.at_ 8)
    have g8 := hfr.ge (s := 8) rfl c8.1
    have st : St 44 [(0, Fact.eq (.bool false)), (4, Fact.cell b4 (Con.nn k p)), (5, Fact.cell b5 (Con.nn l q)), (6, Fact.cell b6 (Con.raw 3)), (7, Fact.eq (.int .i64 0)), (20, Fact.agg (Con.nn l (Nat.gcd p q))), (8, Fact.cell b8 (Con.raw 1))] a3 w3 := st3.to (fcs ⟨st3.at_ 0, fcs ⟨st3.at_ 4, fcs ⟨st3.at_ 5, fcs ⟨st3.at_ 6, fcs ⟨st3.at_ 7, fcs ⟨st3.at_ 20, fcs ⟨c8, fnl⟩⟩⟩⟩⟩⟩⟩)
    clear st3 hbr3 hfr c8
    refine sym_store st 24 8 20 b8 (Con.raw 1) (Con.nn l (Nat.gcd p q)) [(0, Fact.eq (.bool false)), (4, Fact.cell b4 (Con.nn k p)), (5, Fact.cell b5 (Con.nn l q)), (6, Fact.cell b6 (Con.raw 3)), (7, Fact.eq (.int .i64 0)), (8, Fact.cell b8 (Con.nn l (Nat.gcd p q)))] rfl rfl rfl rfl rfl rfl info24 ?_ ?_
    · exact fcs ⟨.inr ⟨rfl, safe_eq _ _⟩, fcs ⟨.inr ⟨rfl, safe_cell _ (by omega)⟩, fcs ⟨.inr ⟨rfl, safe_cell _ (by omega)⟩, fcs ⟨.inr ⟨rfl, safe_cell _ (by omega)⟩, fcs ⟨.inr ⟨rfl, safe_eq _ _⟩, fcs ⟨.inl rfl, fnl⟩⟩⟩⟩⟩⟩
    clear st; intro w4 hB hsz4 st
    have hb := hB _ _ hb (by omega) (by omega)
    clear hB
    refine wpList_nil ?_
    refine then_normal ?_
    refine wp_seq ?_
    refine sym_region st [(22, Fact.agg (Con.nn k p)), (23, Fact.agg (Con.nn l (Nat.gcd p q))), (24, Fact.three (Fact.agg (Con.nn k (p / (Nat.gcd p q)))) (Fact.agg (Con.nn l (p % (Nat.gcd p q)))) (Fact.eq (.int .i64 0))), (21, Fact.three (Fact.agg (Con.nn k (p / (Nat.gcd p q)))) (Fact.agg (Con.nn l (p % (Nat.gcd p q)))) (Fact.eq (.int .i64 0))), (25, Fact.agg (Con.nn k (p / (Nat.gcd p q)))), (26, Fact.agg (Con.nn l (p % (Nat.gcd p q)))), (27, Fact.eq (.int .i64 0)), (9, Fact.var' (Con.raw 1)), (10, Fact.var' (Con.raw 1))] [9, 10] 9 (by kernel_rfl) (by kernel_rfl) (by kernel_rfl) (Nat.le_of_ble_eq_true rfl) (by kernel_rfl) rfl rfl ?_ ?_
    · refine fcs ⟨Ob.new_ (ob_read 24 4 22 (Con.nn k p) rfl rfl (.inl rfl) (by kernel_rfl) points_cell rfl row24 info24) (by kernel_rfl), ?_⟩
      refine fcs ⟨Ob.new_ (ob_read 24 8 23 (Con.nn l (Nat.gcd p q)) rfl rfl (.inl rfl) (by kernel_rfl) points_cell rfl row24 info24) (by kernel_rfl), ?_⟩
      refine fcs ⟨Ob.new_ (ob_call2 36 22 23 24 _ rfl rfl (.inl rfl) (by kernel_rfl) (by kernel_rfl) (by kernel_rfl) (r_divMod k l p (Nat.gcd p q) (Nat.ne_of_gt (Rt.gcd_pos hq)) (by omega) (by omega))) (by kernel_rfl), ?_⟩
      refine fcs ⟨Ob.new_ (ob_copy 24 21 (.inl rfl) rfl (.inl rfl) (by kernel_rfl) rfl) (by kernel_rfl), ?_⟩
      refine fcs ⟨Ob.new_ (ob_3a 21 25 (Fact.agg (Con.nn k (p / (Nat.gcd p q)))) (Fact.agg (Con.nn l (p % (Nat.gcd p q)))) (Fact.eq (.int .i64 0)) rfl rfl (.inl rfl) (by kernel_rfl) rfl rfl) (by kernel_rfl), ?_⟩
      refine fcs ⟨Ob.new_ (ob_3b 21 26 (Fact.agg (Con.nn k (p / (Nat.gcd p q)))) (Fact.agg (Con.nn l (p % (Nat.gcd p q)))) (Fact.eq (.int .i64 0)) rfl rfl (.inl rfl) (by kernel_rfl) rfl rfl) (by kernel_rfl), ?_⟩
      refine fcs ⟨Ob.new_ (ob_3c 21 27 (Fact.agg (Con.nn k (p / (Nat.gcd p q)))) (Fact.agg (Con.nn l (p % (Nat.gcd p q)))) (Fact.eq (.int .i64 0)) rfl rfl (.inl rfl) (by kernel_rfl) rfl rfl) (by kernel_rfl), ?_⟩
      refine fcs ⟨obn_new 24 9 _ [.slice none 0 0] rfl rfl rfl rfl rfl alloc24, ?_⟩
      refine fcs ⟨obn_new 24 10 _ [.slice none 0 0] rfl rfl rfl rfl rfl alloc24, ?_⟩
      exact fnl
    intro a5 w5 st5 hbr5 hfr
    have hs5 := hbr5.size
    have hb := up hb hbr5
    obtain ⟨b9, c9⟩ := (show (Fact.var' (Con.raw 1)).holds _ _ from st5.at_ 9)
    have g9 := hfr.ge (s := 9) rfl c9.1
    obtain ⟨b10, c10⟩ := (show (Fact.var' (Con.raw 1)).holds _ _ from st5.at_ 10)
    have g10 := hfr.ge (s := 10) rfl c10.1
    have ne9_10 := hfr.apart (s := 9) (t := 10) rfl rfl (by decide) c9.1 c10.1
    have st : St 44 [(0, Fact.eq (.bool false)), (4, Fact.cell b4 (Con.nn k p)), (5, Fact.cell b5 (Con.nn l q)), (6, Fact.cell b6 (Con.raw 3)), (7, Fact.eq (.int .i64 0)), (8, Fact.cell b8 (Con.nn l (Nat.gcd p q))), (25, Fact.agg (Con.nn k (p / (Nat.gcd p q)))), (26, Fact.agg (Con.nn l (p % (Nat.gcd p q)))), (27, Fact.eq (.int .i64 0)), (9, Fact.cell b9 (Con.raw 1)), (10, Fact.cell b10 (Con.raw 1))] a5 w5 := st5.to (fcs ⟨st5.at_ 0, fcs ⟨st5.at_ 4, fcs ⟨st5.at_ 5, fcs ⟨st5.at_ 6, fcs ⟨st5.at_ 7, fcs ⟨st5.at_ 8, fcs ⟨st5.at_ 25, fcs ⟨st5.at_ 26, fcs ⟨st5.at_ 27, fcs ⟨c9, fcs ⟨c10, fnl⟩⟩⟩⟩⟩⟩⟩⟩⟩⟩⟩)
    clear st5 hbr5 hfr c9 c10
    refine sym_store st 24 9 25 b9 (Con.raw 1) (Con.nn k (p / (Nat.gcd p q))) [(0, Fact.eq (.bool false)), (4, Fact.cell b4 (Con.nn k p)), (5, Fact.cell b5 (Con.nn l q)), (6, Fact.cell b6 (Con.raw 3)), (7, Fact.eq (.int .i64 0)), (8, Fact.cell b8 (Con.nn l (Nat.gcd p q))), (26, Fact.agg (Con.nn l (p % (Nat.gcd p q)))), (27, Fact.eq (.int .i64 0)), (9, Fact.cell b9 (Con.nn k (p / (Nat.gcd p q)))), (10, Fact.cell b10 (Con.raw 1))] rfl rfl rfl rfl rfl rfl info24 ?_ ?_
    · exact fcs ⟨.inr ⟨rfl, safe_eq _ _⟩, fcs ⟨.inr ⟨rfl, safe_cell _ (by omega)⟩, fcs ⟨.inr ⟨rfl, safe_cell _ (by omega)⟩, fcs ⟨.inr ⟨rfl, safe_cell _ (by omega)⟩, fcs ⟨.inr ⟨rfl, safe_eq _ _⟩, fcs ⟨.inr ⟨rfl, safe_cell _ (by omega)⟩, fcs ⟨.inr ⟨rfl, safe_agg _ _⟩, fcs ⟨.inr ⟨rfl, safe_eq _ _⟩, fcs ⟨.inl rfl, fcs ⟨.inr ⟨rfl, safe_cell _ (by omega)⟩, fnl⟩⟩⟩⟩⟩⟩⟩⟩⟩⟩
    clear st; intro w6 hB hsz6 st
    have hb := hB _ _ hb (by omega) (by omega)
    clear hB
    refine sym_store st 24 10 26 b10 (Con.raw 1) (Con.nn l (p % (Nat.gcd p q))) [(0, Fact.eq (.bool false)), (4, Fact.cell b4 (Con.nn k p)), (5, Fact.cell b5 (Con.nn l q)), (6, Fact.cell b6 (Con.raw 3)), (7, Fact.eq (.int .i64 0)), (8, Fact.cell b8 (Con.nn l (Nat.gcd p q))), (27, Fact.eq (.int .i64 0)), (9, Fact.cell b9 (Con.nn k (p / (Nat.gcd p q)))), (10, Fact.cell b10 (Con.nn l (p % (Nat.gcd p q))))] rfl rfl rfl rfl rfl rfl info24 ?_ ?_
    · exact fcs ⟨.inr ⟨rfl, safe_eq _ _⟩, fcs ⟨.inr ⟨rfl, safe_cell _ (by omega)⟩, fcs ⟨.inr ⟨rfl, safe_cell _ (by omega)⟩, fcs ⟨.inr ⟨rfl, safe_cell _ (by omega)⟩, fcs ⟨.inr ⟨rfl, safe_eq _ _⟩, fcs ⟨.inr ⟨rfl, safe_cell _ (by omega)⟩, fcs ⟨.inr ⟨rfl, safe_eq _ _⟩, fcs ⟨.inr ⟨rfl, safe_cell _ (by omega)⟩, fcs ⟨.inl rfl, fnl⟩⟩⟩⟩⟩⟩⟩⟩⟩
    clear st; intro w7 hB hsz7 st
    have hb := hB _ _ hb (by omega) (by omega)
    clear hB
    refine sym_op st 11 (Fact.eq (.int .i64 0)) rfl (Nat.le_of_ble_eq_true rfl) rfl rfl (by kernel_rfl) (ob_copy 27 11 (.inr rfl) rfl (.inl rfl) (by kernel_rfl) rfl) ?_
    clear st; intro a8 w8 hbr st; have hs8 := hbr.size; have hb := up hb hbr; clear hbr
    refine wpList_nil ?_
    refine then_normal ?_
    refine wp_seq ?_
    refine sym_region st [(29, Fact.agg (Con.nn l q)), (30, Fact.agg (Con.nn l (Nat.gcd p q))), (31, Fact.three (Fact.agg (Con.nn l (q / (Nat.gcd p q)))) (Fact.agg (Con.nn l (q % (Nat.gcd p q)))) (Fact.eq (.int .i64 0))), (28, Fact.three (Fact.agg (Con.nn l (q / (Nat.gcd p q)))) (Fact.agg (Con.nn l (q % (Nat.gcd p q)))) (Fact.eq (.int .i64 0))), (32, Fact.agg (Con.nn l (q / (Nat.gcd p q)))), (33, Fact.agg (Con.nn l (q % (Nat.gcd p q)))), (34, Fact.eq (.int .i64 0)), (12, Fact.var' (Con.raw 1)), (13, Fact.var' (Con.raw 1))] [12, 13] 9 (by kernel_rfl) (by kernel_rfl) (by kernel_rfl) (Nat.le_of_ble_eq_true rfl) (by kernel_rfl) rfl rfl ?_ ?_
    · refine fcs ⟨Ob.new_ (ob_read 24 5 29 (Con.nn l q) rfl rfl (.inl rfl) (by kernel_rfl) points_cell rfl row24 info24) (by kernel_rfl), ?_⟩
      refine fcs ⟨Ob.new_ (ob_read 24 8 30 (Con.nn l (Nat.gcd p q)) rfl rfl (.inl rfl) (by kernel_rfl) points_cell rfl row24 info24) (by kernel_rfl), ?_⟩
      refine fcs ⟨Ob.new_ (ob_call2 36 29 30 31 _ rfl rfl (.inl rfl) (by kernel_rfl) (by kernel_rfl) (by kernel_rfl) (r_divMod l l q (Nat.gcd p q) (Nat.ne_of_gt (Rt.gcd_pos hq)) (by omega) (by omega))) (by kernel_rfl), ?_⟩
      refine fcs ⟨Ob.new_ (ob_copy 31 28 (.inl rfl) rfl (.inl rfl) (by kernel_rfl) rfl) (by kernel_rfl), ?_⟩
      refine fcs ⟨Ob.new_ (ob_3a 28 32 (Fact.agg (Con.nn l (q / (Nat.gcd p q)))) (Fact.agg (Con.nn l (q % (Nat.gcd p q)))) (Fact.eq (.int .i64 0)) rfl rfl (.inl rfl) (by kernel_rfl) rfl rfl) (by kernel_rfl), ?_⟩
      refine fcs ⟨Ob.new_ (ob_3b 28 33 (Fact.agg (Con.nn l (q / (Nat.gcd p q)))) (Fact.agg (Con.nn l (q % (Nat.gcd p q)))) (Fact.eq (.int .i64 0)) rfl rfl (.inl rfl) (by kernel_rfl) rfl rfl) (by kernel_rfl), ?_⟩
      refine fcs ⟨Ob.new_ (ob_3c 28 34 (Fact.agg (Con.nn l (q / (Nat.gcd p q)))) (Fact.agg (Con.nn l (q % (Nat.gcd p q)))) (Fact.eq (.int .i64 0)) rfl rfl (.inl rfl) (by kernel_rfl) rfl rfl) (by kernel_rfl), ?_⟩
      refine fcs ⟨obn_new 24 12 _ [.slice none 0 0] rfl rfl rfl rfl rfl alloc24, ?_⟩
      refine fcs ⟨obn_new 24 13 _ [.slice none 0 0] rfl rfl rfl rfl rfl alloc24, ?_⟩
      exact fnl
    intro a9 w9 st9 hbr9 hfr
    have hs9 := hbr9.size
    have hb := up hb hbr9
    obtain ⟨b12, c12⟩ := (show (Fact.var' (Con.raw 1)).holds _ _ from st9.at_ 12)
    have g12 := hfr.ge (s := 12) rfl c12.1
    obtain ⟨b13, c13⟩ := (show (Fact.var' (Con.raw 1)).holds _ _ from st9.at_ 13)
    have g13 := hfr.ge (s := 13) rfl c13.1
    have ne12_13 := hfr.apart (s := 12) (t := 13) rfl rfl (by decide) c12.1 c13.1
    have st : St 44 [(0, Fact.eq (.bool false)), (4, Fact.cell b4 (Con.nn k p)), (6, Fact.cell b6 (Con.raw 3)), (7, Fact.eq (.int .i64 0)), (9, Fact.cell b9 (Con.nn k (p / (Nat.gcd p q)))), (32, Fact.agg (Con.nn l (q / (Nat.gcd p q)))), (33, Fact.agg (Con.nn l (q % (Nat.gcd p q)))), (34, Fact.eq (.int .i64 0)), (12, Fact.cell b12 (Con.raw 1)), (13, Fact.cell b13 (Con.raw 1))] a9 w9 := st9.to (fcs ⟨st9.at_ 0, fcs ⟨st9.at_ 4, fcs ⟨st9.at_ 6, fcs ⟨st9.at_ 7, fcs ⟨st9.at_ 9, fcs ⟨st9.at_ 32, fcs ⟨st9.at_ 33, fcs ⟨st9.at_ 34, fcs ⟨c12, fcs ⟨c13, fnl⟩⟩⟩⟩⟩⟩⟩⟩⟩⟩)
    clear st9 hbr9 hfr c12 c13
    refine sym_store st 24 12 32 b12 (Con.raw 1) (Con.nn l (q / (Nat.gcd p q))) [(0, Fact.eq (.bool false)), (4, Fact.cell b4 (Con.nn k p)), (6, Fact.cell b6 (Con.raw 3)), (7, Fact.eq (.int .i64 0)), (9, Fact.cell b9 (Con.nn k (p / (Nat.gcd p q)))), (33, Fact.agg (Con.nn l (q % (Nat.gcd p q)))), (34, Fact.eq (.int .i64 0)), (12, Fact.cell b12 (Con.nn l (q / (Nat.gcd p q)))), (13, Fact.cell b13 (Con.raw 1))] rfl rfl rfl rfl rfl rfl info24 ?_ ?_
    · exact fcs ⟨.inr ⟨rfl, safe_eq _ _⟩, fcs ⟨.inr ⟨rfl, safe_cell _ (by omega)⟩, fcs ⟨.inr ⟨rfl, safe_cell _ (by omega)⟩, fcs ⟨.inr ⟨rfl, safe_eq _ _⟩, fcs ⟨.inr ⟨rfl, safe_cell _ (by omega)⟩, fcs ⟨.inr ⟨rfl, safe_agg _ _⟩, fcs ⟨.inr ⟨rfl, safe_eq _ _⟩, fcs ⟨.inl rfl, fcs ⟨.inr ⟨rfl, safe_cell _ (by omega)⟩, fnl⟩⟩⟩⟩⟩⟩⟩⟩⟩
    clear st; intro w10 hB hsz10 st
    have hb := hB _ _ hb (by omega) (by omega)
    clear hB
    refine sym_store st 24 13 33 b13 (Con.raw 1) (Con.nn l (q % (Nat.gcd p q))) [(0, Fact.eq (.bool false)), (4, Fact.cell b4 (Con.nn k p)), (6, Fact.cell b6 (Con.raw 3)), (7, Fact.eq (.int .i64 0)), (9, Fact.cell b9 (Con.nn k (p / (Nat.gcd p q)))), (34, Fact.eq (.int .i64 0)), (12, Fact.cell b12 (Con.nn l (q / (Nat.gcd p q)))), (13, Fact.cell b13 (Con.nn l (q % (Nat.gcd p q))))] rfl rfl rfl rfl rfl rfl info24 ?_ ?_
    · exact fcs ⟨.inr ⟨rfl, safe_eq _ _⟩, fcs ⟨.inr ⟨rfl, safe_cell _ (by omega)⟩, fcs ⟨.inr ⟨rfl, safe_cell _ (by omega)⟩, fcs ⟨.inr ⟨rfl, safe_eq _ _⟩, fcs ⟨.inr ⟨rfl, safe_cell _ (by omega)⟩, fcs ⟨.inr ⟨rfl, safe_eq _ _⟩, fcs ⟨.inr ⟨rfl, safe_cell _ (by omega)⟩, fcs ⟨.inl rfl, fnl⟩⟩⟩⟩⟩⟩⟩⟩
    clear st; intro w11 hB hsz11 st
    have hb := hB _ _ hb (by omega) (by omega)
    clear hB
    refine sym_op st 14 (Fact.eq (.int .i64 0)) rfl (Nat.le_of_ble_eq_true rfl) rfl rfl (by kernel_rfl) (ob_copy 34 14 (.inr rfl) rfl (.inl rfl) (by kernel_rfl) rfl) ?_
    clear st; intro a12 w12 hbr st; have hs12 := hbr.size; have hb := up hb hbr; clear hbr
    refine wpList_nil ?_
    refine then_normal ?_
    refine wp_seq ?_
    have st := st.to (ks' := [(0, Fact.eq (.bool false)), (4, Fact.cell b4 (Con.nn k p)), (6, Fact.cell b6 (Con.raw 3)), (9, Fact.cell b9 (Con.nn k (p / (Nat.gcd p q)))), (12, Fact.cell b12 (Con.nn l (q / (Nat.gcd p q))))]) (fcs ⟨st.at_ 0, fcs ⟨st.at_ 4, fcs ⟨st.at_ 6, fcs ⟨st.at_ 9, fcs ⟨st.at_ 12, fnl⟩⟩⟩⟩⟩)
    refine sym_region st [(35, Fact.eq (.bool false)), (36, Fact.eq (.bool false)), (37, Fact.eq undef), (38, Fact.eq undef), (39, Fact.eq undef), (40, Fact.eq (.bool false)), (41, Fact.agg (Con.nn k (p / (Nat.gcd p q)))), (42, Fact.agg (Con.nn l (q / (Nat.gcd p q)))), (43, Fact.agg (Con.tri k l false (p / (Nat.gcd p q)) (q / (Nat.gcd p q))))] [] 9 (by kernel_rfl) (by kernel_rfl) (by kernel_rfl) (Nat.le_of_ble_eq_true rfl) (by kernel_rfl) rfl rfl ?_ ?_
    · refine fcs ⟨Ob.new_ (ob_copy 0 35 (.inl rfl) rfl (.inl rfl) (by kernel_rfl) rfl) (by kernel_rfl), ?_⟩
      refine fcs ⟨Ob.new_ (ob_copy 35 36 (.inl rfl) rfl (.inl rfl) (by kernel_rfl) rfl) (by kernel_rfl), ?_⟩
      refine fcs ⟨Ob.new_ (ob_skip 1 36 37 true rfl rfl (by kernel_rfl) (by decide) rfl rfl rfl) (by kernel_rfl), ?_⟩
      refine fcs ⟨Ob.new_ (ob_skip 1 36 38 true rfl rfl (by kernel_rfl) (by decide) rfl rfl rfl) (by kernel_rfl), ?_⟩
      refine fcs ⟨Ob.new_ (ob_skip 1 36 39 true rfl rfl (by kernel_rfl) (by decide) rfl rfl rfl) (by kernel_rfl), ?_⟩
      refine fcs ⟨Ob.new_ (ob_pick_no 36 39 40 (.bool false) rfl rfl (.inl rfl) (by kernel_rfl) rfl rfl) (by kernel_rfl), ?_⟩
      refine fcs ⟨Ob.new_ (ob_read 24 9 41 (Con.nn k (p / (Nat.gcd p q))) rfl rfl (.inl rfl) (by kernel_rfl) points_cell rfl row24 info24) (by kernel_rfl), ?_⟩
      refine fcs ⟨Ob.new_ (ob_read 24 12 42 (Con.nn l (q / (Nat.gcd p q))) rfl rfl (.inl rfl) (by kernel_rfl) points_cell rfl row24 info24) (by kernel_rfl), ?_⟩
      refine fcs ⟨Ob.new_ (ob_buildtri 40 41 42 43 k l (p / (Nat.gcd p q)) (q / (Nat.gcd p q)) false rfl rfl (.inl rfl) (by kernel_rfl) (by kernel_rfl) (by kernel_rfl) rfl rfl rfl rfl) (by kernel_rfl), ?_⟩
      exact fnl
    intro a13 w13 st13 hbr13 hfr
    have hs13 := hbr13.size
    have hb := up hb hbr13
    have st : St 44 [(6, Fact.cell b6 (Con.raw 3)), (43, Fact.agg (Con.tri k l false (p / (Nat.gcd p q)) (q / (Nat.gcd p q))))] a13 w13 := st13.to (fcs ⟨st13.at_ 6, fcs ⟨st13.at_ 43, fnl⟩⟩)
    clear st13 hbr13 hfr
    refine sym_store st 28 6 43 b6 (Con.raw 3) (Con.tri k l false (p / (Nat.gcd p q)) (q / (Nat.gcd p q))) [(6, Fact.cell b6 (Con.tri k l false (p / (Nat.gcd p q)) (q / (Nat.gcd p q))))] rfl rfl rfl rfl rfl rfl info26 ?_ ?_
    · exact fcs ⟨.inl rfl, fnl⟩
    clear st; intro w14 hB hsz14 st
    have hb := hB _ _ hb (by omega) (by omega)
    clear hB
    refine sym_op st 7 (Fact.eq (.int .i64 0)) rfl (Nat.le_of_ble_eq_true rfl) rfl rfl (by kernel_rfl) (ob_const (.int .i64 0) 7 (.inr rfl) rfl (.inl rfl) rfl) ?_
    clear st; intro a15 w15 hbr st; have hs15 := hbr.size; have hb := up hb hbr; clear hbr
    refine wpList_nil ?_
    refine then_normal ?_
    refine wp_ret ?_
    exact sym_ret2 rfl st.defers (resAt_cell st 6 b6 28 (Con.tri k l false (p / (Nat.gcd p q)) (q / (Nat.gcd p q))) rfl row26 info26) (resAt_tmp st 7) hb (fun v u h1 h2 => ⟨v, u, rfl, Fact.tri_fr h1 hq (rfl) rfl rfl rfl hkr hlr, h2⟩)
  | true =>
    refine sym_calls 44 [(0, Fact.eq (.bool true)), (1, Fact.agg (Con.nn k p)), (2, Fact.agg (Con.nn l q))] Tryd.func14 rfl rfl (Nat.le_of_ble_eq_true rfl) (fcs ⟨⟨Nat.le_of_ble_eq_true rfl, hv0⟩, fcs ⟨⟨Nat.le_of_ble_eq_true rfl, hv1⟩, fcs ⟨⟨Nat.le_of_ble_eq_true rfl, hv2⟩, fnl⟩⟩⟩) fun a st => ?_
    have hb := Below.refl w.heap.size w
    refine wp_seq ?_
    refine sym_region st [(4, Fact.var' (Con.nn k p)), (5, Fact.var' (Con.nn l q)), (6, Fact.var' (Con.raw 3)), (7, Fact.eq (.int .i64 0))] [4, 5, 6] 4 (by kernel_rfl) (by kernel_rfl) (by kernel_rfl) (Nat.le_of_ble_eq_true rfl) (by kernel_rfl) rfl rfl ?_ ?_
    · refine fcs ⟨obn_box 24 1 4 _ (Con.nn k p) rfl rfl rfl (by kernel_rfl) rfl rfl, ?_⟩
      refine fcs ⟨obn_box 24 2 5 _ (Con.nn l q) rfl rfl rfl (by kernel_rfl) rfl rfl, ?_⟩
      refine fcs ⟨obn_new 28 6 _ [.bool false, .slice none 0 0, .slice none 0 0] rfl rfl rfl rfl rfl alloc26, ?_⟩
      refine fcs ⟨Ob.new_ (ob_const (.int .i64 0) 7 (.inr rfl) rfl (.inl rfl) rfl) (by kernel_rfl), ?_⟩
      exact fnl
    intro a1 w1 st1 hbr1 hfr
    have hs1 := hbr1.size
    have hb := up hb hbr1
    obtain ⟨b4, c4⟩ := (show (Fact.var' (Con.nn k p)).holds _ _ from st1.at_ 4)
    have g4 := hfr.ge (s := 4) rfl c4.1
    obtain ⟨b5, c5⟩ := (show (Fact.var' (Con.nn l q)).holds _ _ from st1.at_ 5)
    have g5 := hfr.ge (s := 5) rfl c5.1
    obtain ⟨b6, c6⟩ := (show (Fact.var' (Con.raw 3)).holds _ _ from st1.at_ 6)
    have g6 := hfr.ge (s := 6) rfl c6.1
    have ne4_5 := hfr.apart (s := 4) (t := 5) rfl rfl (by decide) c4.1 c5.1
    have ne4_6 := hfr.apart (s := 4) (t := 6) rfl rfl (by decide) c4.1 c6.1
    have ne5_6 := hfr.apart (s := 5) (t := 6) rfl rfl (by decide) c5.1 c6.1
    have st : St 44 [(0, Fact.eq (.bool true)), (4, Fact.cell b4 (Con.nn k p)), (5, Fact.cell b5 (Con.nn l q)), (6, Fact.cell b6 (Con.raw 3)), (7, Fact.eq (.int .i64 0))] a1 w1 := st1.to (fcs ⟨st1.at_ 0, fcs ⟨c4, fcs ⟨c5, fcs ⟨c6, fcs ⟨st1.at_ 7, fnl⟩⟩⟩⟩⟩)
    clear st1 hbr1 hfr c4 c5 c6
    refine wpList_nil ?_
    refine then_normal ?_
    refine wp_seq ?_
    refine wp_seq ?_
    refine sym_region st [(15, Fact.agg (Con.nn l q)), (16, Fact.eq (.bool false))] [] 2 (by kernel_rfl) (by kernel_rfl) (by kernel_rfl) (Nat.le_of_ble_eq_true rfl) (by kernel_rfl) rfl rfl ?_ ?_
    · refine fcs ⟨Ob.new_ (ob_read 24 5 15 (Con.nn l q) rfl rfl (.inl rfl) (by kernel_rfl) points_cell rfl row24 info24) (by kernel_rfl), ?_⟩
      refine fcs ⟨Ob.new_ (ob_call1 34 15 16 _ rfl rfl (.inl rfl) (by kernel_rfl) (by kernel_rfl) (z_zero l q false (decide_eq_false hq))) (by kernel_rfl), ?_⟩
      exact fnl
    intro a2 w2 st2 hbr2 hfr
    have hs2 := hbr2.size
    have hb := up hb hbr2
    have st : St 44 [(0, Fact.eq (.bool true)), (4, Fact.cell b4 (Con.nn k p)), (5, Fact.cell b5 (Con.nn l q)), (6, Fact.cell b6 (Con.raw 3)), (7, Fact.eq (.int .i64 0)), (16, Fact.eq (.bool false))] a2 w2 := st2.to (fcs ⟨st2.at_ 0, fcs ⟨st2.at_ 4, fcs ⟨st2.at_ 5, fcs ⟨st2.at_ 6, fcs ⟨st2.at_ 7, fcs ⟨st2.at_ 16, fnl⟩⟩⟩⟩⟩⟩)
    clear st2 hbr2 hfr
    refine wpList_nil ?_
    refine then_normal ?_
    refine wp_cond_false (st.at_ 16) ?_
    refine wp_skip ?_
    refine then_normal ?_
    refine wp_seq ?_
    refine sym_region st [(18, Fact.agg (Con.nn k p)), (19, Fact.agg (Con.nn l q)), (20, Fact.agg (Con.nn l (Nat.gcd p q))), (8, Fact.var' (Con.raw 1))] [8] 4 (by kernel_rfl) (by kernel_rfl) (by kernel_rfl) (Nat.le_of_ble_eq_true rfl) (by kernel_rfl) rfl rfl ?_ ?_
    · refine fcs ⟨Ob.new_ (ob_read 24 4 18 (Con.nn k p) rfl rfl (.inl rfl) (by kernel_rfl) points_cell rfl row24 info24) (by kernel_rfl), ?_⟩
      refine fcs ⟨Ob.new_ (ob_read 24 5 19 (Con.nn l q) rfl rfl (.inl rfl) (by kernel_rfl) points_cell rfl row24 info24) (by kernel_rfl), ?_⟩
      refine fcs ⟨Ob.new_ (ob_call2 35 18 19 20 _ rfl rfl (.inl rfl) (by kernel_rfl) (by kernel_rfl) (by kernel_rfl) (r_gcd k l p q hq (by omega) (by omega))) (by kernel_rfl), ?_⟩
      refine fcs ⟨obn_new 24 8 _ [.slice none 0 0] rfl rfl rfl rfl rfl alloc24, ?_⟩
      exact fnl
    intro a3 w3 st3 hbr3 hfr
    have hs3 := hbr3.size
    have hb := up hb hbr3
    obtain ⟨b8, c8⟩ := (show (Fact.var' (Con.raw 1)).holds _ _ from st3.at_ 8)
    have g8 := hfr.ge (s := 8) rfl c8.1
    have st : St 44 [(0, Fact.eq (.bool true)), (4, Fact.cell b4 (Con.nn k p)), (5, Fact.cell b5 (Con.nn l q)), (6, Fact.cell b6 (Con.raw 3)), (7, Fact.eq (.int .i64 0)), (20, Fact.agg (Con.nn l (Nat.gcd p q))), (8, Fact.cell b8 (Con.raw 1))] a3 w3 := st3.to (fcs ⟨st3.at_ 0, fcs ⟨st3.at_ 4, fcs ⟨st3.at_ 5, fcs ⟨st3.at_ 6, fcs ⟨st3.at_ 7, fcs ⟨st3.at_ 20, fcs ⟨c8, fnl⟩⟩⟩⟩⟩⟩⟩)
    clear st3 hbr3 hfr c8
    refine sym_store st 24 8 20 b8 (Con.raw 1) (Con.nn l (Nat.gcd p q)) [(0, Fact.eq (.bool true)), (4, Fact.cell b4 (Con.nn k p)), (5, Fact.cell b5 (Con.nn l q)), (6, Fact.cell b6 (Con.raw 3)), (7, Fact.eq (.int .i64 0)), (8, Fact.cell b8 (Con.nn l (Nat.gcd p q)))] rfl rfl rfl rfl rfl rfl info24 ?_ ?_
    · exact fcs ⟨.inr ⟨rfl, safe_eq _ _⟩, fcs ⟨.inr ⟨rfl, safe_cell _ (by omega)⟩, fcs ⟨.inr ⟨rfl, safe_cell _ (by omega)⟩, fcs ⟨.inr ⟨rfl, safe_cell _ (by omega)⟩, fcs ⟨.inr ⟨rfl, safe_eq _ _⟩, fcs ⟨.inl rfl, fnl⟩⟩⟩⟩⟩⟩
    clear st; intro w4 hB hsz4 st
    have hb := hB _ _ hb (by omega) (by omega)
    clear hB
    refine wpList_nil ?_
    refine then_normal ?_
    refine wp_seq ?_
    refine sym_region st [(22, Fact.agg (Con.nn k p)), (23, Fact.agg (Con.nn l (Nat.gcd p q))), (24, Fact.three (Fact.agg (Con.nn k (p / (Nat.gcd p q)))) (Fact.agg (Con.nn l (p % (Nat.gcd p q)))) (Fact.eq (.int .i64 0))), (21, Fact.three (Fact.agg (Con.nn k (p / (Nat.gcd p q)))) (Fact.agg (Con.nn l (p % (Nat.gcd p q)))) (Fact.eq (.int .i64 0))), (25, Fact.agg (Con.nn k (p / (Nat.gcd p q)))), (26, Fact.agg (Con.nn l (p % (Nat.gcd p q)))), (27, Fact.eq (.int .i64 0)), (9, Fact.var' (Con.raw 1)), (10, Fact.var' (Con.raw 1))] [9, 10] 9 (by kernel_rfl) (by kernel_rfl) (by kernel_rfl) (Nat.le_of_ble_eq_true rfl) (by kernel_rfl) rfl rfl ?_ ?_
    · refine fcs ⟨Ob.new_ (ob_read 24 4 22 (Con.nn k p) rfl rfl (.inl rfl) (by kernel_rfl) points_cell rfl row24 info24) (by kernel_rfl), ?_⟩
      refine fcs ⟨Ob.new_ (ob_read 24 8 23 (Con.nn l (Nat.gcd p q)) rfl rfl (.inl rfl) (by kernel_rfl) points_cell rfl row24 info24) (by kernel_rfl), ?_⟩
      refine fcs ⟨Ob.new_ (ob_call2 36 22 23 24 _ rfl rfl (.inl rfl) (by kernel_rfl) (by kernel_rfl) (by kernel_rfl) (r_divMod k l p (Nat.gcd p q) (Nat.ne_of_gt (Rt.gcd_pos hq)) (by omega) (by omega))) (by kernel_rfl), ?_⟩
      refine fcs ⟨Ob.new_ (ob_copy 24 21 (.inl rfl) rfl (.inl rfl) (by kernel_rfl) rfl) (by kernel_rfl), ?_⟩
      refine fcs ⟨Ob.new_ (ob_3a 21 25 (Fact.agg (Con.nn k (p / (Nat.gcd p q)))) (Fact.agg (Con.nn l (p % (Nat.gcd p q)))) (Fact.eq (.int .i64 0)) rfl rfl (.inl rfl) (by kernel_rfl) rfl rfl) (by kernel_rfl), ?_⟩
      refine fcs ⟨Ob.new_ (ob_3b 21 26 (Fact.agg (Con.nn k (p / (Nat.gcd p q)))) (Fact.agg (Con.nn l (p % (Nat.gcd p q)))) (Fact.eq (.int .i64 0)) rfl rfl (.inl rfl) (by kernel_rfl) rfl rfl) (by kernel_rfl), ?_⟩
      refine fcs ⟨Ob.new_ (ob_3c 21 27 (Fact.agg (Con.nn k (p / (Nat.gcd p q)))) (Fact.agg (Con.nn l (p % (Nat.gcd p q)))) (Fact.eq (.int .i64 0)) rfl rfl (.inl rfl) (by kernel_rfl) rfl rfl) (by kernel_rfl), ?_⟩
      refine fcs ⟨obn_new 24 9 _ [.slice none 0 0] rfl rfl rfl rfl rfl alloc24, ?_⟩
      refine fcs ⟨obn_new 24 10 _ [.slice none 0 0] rfl rfl rfl rfl rfl alloc24, ?_⟩
      exact fnl
    intro a5 w5 st5 hbr5 hfr
    have hs5 := hbr5.size
    have hb := up hb hbr5
    obtain ⟨b9, c9⟩ := (show (Fact.var' (Con.raw 1)).holds _ _ from st5.at_ 9)
    have g9 := hfr.ge (s := 9) rfl c9.1
    obtain ⟨b10, c10⟩ := (show (Fact.var' (Con.raw 1)).holds _ _ from st5.at_ 10)
    have g10 := hfr.ge (s := 10) rfl c10.1
    have ne9_10 := hfr.apart (s := 9) (t := 10) rfl rfl (by decide) c9.1 c10.1
    have st : St 44 [(0, Fact.eq (.bool true)), (4, Fact.cell b4 (Con.nn k p)), (5, Fact.cell b5 (Con.nn l q)), (6, Fact.cell b6 (Con.raw 3)), (7, Fact.eq (.int .i64 0)), (8, Fact.cell b8 (Con.nn l (Nat.gcd p q))), (25, Fact.agg (Con.nn k (p / (Nat.gcd p q)))), (26, Fact.agg (Con.nn l (p % (Nat.gcd p q)))), (27, Fact.eq (.int .i64 0)), (9, Fact.cell b9 (Con.raw 1)), (10, Fact.cell b10 (Con.raw 1))] a5 w5 := st5.to (fcs ⟨st5.at_ 0, fcs ⟨st5.at_ 4, fcs ⟨st5.at_ 5, fcs ⟨st5.at_ 6, fcs ⟨st5.at_ 7, fcs ⟨st5.at_ 8, fcs ⟨st5.at_ 25, fcs ⟨st5.at_ 26, fcs ⟨st5.at_ 27, fcs ⟨c9, fcs ⟨c10, fnl⟩⟩⟩⟩⟩⟩⟩⟩⟩⟩⟩)
    clear st5 hbr5 hfr c9 c10
    refine sym_store st 24 9 25 b9 (Con.raw 1) (Con.nn k (p / (Nat.gcd p q))) [(0, Fact.eq (.bool true)), (4, Fact.cell b4 (Con.nn k p)), (5, Fact.cell b5 (Con.nn l q)), (6, Fact.cell b6 (Con.raw 3)), (7, Fact.eq (.int .i64 0)), (8, Fact.cell b8 (Con.nn l (Nat.gcd p q))), (26, Fact.agg (Con.nn l (p % (Nat.gcd p q)))), (27, Fact.eq (.int .i64 0)), (9, Fact.cell b9 (Con.nn k (p / (Nat.gcd p q)))), (10, Fact.cell b10 (Con.raw 1))] rfl rfl rfl rfl rfl rfl info24 ?_ ?_
    · exact fcs ⟨.inr ⟨rfl, safe_eq _ _⟩, fcs ⟨.inr ⟨rfl, safe_cell _ (by omega)⟩, fcs ⟨.inr ⟨rfl, safe_cell _ (by omega)⟩, fcs ⟨.inr ⟨rfl, safe_cell _ (by omega)⟩, fcs ⟨.inr ⟨rfl, safe_eq _ _⟩, fcs ⟨.inr ⟨rfl, safe_cell _ (by omega)⟩, fcs ⟨.inr ⟨rfl, safe_agg _ _⟩, fcs ⟨.inr ⟨rfl, safe_eq _ _⟩, fcs ⟨.inl rfl, fcs ⟨.inr ⟨rfl, safe_cell _ (by omega)⟩, fnl⟩⟩⟩⟩⟩⟩⟩⟩⟩⟩
    clear st; intro w6 hB hsz6 st
    have hb := hB _ _ hb (by omega) (by omega)
    clear hB
    refine sym_store st 24 10 26 b10 (Con.raw 1) (Con.nn l (p % (Nat.gcd p q))) [(0, Fact.eq (.bool true)), (4, Fact.cell b4 (Con.nn k p)), (5, Fact.cell b5 (Con.nn l q)), (6, Fact.cell b6 (Con.raw 3)), (7, Fact.eq (.int .i64 0)), (8, Fact.cell b8 (Con.nn l (Nat.gcd p q))), (27, Fact.eq (.int .i64 0)), (9, Fact.cell b9 (Con.nn k (p / (Nat.gcd p q)))), (10, Fact.cell b10 (Con.nn l (p % (Nat.gcd p q))))] rfl rfl rfl rfl rfl rfl info24 ?_ ?_
    · exact fcs ⟨.inr ⟨rfl, safe_eq _ _⟩, fcs ⟨.inr ⟨rfl, safe_cell _ (by omega)⟩, fcs ⟨.inr ⟨rfl, safe_cell _ (by omega)⟩, fcs ⟨.inr ⟨rfl, safe_cell _ (by omega)⟩, fcs ⟨.inr ⟨rfl, safe_eq _ _⟩, fcs ⟨.inr ⟨rfl, safe_cell _ (by omega)⟩, fcs ⟨.inr ⟨rfl, safe_eq _ _⟩, fcs ⟨.inr ⟨rfl, safe_cell _ (by omega)⟩, fcs ⟨.inl rfl, fnl⟩⟩⟩⟩⟩⟩⟩⟩⟩
    clear st; intro w7 hB hsz7 st
    have hb := hB _ _ hb (by omega) (by omega)
    clear hB
    refine sym_op st 11 (Fact.eq (.int .i64 0)) rfl (Nat.le_of_ble_eq_true rfl) rfl rfl (by kernel_rfl) (ob_copy 27 11 (.inr rfl) rfl (.inl rfl) (by kernel_rfl) rfl) ?_
    clear st; intro a8 w8 hbr st; have hs8 := hbr.size; have hb := up hb hbr; clear hbr
    refine wpList_nil ?_
    refine then_normal ?_
    refine wp_seq ?_
    refine sym_region st [(29, Fact.agg (Con.nn l q)), (30, Fact.agg (Con.nn l (Nat.gcd p q))), (31, Fact.three (Fact.agg (Con.nn l (q / (Nat.gcd p q)))) (Fact.agg (Con.nn l (q % (Nat.gcd p q)))) (Fact.eq (.int .i64 0))), (28, Fact.three (Fact.agg (Con.nn l (q / (Nat.gcd p q)))) (Fact.agg (Con.nn l (q % (Nat.gcd p q)))) (Fact.eq (.int .i64 0))), (32, Fact.agg (Con.nn l (q / (Nat.gcd p q)))), (33, Fact.agg (Con.nn l (q % (Nat.gcd p q)))), (34, Fact.eq (.int .i64 0)), (12, Fact.var' (Con.raw 1)), (13, Fact.var' (Con.raw 1))] [12, 13] 9 (by kernel_rfl) (by kernel_rfl) (by kernel_rfl) (Nat.le_of_ble_eq_true rfl) (by kernel_rfl) rfl rfl ?_ ?_
    · refine fcs ⟨Ob.new_ (ob_read 24 5 29 (Con.nn l q) rfl rfl (.inl rfl) (by kernel_rfl) points_cell rfl row24 info24) (by kernel_rfl), ?_⟩
      refine fcs ⟨Ob.new_ (ob_read 24 8 30 (Con.nn l (Nat.gcd p q)) rfl rfl (.inl rfl) (by kernel_rfl) points_cell rfl row24 info24) (by kernel_rfl), ?_⟩
      refine fcs ⟨Ob.new_ (ob_call2 36 29 30 31 _ rfl rfl (.inl rfl) (by kernel_rfl) (by kernel_rfl) (by kernel_rfl) (r_divMod l l q (Nat.gcd p q) (Nat.ne_of_gt (Rt.gcd_pos hq)) (by omega) (by omega))) (by kernel_rfl), ?_⟩
      refine fcs ⟨Ob.new_ (ob_copy 31 28 (.inl rfl) rfl (.inl rfl) (by kernel_rfl) rfl) (by kernel_rfl), ?_⟩
      refine fcs ⟨Ob.new_ (ob_3a 28 32 (Fact.agg (Con.nn l (q / (Nat.gcd p q)))) (Fact.agg (Con.nn l (q % (Nat.gcd p q)))) (Fact.eq (.int .i64 0)) rfl rfl (.inl rfl) (by kernel_rfl) rfl rfl) (by kernel_rfl), ?_⟩
      refine fcs ⟨Ob.new_ (ob_3b 28 33 (Fact.agg (Con.nn l (q / (Nat.gcd p q)))) (Fact.agg (Con.nn l (q % (Nat.gcd p q)))) (Fact.eq (.int .i64 0)) rfl rfl (.inl rfl) (by kernel_rfl) rfl rfl) (by kernel_rfl), ?_⟩
      refine fcs ⟨Ob.new_ (ob_3c 28 34 (Fact.agg (Con.nn l (q / (Nat.gcd p q)))) (Fact.agg (Con.nn l (q % (Nat.gcd p q)))) (Fact.eq (.int .i64 0)) rfl rfl (.inl rfl) (by kernel_rfl) rfl rfl) (by kernel_rfl), ?_⟩
      refine fcs ⟨obn_new 24 12 _ [.slice none 0 0] rfl rfl rfl rfl rfl alloc24, ?_⟩
      refine fcs ⟨obn_new 24 13 _ [.slice none 0 0] rfl rfl rfl rfl rfl alloc24, ?_⟩
      exact fnl
    intro a9 w9 st9 hbr9 hfr
    have hs9 := hbr9.size
    have hb := up hb hbr9
    obtain ⟨b12, c12⟩ := (show (Fact.var' (Con.raw 1)).holds _ _ from st9.at_ 12)
    have g12 := hfr.ge (s := 12) rfl c12.1
    obtain ⟨b13, c13⟩ := (show (Fact.var' (Con.raw 1)).holds _ _ from st9.at_ 13)
    have g13 := hfr.ge (s := 13) rfl c13.1
    have ne12_13 := hfr.apart (s := 12) (t := 13) rfl rfl (by decide) c12.1 c13.1
    have st : St 44 [(0, Fact.eq (.bool true)), (4, Fact.cell b4 (Con.nn k p)), (6, Fact.cell b6 (Con.raw 3)), (7, Fact.eq (.int .i64 0)), (9, Fact.cell b9 (Con.nn k (p / (Nat.gcd p q)))), (32, Fact.agg (Con.nn l (q / (Nat.gcd p q)))), (33, Fact.agg (Con.nn l (q % (Nat.gcd p q)))), (34, Fact.eq (.int .i64 0)), (12, Fact.cell b12 (Con.raw 1)), (13, Fact.cell b13 (Con.raw 1))] a9 w9 := st9.to (fcs ⟨st9.at_ 0, fcs ⟨st9.at_ 4, fcs ⟨st9.at_ 6, fcs ⟨st9.at_ 7, fcs ⟨st9.at_ 9, fcs ⟨st9.at_ 32, fcs ⟨st9.at_ 33, fcs ⟨st9.at_ 34, fcs ⟨c12, fcs ⟨c13, fnl⟩⟩⟩⟩⟩⟩⟩⟩⟩⟩)
    clear st9 hbr9 hfr c12 c13
    refine sym_store st 24 12 32 b12 (Con.raw 1) (Con.nn l (q / (Nat.gcd p q))) [(0, Fact.eq (.bool true)), (4, Fact.cell b4 (Con.nn k p)), (6, Fact.cell b6 (Con.raw 3)), (7, Fact.eq (.int .i64 0)), (9, Fact.cell b9 (Con.nn k (p / (Nat.gcd p q)))), (33, Fact.agg (Con.nn l (q % (Nat.gcd p q)))), (34, Fact.eq (.int .i64 0)), (12, Fact.cell b12 (Con.nn l (q / (Nat.gcd p q)))), (13, Fact.cell b13 (Con.raw 1))] rfl rfl rfl rfl rfl rfl info24 ?_ ?_
    · exact fcs ⟨.inr ⟨rfl, safe_eq _ _⟩, fcs ⟨.inr ⟨rfl, safe_cell _ (by omega)⟩, fcs ⟨.inr ⟨rfl, safe_cell _ (by omega)⟩, fcs ⟨.inr ⟨rfl, safe_eq _ _⟩, fcs ⟨.inr ⟨rfl, safe_cell _ (by omega)⟩, fcs ⟨.inr ⟨rfl, safe_agg _ _⟩, fcs ⟨.inr ⟨rfl, safe_eq _ _⟩, fcs ⟨.inl rfl, fcs ⟨.inr ⟨rfl, safe_cell _ (by omega)⟩, fnl⟩⟩⟩⟩⟩⟩⟩⟩⟩
    clear st; intro w10 hB hsz10 st
    have hb := hB _ _ hb (by omega) (by omega)
    clear hB
    refine sym_store st 24 13 33 b13 (Con.raw 1) (Con.nn l (q % (Nat.gcd p q))) [(0, Fact.eq (.bool true)), (4, Fact.cell b4 (Con.nn k p)), (6, Fact.cell b6 (Con.raw 3)), (7, Fact.eq (.int .i64 0)), (9, Fact.cell b9 (Con.nn k (p / (Nat.gcd p q)))), (34, Fact.eq (.int .i64 0)), (12, Fact.cell b12 (Con.nn l (q / (Nat.gcd p q)))), (13, Fact.cell b13 (Con.nn l (q % (Nat.gcd p q))))] rfl rfl rfl rfl rfl rfl info24 ?_ ?_
    · exact fcs ⟨.inr ⟨rfl, safe_eq _ _⟩, fcs ⟨.inr ⟨rfl, safe_cell _ (by omega)⟩, fcs ⟨.inr ⟨rfl, safe_cell _ (by omega)⟩, fcs ⟨.inr ⟨rfl, safe_eq _ _⟩, fcs ⟨.inr ⟨rfl, safe_cell _ (by omega)⟩, fcs ⟨.inr ⟨rfl, safe_eq _ _⟩, fcs ⟨.inr ⟨rfl, safe_cell _ (by omega)⟩, fcs ⟨.inl rfl, fnl⟩⟩⟩⟩⟩⟩⟩⟩
    clear st; intro w11 hB hsz11 st
    have hb := hB _ _ hb (by omega) (by omega)
    clear hB
    refine sym_op st 14 (Fact.eq (.int .i64 0)) rfl (Nat.le_of_ble_eq_true rfl) rfl rfl (by kernel_rfl) (ob_copy 34 14 (.inr rfl) rfl (.inl rfl) (by kernel_rfl) rfl) ?_
    clear st; intro a12 w12 hbr st; have hs12 := hbr.size; have hb := up hb hbr; clear hbr
    refine wpList_nil ?_
    refine then_normal ?_
    refine wp_seq ?_
    have st := st.to (ks' := [(0, Fact.eq (.bool true)), (4, Fact.cell b4 (Con.nn k p)), (6, Fact.cell b6 (Con.raw 3)), (9, Fact.cell b9 (Con.nn k (p / (Nat.gcd p q)))), (12, Fact.cell b12 (Con.nn l (q / (Nat.gcd p q))))]) (fcs ⟨st.at_ 0, fcs ⟨st.at_ 4, fcs ⟨st.at_ 6, fcs ⟨st.at_ 9, fcs ⟨st.at_ 12, fnl⟩⟩⟩⟩⟩)
    refine sym_region st [(35, Fact.eq (.bool true)), (36, Fact.eq (.bool true)), (37, Fact.agg (Con.nn k p)), (38, Fact.eq (.bool (decide (p = 0)))), (39, Fact.eq (.bool (!(decide (p = 0))))), (40, Fact.eq (.bool (!(decide (p = 0))))), (41, Fact.agg (Con.nn k (p / (Nat.gcd p q)))), (42, Fact.agg (Con.nn l (q / (Nat.gcd p q)))), (43, Fact.agg (Con.tri k l (!(decide (p = 0))) (p / (Nat.gcd p q)) (q / (Nat.gcd p q))))] [] 9 (by kernel_rfl) (by kernel_rfl) (by kernel_rfl) (Nat.le_of_ble_eq_true rfl) (by kernel_rfl) rfl rfl ?_ ?_
    · refine fcs ⟨Ob.new_ (ob_copy 0 35 (.inl rfl) rfl (.inl rfl) (by kernel_rfl) rfl) (by kernel_rfl), ?_⟩
      refine fcs ⟨Ob.new_ (ob_copy 35 36 (.inl rfl) rfl (.inl rfl) (by kernel_rfl) rfl) (by kernel_rfl), ?_⟩
      refine fcs ⟨Ob.new_ (ob_read 24 4 37 (Con.nn k p) rfl rfl (.inr ⟨_, _, _, rfl, rfl, by kernel_rfl, by decide, rfl⟩) (by kernel_rfl) points_cell rfl row24 info24) (by kernel_rfl), ?_⟩
      refine fcs ⟨Ob.new_ (ob_call1 34 37 38 _ rfl rfl (.inr ⟨_, _, _, rfl, rfl, by kernel_rfl, by decide, rfl⟩) (by kernel_rfl) (by kernel_rfl) (z_zero k p (decide (p = 0)) rfl)) (by kernel_rfl), ?_⟩
      refine fcs ⟨Ob.new_ (ob_not 38 39 (decide (p = 0)) (!(decide (p = 0))) rfl rfl rfl (.inr ⟨_, _, _, rfl, rfl, by kernel_rfl, by decide, rfl⟩) (by kernel_rfl) rfl rfl) (by kernel_rfl), ?_⟩
      refine fcs ⟨Ob.new_ (ob_pick 36 39 40 _ rfl rfl (.inl rfl) (by kernel_rfl) (by kernel_rfl) rfl rfl) (by kernel_rfl), ?_⟩
      refine fcs ⟨Ob.new_ (ob_read 24 9 41 (Con.nn k (p / (Nat.gcd p q))) rfl rfl (.inl rfl) (by kernel_rfl) points_cell rfl row24 info24) (by kernel_rfl), ?_⟩
      refine fcs ⟨Ob.new_ (ob_read 24 12 42 (Con.nn l (q / (Nat.gcd p q))) rfl rfl (.inl rfl) (by kernel_rfl) points_cell rfl row24 info24) (by kernel_rfl), ?_⟩
      refine fcs ⟨Ob.new_ (ob_buildtri 40 41 42 43 k l (p / (Nat.gcd p q)) (q / (Nat.gcd p q)) (!(decide (p = 0))) rfl rfl (.inl rfl) (by kernel_rfl) (by kernel_rfl) (by kernel_rfl) rfl rfl rfl rfl) (by kernel_rfl), ?_⟩
      exact fnl
    intro a13 w13 st13 hbr13 hfr
    have hs13 := hbr13.size
    have hb := up hb hbr13
    have st : St 44 [(6, Fact.cell b6 (Con.raw 3)), (43, Fact.agg (Con.tri k l (!(decide (p = 0))) (p / (Nat.gcd p q)) (q / (Nat.gcd p q))))] a13 w13 := st13.to (fcs ⟨st13.at_ 6, fcs ⟨st13.at_ 43, fnl⟩⟩)
    clear st13 hbr13 hfr
    refine sym_store st 28 6 43 b6 (Con.raw 3) (Con.tri k l (!(decide (p = 0))) (p / (Nat.gcd p q)) (q / (Nat.gcd p q))) [(6, Fact.cell b6 (Con.tri k l (!(decide (p = 0))) (p / (Nat.gcd p q)) (q / (Nat.gcd p q))))] rfl rfl rfl rfl rfl rfl info26 ?_ ?_
    · exact fcs ⟨.inl rfl, fnl⟩
    clear st; intro w14 hB hsz14 st
    have hb := hB _ _ hb (by omega) (by omega)
    clear hB
    refine sym_op st 7 (Fact.eq (.int .i64 0)) rfl (Nat.le_of_ble_eq_true rfl) rfl rfl (by kernel_rfl) (ob_const (.int .i64 0) 7 (.inr rfl) rfl (.inl rfl) rfl) ?_
    clear st; intro a15 w15 hbr st; have hs15 := hbr.size; have hb := up hb hbr; clear hbr
    refine wpList_nil ?_
    refine then_normal ?_
    refine wp_ret ?_
    exact sym_ret2 rfl st.defers (resAt_cell st 6 b6 28 (Con.tri k l (!(decide (p = 0))) (p / (Nat.gcd p q)) (q / (Nat.gcd p q))) rfl row26 info26) (resAt_tmp st 7) hb (fun v u h1 h2 => ⟨v, u, rfl, Fact.tri_fr h1 hq (by simp) rfl rfl rfl hkr hlr, h2⟩)
set_option maxRecDepth 100000 in
theorem z_make0 (k l : Nat) (s : Bool) (p q : Nat) (hq : q = 0) : ∀ v0 v1 v2 w, (Fact.eq (.bool s)).holds v0 w → (Fact.agg (Con.nn k p)).holds v1 w → (Fact.agg (Con.nn l q)).holds v2 w → Calls Tryd.prog 14 #[v0, v1, v2] w (Ret (Fact.two (Fact.agg (Con.tri 1 1 false 0 0)) (Fact.eq (.int .i64 8))) w) := by
  intro v0 v1 v2 w hv0 hv1 hv2
  refine sym_calls 44 [(0, Fact.eq (.bool s)), (1, Fact.agg (Con.nn k p)), (2, Fact.agg (Con.nn l q))] Tryd.func14 rfl rfl (Nat.le_of_ble_eq_true rfl) (fcs ⟨⟨Nat.le_of_ble_eq_true rfl, hv0⟩, fcs ⟨⟨Nat.le_of_ble_eq_true rfl, hv1⟩, fcs ⟨⟨Nat.le_of_ble_eq_true rfl, hv2⟩, fnl⟩⟩⟩) fun a st => ?_
  have hb := Below.refl w.heap.size w
  refine wp_seq ?_
  refine sym_region st [(4, Fact.var' (Con.nn k p)), (5, Fact.var' (Con.nn l q)), (6, Fact.var' (Con.raw 3)), (7, Fact.eq (.int .i64 0))] [4, 5, 6] 4 (by kernel_rfl) (by kernel_rfl) (by kernel_rfl) (Nat.le_of_ble_eq_true rfl) (by kernel_rfl) rfl rfl ?_ ?_
  · refine fcs ⟨obn_box 24 1 4 _ (Con.nn k p) rfl rfl rfl (by kernel_rfl) rfl rfl, ?_⟩
    refine fcs ⟨obn_box 24 2 5 _ (Con.nn l q) rfl rfl rfl (by kernel_rfl) rfl rfl, ?_⟩
    refine fcs ⟨obn_new 28 6 _ [.bool false, .slice none 0 0, .slice none 0 0] rfl rfl rfl rfl rfl alloc26, ?_⟩
    refine fcs ⟨Ob.new_ (ob_const (.int .i64 0) 7 (.inr rfl) rfl (.inl rfl) rfl) (by kernel_rfl), ?_⟩
    exact fnl
  intro a1 w1 st1 hbr1 hfr
  have hs1 := hbr1.size
  have hb := up hb hbr1
  obtain ⟨b4, c4⟩ := (show (Fact.var' (Con.nn k p)).holds _ _ from st1.at_ 4)
  have g4 := hfr.ge (s := 4) rfl c4.1
  obtain ⟨b5, c5⟩ := (show (Fact.var' (Con.nn l q)).holds _ _ from st1.at_ 5)
  have g5 := hfr.ge (s := 5) rfl c5.1
  obtain ⟨b6, c6⟩ := (show (Fact.var' (Con.raw 3)).holds _ _ from st1.at_ 6)
  have g6 := hfr.ge (s := 6) rfl c6.1
  have ne4_5 := hfr.apart (s := 4) (t := 5) rfl rfl (by decide) c4.1 c5.1
  have ne4_6 := hfr.apart (s := 4) (t := 6) rfl rfl (by decide) c4.1 c6.1
  have ne5_6 := hfr.apart (s := 5) (t := 6) rfl rfl (by decide) c5.1 c6.1
  have st : St 44 [(0, Fact.eq (.bool s)), (4, Fact.cell b4 (Con.nn k p)), (5, Fact.cell b5 (Con.nn l q)), (6, Fact.cell b6 (Con.raw 3)), (7, Fact.eq (.int .i64 0))] a1 w1 := st1.to (fcs ⟨st1.at_ 0, fcs ⟨c4, fcs ⟨c5, fcs ⟨c6, fcs ⟨st1.at_ 7, fnl⟩⟩⟩⟩⟩)
  clear st1 hbr1 hfr c4 c5 c6
  refine wpList_nil ?_
  refine then_normal ?_
  refine wp_seq ?_
  refine wp_seq ?_
  refine sym_region st [(15, Fact.agg (Con.nn l q)), (16, Fact.eq (.bool true))] [] 2 (by kernel_rfl) (by kernel_rfl) (by kernel_rfl) (Nat.le_of_ble_eq_true rfl) (by kernel_rfl) rfl rfl ?_ ?_
  · refine fcs ⟨Ob.new_ (ob_read 24 5 15 (Con.nn l q) rfl rfl (.inl rfl) (by kernel_rfl) points_cell rfl row24 info24) (by kernel_rfl), ?_⟩
    refine fcs ⟨Ob.new_ (ob_call1 34 15 16 _ rfl rfl (.inl rfl) (by kernel_rfl) (by kernel_rfl) (z_zero l q true (decide_eq_true hq))) (by kernel_rfl), ?_⟩
    exact fnl
  intro a2 w2 st2 hbr2 hfr
  have hs2 := hbr2.size
  have hb := up hb hbr2
  have st : St 44 [(0, Fact.eq (.bool s)), (4, Fact.cell b4 (Con.nn k p)), (5, Fact.cell b5 (Con.nn l q)), (6, Fact.cell b6 (Con.raw 3)), (7, Fact.eq (.int .i64 0)), (16, Fact.eq (.bool true))] a2 w2 := st2.to (fcs ⟨st2.at_ 0, fcs ⟨st2.at_ 4, fcs ⟨st2.at_ 5, fcs ⟨st2.at_ 6, fcs ⟨st2.at_ 7, fcs ⟨st2.at_ 16, fnl⟩⟩⟩⟩⟩⟩)
  clear st2 hbr2 hfr
  refine wpList_nil ?_
  refine then_normal ?_
  refine wp_cond_true (st.at_ 16) ?_
  refine wp_seq ?_
  have st := st.to (ks' := [(0, Fact.eq (.bool s)), (4, Fact.cell b4 (Con.nn k p)), (5, Fact.cell b5 (Con.nn l q)), (6, Fact.cell b6 (Con.raw 3)), (16, Fact.eq (.bool true))]) (fcs ⟨st.at_ 0, fcs ⟨st.at_ 4, fcs ⟨st.at_ 5, fcs ⟨st.at_ 6, fcs ⟨st.at_ 16, fnl⟩⟩⟩⟩⟩)
  refine sym_region st [(17, Fact.agg (Con.tri 1 1 false 0 0))] [] 1 (by kernel_rfl) (by kernel_rfl) (by kernel_rfl) (Nat.le_of_ble_eq_true rfl) (by kernel_rfl) rfl rfl ?_ ?_
  · refine fcs ⟨Ob.new_ (ob_buildzero 17 rfl rfl (.inl rfl) rfl) (by kernel_rfl), ?_⟩
    exact fnl
  intro a3 w3 st3 hbr3 hfr
  have hs3 := hbr3.size
  have hb := up hb hbr3
  have st : St 44 [(0, Fact.eq (.bool s)), (4, Fact.cell b4 (Con.nn k p)), (5, Fact.cell b5 (Con.nn l q)), (6, Fact.cell b6 (Con.raw 3)), (17, Fact.agg (Con.tri 1 1 false 0 0))] a3 w3 := st3.to (fcs ⟨st3.at_ 0, fcs ⟨st3.at_ 4, fcs ⟨st3.at_ 5, fcs ⟨st3.at_ 6, fcs ⟨st3.at_ 17, fnl⟩⟩⟩⟩⟩)
  clear st3 hbr3 hfr
  refine sym_store st 28 6 17 b6 (Con.raw 3) (Con.tri 1 1 false 0 0) [(0, Fact.eq (.bool s)), (4, Fact.cell b4 (Con.nn k p)), (5, Fact.cell b5 (Con.nn l q)), (6, Fact.cell b6 (Con.tri 1 1 false 0 0))] rfl rfl rfl rfl rfl rfl info26 ?_ ?_
  · exact fcs ⟨.inr ⟨rfl, safe_eq _ _⟩, fcs ⟨.inr ⟨rfl, safe_cell _ (by omega)⟩, fcs ⟨.inr ⟨rfl, safe_cell _ (by omega)⟩, fcs ⟨.inl rfl, fnl⟩⟩⟩⟩
  clear st; intro w4 hB hsz4 st
  have hb := hB _ _ hb (by omega) (by omega)
  clear hB
  refine sym_op st 7 (Fact.eq (.int .i64 8)) rfl (Nat.le_of_ble_eq_true rfl) rfl rfl (by kernel_rfl) (ob_const (.int .i64 8) 7 (.inr rfl) rfl (.inl rfl) rfl) ?_
  clear st; intro a5 w5 hbr st; have hs5 := hbr.size; have hb := up hb hbr; clear hbr
  refine wpList_nil ?_
  refine then_normal ?_
  refine wp_ret ?_
  exact sym_ret2 rfl st.defers (resAt_cell st 6 b6 28 (Con.tri 1 1 false 0 0) rfl row26 info26) (resAt_tmp st 7) hb (fun v u h1 h2 => ⟨v, u, rfl, h1, h2⟩)
set_option maxRecDepth 100000 in
theorem z_same (k l : Nat) (x y : Rat) (b : Bool) (hbd : decide (x = y) = b) : ∀ v0 v1 w, (Fact.agg (Con.fr k x)).holds v0 w → (Fact.agg (Con.fr l y)).holds v1 w → Calls Tryd.prog 8 #[v0, v1] w (Ret (Fact.eq (.bool b)) w) := by
  intro v0 v1 w hv0 hv1
  cases h1 : (Rt.ng x == Rt.ng y) with
  | false =>
    refine sym_calls 24 [(0, Fact.agg (Con.fr k x)), (1, Fact.agg (Con.fr l y))] Tryd.func8 rfl rfl (Nat.le_of_ble_eq_true rfl) (fcs ⟨⟨Nat.le_of_ble_eq_true rfl, hv0⟩, fcs ⟨⟨Nat.le_of_ble_eq_true rfl, hv1⟩, fnl⟩⟩) fun a st => ?_
    have hb := Below.refl w.heap.size w
    refine wp_seq ?_
    refine sym_region st [(2, Fact.var' (Con.fr k x)), (3, Fact.var' (Con.fr l y)), (4, Fact.eq (.bool false))] [2, 3] 3 (by kernel_rfl) (by kernel_rfl) (by kernel_rfl) (Nat.le_of_ble_eq_true rfl) (by kernel_rfl) rfl rfl ?_ ?_
    · refine fcs ⟨obn_box 28 0 2 _ (Con.fr k x) rfl rfl rfl (by kernel_rfl) rfl rfl, ?_⟩
      refine fcs ⟨obn_box 28 1 3 _ (Con.fr l y) rfl rfl rfl (by kernel_rfl) rfl rfl, ?_⟩
      refine fcs ⟨Ob.new_ (ob_const (.bool false) 4 (.inr rfl) rfl (.inl rfl) rfl) (by kernel_rfl), ?_⟩
      exact fnl
    intro a1 w1 st1 hbr1 hfr
    have hs1 := hbr1.size
    have hb := up hb hbr1
    obtain ⟨b2, c2⟩ := (show (Fact.var' (Con.fr k x)).holds _ _ from st1.at_ 2)
    have g2 := hfr.ge (s := 2) rfl c2.1
    obtain ⟨b3, c3⟩ := (show (Fact.var' (Con.fr l y)).holds _ _ from st1.at_ 3)
    have g3 := hfr.ge (s := 3) rfl c3.1
    have ne2_3 := hfr.apart (s := 2) (t := 3) rfl rfl (by decide) c2.1 c3.1
    have st : St 24 [(2, Fact.cell b2 (Con.fr k x)), (3, Fact.cell b3 (Con.fr l y)), (4, Fact.eq (.bool false))] a1 w1 := st1.to (fcs ⟨c2, fcs ⟨c3, fcs ⟨st1.at_ 4, fnl⟩⟩⟩)
    clear st1 hbr1 hfr c2 c3
    refine wpList_nil ?_
    refine then_normal ?_
    refine wp_seq ?_
    have st := st.to (ks' := [(2, Fact.cell b2 (Con.fr k x)), (3, Fact.cell b3 (Con.fr l y))]) (fcs ⟨st.at_ 2, fcs ⟨st.at_ 3, fnl⟩⟩)
    refine sym_region st [(5, Fact.ptr (Con.bool (Rt.ng x))), (6, Fact.eq (.bool (Rt.ng x))), (7, Fact.ptr (Con.bool (Rt.ng y))), (8, Fact.eq (.bool (Rt.ng y))), (9, Fact.eq (.bool false)), (10, Fact.eq (.bool false)), (11, Fact.eq undef), (12, Fact.eq undef), (13, Fact.eq undef), (14, Fact.eq undef), (15, Fact.eq undef), (16, Fact.eq (.bool false)), (17, Fact.eq (.bool false)), (18, Fact.eq undef), (19, Fact.eq undef), (20, Fact.eq undef), (21, Fact.eq undef), (22, Fact.eq undef), (23, Fact.eq (.bool false)), (4, Fact.eq (.bool false))] [] 20 (by kernel_rfl) (by kernel_rfl) (by kernel_rfl) (Nat.le_of_ble_eq_true rfl) (by kernel_rfl) rfl rfl ?_ ?_
    · refine fcs ⟨Ob.new_ (ob_addr 28 0 2 5 0 (Con.fr k x) (Con.bool (Rt.ng x)) rfl rfl (.inl rfl) (by kernel_rfl) points_cell rfl (Con.fr_ng k x) field26_0) (by kernel_rfl), ?_⟩
      refine fcs ⟨Ob.new_ (ob_readb 5 6 (Rt.ng x) (Rt.ng x) rfl rfl rfl (.inl rfl) (by kernel_rfl) points_ptr rfl) (by kernel_rfl), ?_⟩
      refine fcs ⟨Ob.new_ (ob_addr 28 0 3 7 0 (Con.fr l y) (Con.bool (Rt.ng y)) rfl rfl (.inl rfl) (by kernel_rfl) points_cell rfl (Con.fr_ng l y) field26_0) (by kernel_rfl), ?_⟩
      refine fcs ⟨Ob.new_ (ob_readb 7 8 (Rt.ng y) (Rt.ng y) rfl rfl rfl (.inl rfl) (by kernel_rfl) points_ptr rfl) (by kernel_rfl), ?_⟩
      refine fcs ⟨Ob.new_ (ob_eqb 6 8 9 (Rt.ng x) (Rt.ng y) false h1 rfl rfl (.inl rfl) (by kernel_rfl) (by kernel_rfl) rfl rfl rfl) (by kernel_rfl), ?_⟩
      refine fcs ⟨Ob.new_ (ob_copy 9 10 (.inl rfl) rfl (.inl rfl) (by kernel_rfl) rfl) (by kernel_rfl), ?_⟩
      refine fcs ⟨Ob.new_ (ob_skip 5 10 11 true rfl rfl (by kernel_rfl) (by decide) rfl rfl rfl) (by kernel_rfl), ?_⟩
      refine fcs ⟨Ob.new_ (ob_skip 5 10 12 true rfl rfl (by kernel_rfl) (by decide) rfl rfl rfl) (by kernel_rfl), ?_⟩
      refine fcs ⟨Ob.new_ (ob_skip 5 10 13 true rfl rfl (by kernel_rfl) (by decide) rfl rfl rfl) (by kernel_rfl), ?_⟩
      refine fcs ⟨Ob.new_ (ob_skip 5 10 14 true rfl rfl (by kernel_rfl) (by decide) rfl rfl rfl) (by kernel_rfl), ?_⟩
      refine fcs ⟨Ob.new_ (ob_skip 5 10 15 true rfl rfl (by kernel_rfl) (by decide) rfl rfl rfl) (by kernel_rfl), ?_⟩
      refine fcs ⟨Ob.new_ (ob_pick_no 10 15 16 (.bool false) rfl rfl (.inl rfl) (by kernel_rfl) rfl rfl) (by kernel_rfl), ?_⟩
      refine fcs ⟨Ob.new_ (ob_copy 16 17 (.inl rfl) rfl (.inl rfl) (by kernel_rfl) rfl) (by kernel_rfl), ?_⟩
      refine fcs ⟨Ob.new_ (ob_skip 12 17 18 true rfl rfl (by kernel_rfl) (by decide) rfl rfl rfl) (by kernel_rfl), ?_⟩
      refine fcs ⟨Ob.new_ (ob_skip 12 17 19 true rfl rfl (by kernel_rfl) (by decide) rfl rfl rfl) (by kernel_rfl), ?_⟩
      refine fcs ⟨Ob.new_ (ob_skip 12 17 20 true rfl rfl (by kernel_rfl) (by decide) rfl rfl rfl) (by kernel_rfl), ?_⟩
      refine fcs ⟨Ob.new_ (ob_skip 12 17 21 true rfl rfl (by kernel_rfl) (by decide) rfl rfl rfl) (by kernel_rfl), ?_⟩
      refine fcs ⟨Ob.new_ (ob_skip 12 17 22 true rfl rfl (by kernel_rfl) (by decide) rfl rfl rfl) (by kernel_rfl), ?_⟩
      refine fcs ⟨Ob.new_ (ob_pick_no 17 22 23 (.bool false) rfl rfl (.inl rfl) (by kernel_rfl) rfl rfl) (by kernel_rfl), ?_⟩
      refine fcs ⟨Ob.new_ (ob_copy 23 4 (.inr rfl) rfl (.inl rfl) (by kernel_rfl) rfl) (by kernel_rfl), ?_⟩
      exact fnl
    intro a2 w2 st2 hbr2 hfr
    have hs2 := hbr2.size
    have hb := up hb hbr2
    have st : St 24 [(4, Fact.eq (.bool false))] a2 w2 := st2.to (fcs ⟨st2.at_ 4, fnl⟩)
    clear st2 hbr2 hfr
    refine wpList_nil ?_
    refine then_normal ?_
    refine wp_ret ?_
    exact sym_ret1 rfl st.defers (resAt_tmp st 4) hb (fun v h => by subst hbd; rw [decide_eq_false (fun e => by rw [e, beq_self_eq_true] at h1; cases h1)]; exact h)
  | true =>
  cases h2 : decide (Rt.tp x = Rt.tp y) with
  | false =>
    refine sym_calls 24 [(0, Fact.agg (Con.fr k x)), (1, Fact.agg (Con.fr l y))] Tryd.func8 rfl rfl (Nat.le_of_ble_eq_true rfl) (fcs ⟨⟨Nat.le_of_ble_eq_true rfl, hv0⟩, fcs ⟨⟨Nat.le_of_ble_eq_true rfl, hv1⟩, fnl⟩⟩) fun a st => ?_
    have hb := Below.refl w.heap.size w
    refine wp_seq ?_
    refine sym_region st [(2, Fact.var' (Con.fr k x)), (3, Fact.var' (Con.fr l y)), (4, Fact.eq (.bool false))] [2, 3] 3 (by kernel_rfl) (by kernel_rfl) (by kernel_rfl) (Nat.le_of_ble_eq_true rfl) (by kernel_rfl) rfl rfl ?_ ?_
    · refine fcs ⟨obn_box 28 0 2 _ (Con.fr k x) rfl rfl rfl (by kernel_rfl) rfl rfl, ?_⟩
      refine fcs ⟨obn_box 28 1 3 _ (Con.fr l y) rfl rfl rfl (by kernel_rfl) rfl rfl, ?_⟩
      refine fcs ⟨Ob.new_ (ob_const (.bool false) 4 (.inr rfl) rfl (.inl rfl) rfl) (by kernel_rfl), ?_⟩
      exact fnl
    intro a1 w1 st1 hbr1 hfr
    have hs1 := hbr1.size
    have hb := up hb hbr1
    obtain ⟨b2, c2⟩ := (show (Fact.var' (Con.fr k x)).holds _ _ from st1.at_ 2)
    have g2 := hfr.ge (s := 2) rfl c2.1
    obtain ⟨b3, c3⟩ := (show (Fact.var' (Con.fr l y)).holds _ _ from st1.at_ 3)
    have g3 := hfr.ge (s := 3) rfl c3.1
    have ne2_3 := hfr.apart (s := 2) (t := 3) rfl rfl (by decide) c2.1 c3.1
    have st : St 24 [(2, Fact.cell b2 (Con.fr k x)), (3, Fact.cell b3 (Con.fr l y)), (4, Fact.eq (.bool false))] a1 w1 := st1.to (fcs ⟨c2, fcs ⟨c3, fcs ⟨st1.at_ 4, fnl⟩⟩⟩)
    clear st1 hbr1 hfr c2 c3
    refine wpList_nil ?_
    refine then_normal ?_
    refine wp_seq ?_
    have st := st.to (ks' := [(2, Fact.cell b2 (Con.fr k x)), (3, Fact.cell b3 (Con.fr l y))]) (fcs ⟨st.at_ 2, fcs ⟨st.at_ 3, fnl⟩⟩)
    refine sym_region st [(5, Fact.ptr (Con.bool (Rt.ng x))), (6, Fact.eq (.bool (Rt.ng x))), (7, Fact.ptr (Con.bool (Rt.ng y))), (8, Fact.eq (.bool (Rt.ng y))), (9, Fact.eq (.bool true)), (10, Fact.eq (.bool true)), (11, Fact.ptr (Con.nn k (Rt.tp x))), (12, Fact.agg (Con.nn k (Rt.tp x))), (13, Fact.ptr (Con.nn l (Rt.tp y))), (14, Fact.agg (Con.nn l (Rt.tp y))), (15, Fact.eq (.bool false)), (16, Fact.eq (.bool false)), (17, Fact.eq (.bool false)), (18, Fact.eq undef), (19, Fact.eq undef), (20, Fact.eq undef), (21, Fact.eq undef), (22, Fact.eq undef), (23, Fact.eq (.bool false)), (4, Fact.eq (.bool false))] [] 20 (by kernel_rfl) (by kernel_rfl) (by kernel_rfl) (Nat.le_of_ble_eq_true rfl) (by kernel_rfl) rfl rfl ?_ ?_
    · refine fcs ⟨Ob.new_ (ob_addr 28 0 2 5 0 (Con.fr k x) (Con.bool (Rt.ng x)) rfl rfl (.inl rfl) (by kernel_rfl) points_cell rfl (Con.fr_ng k x) field26_0) (by kernel_rfl), ?_⟩
      refine fcs ⟨Ob.new_ (ob_readb 5 6 (Rt.ng x) (Rt.ng x) rfl rfl rfl (.inl rfl) (by kernel_rfl) points_ptr rfl) (by kernel_rfl), ?_⟩
      refine fcs ⟨Ob.new_ (ob_addr 28 0 3 7 0 (Con.fr l y) (Con.bool (Rt.ng y)) rfl rfl (.inl rfl) (by kernel_rfl) points_cell rfl (Con.fr_ng l y) field26_0) (by kernel_rfl), ?_⟩
      refine fcs ⟨Ob.new_ (ob_readb 7 8 (Rt.ng y) (Rt.ng y) rfl rfl rfl (.inl rfl) (by kernel_rfl) points_ptr rfl) (by kernel_rfl), ?_⟩
      refine fcs ⟨Ob.new_ (ob_eqb 6 8 9 (Rt.ng x) (Rt.ng y) true h1 rfl rfl (.inl rfl) (by kernel_rfl) (by kernel_rfl) rfl rfl rfl) (by kernel_rfl), ?_⟩
      refine fcs ⟨Ob.new_ (ob_copy 9 10 (.inl rfl) rfl (.inl rfl) (by kernel_rfl) rfl) (by kernel_rfl), ?_⟩
      refine fcs ⟨Ob.new_ (ob_addr 28 1 2 11 1 (Con.fr k x) (Con.nn k (Rt.tp x)) rfl rfl (.inr ⟨_, _, _, rfl, rfl, by kernel_rfl, by decide, rfl⟩) (by kernel_rfl) points_cell rfl (Con.fr_tp k x) field26_1) (by kernel_rfl), ?_⟩
      refine fcs ⟨Ob.new_ (ob_read 24 11 12 (Con.nn k (Rt.tp x)) rfl rfl (.inr ⟨_, _, _, rfl, rfl, by kernel_rfl, by decide, rfl⟩) (by kernel_rfl) points_ptr rfl row24 info24) (by kernel_rfl), ?_⟩
      refine fcs ⟨Ob.new_ (ob_addr 28 1 3 13 1 (Con.fr l y) (Con.nn l (Rt.tp y)) rfl rfl (.inr ⟨_, _, _, rfl, rfl, by kernel_rfl, by decide, rfl⟩) (by kernel_rfl) points_cell rfl (Con.fr_tp l y) field26_1) (by kernel_rfl), ?_⟩
      refine fcs ⟨Ob.new_ (ob_read 24 13 14 (Con.nn l (Rt.tp y)) rfl rfl (.inr ⟨_, _, _, rfl, rfl, by kernel_rfl, by decide, rfl⟩) (by kernel_rfl) points_ptr rfl row24 info24) (by kernel_rfl), ?_⟩
      refine fcs ⟨Ob.new_ (ob_call2 26 12 14 15 _ rfl rfl (.inr ⟨_, _, _, rfl, rfl, by kernel_rfl, by decide, rfl⟩) (by kernel_rfl) (by kernel_rfl) (by kernel_rfl) (r_same k l (Rt.tp x) (Rt.tp y) false h2)) (by kernel_rfl), ?_⟩
      refine fcs ⟨Ob.new_ (ob_pick 10 15 16 _ rfl rfl (.inl rfl) (by kernel_rfl) (by kernel_rfl) rfl rfl) (by kernel_rfl), ?_⟩
      refine fcs ⟨Ob.new_ (ob_copy 16 17 (.inl rfl) rfl (.inl rfl) (by kernel_rfl) rfl) (by kernel_rfl), ?_⟩
      refine fcs ⟨Ob.new_ (ob_skip 12 17 18 true rfl rfl (by kernel_rfl) (by decide) rfl rfl rfl) (by kernel_rfl), ?_⟩
      refine fcs ⟨Ob.new_ (ob_skip 12 17 19 true rfl rfl (by kernel_rfl) (by decide) rfl rfl rfl) (by kernel_rfl), ?_⟩
      refine fcs ⟨Ob.new_ (ob_skip 12 17 20 true rfl rfl (by kernel_rfl) (by decide) rfl rfl rfl) (by kernel_rfl), ?_⟩
      refine fcs ⟨Ob.new_ (ob_skip 12 17 21 true rfl rfl (by kernel_rfl) (by decide) rfl rfl rfl) (by kernel_rfl), ?_⟩
      refine fcs ⟨Ob.new_ (ob_skip 12 17 22 true rfl rfl (by kernel_rfl) (by decide) rfl rfl rfl) (by kernel_rfl), ?_⟩
      refine fcs ⟨Ob.new_ (ob_pick_no 17 22 23 (.bool false) rfl rfl (.inl rfl) (by kernel_rfl) rfl rfl) (by kernel_rfl), ?_⟩
      refine fcs ⟨Ob.new_ (ob_copy 23 4 (.inr rfl) rfl (.inl rfl) (by kernel_rfl) rfl) (by kernel_rfl), ?_⟩
      exact fnl
    intro a2 w2 st2 hbr2 hfr
    have hs2 := hbr2.size
    have hb := up hb hbr2
    have st : St 24 [(4, Fact.eq (.bool false))] a2 w2 := st2.to (fcs ⟨st2.at_ 4, fnl⟩)
    clear st2 hbr2 hfr
    refine wpList_nil ?_
    refine then_normal ?_
    refine wp_ret ?_
    exact sym_ret1 rfl st.defers (resAt_tmp st 4) hb (fun v h => by subst hbd; rw [decide_eq_false (fun e => of_decide_eq_false h2 (by rw [e]))]; exact h)
  | true =>
  cases h3 : decide (x.den = y.den) with
  | false =>
    refine sym_calls 24 [(0, Fact.agg (Con.fr k x)), (1, Fact.agg (Con.fr l y))] Tryd.func8 rfl rfl (Nat.le_of_ble_eq_true rfl) (fcs ⟨⟨Nat.le_of_ble_eq_true rfl, hv0⟩, fcs ⟨⟨Nat.le_of_ble_eq_true rfl, hv1⟩, fnl⟩⟩) fun a st => ?_
    have hb := Below.refl w.heap.size w
    refine wp_seq ?_
    refine sym_region st [(2, Fact.var' (Con.fr k x)), (3, Fact.var' (Con.fr l y)), (4, Fact.eq (.bool false))] [2, 3] 3 (by kernel_rfl) (by kernel_rfl) (by kernel_rfl) (Nat.le_of_ble_eq_true rfl) (by kernel_rfl) rfl rfl ?_ ?_
    · refine fcs ⟨obn_box 28 0 2 _ (Con.fr k x) rfl rfl rfl (by kernel_rfl) rfl rfl, ?_⟩
      refine fcs ⟨obn_box 28 1 3 _ (Con.fr l y) rfl rfl rfl (by kernel_rfl) rfl rfl, ?_⟩
      refine fcs ⟨Ob.new_ (ob_const (.bool false) 4 (.inr rfl) rfl (.inl rfl) rfl) (by kernel_rfl), ?_⟩
      exact fnl
    intro a1 w1 st1 hbr1 hfr
    have hs1 := hbr1.size
    have hb := up hb hbr1
    obtain ⟨b2, c2⟩ := (show (Fact.var' (Con.fr k x)).holds _ _ from st1.at_ 2)
    have g2 := hfr.ge (s := 2) rfl c2.1
    obtain ⟨b3, c3⟩ := (show (Fact.var' (Con.fr l y)).holds _ _ from st1.at_ 3)
    have g3 := hfr.ge (s := 3) rfl c3.1
    have ne2_3 := hfr.apart (s := 2) (t := 3) rfl rfl (by decide) c2.1 c3.1
    have st : St 24 [(2, Fact.cell b2 (Con.fr k x)), (3, Fact.cell b3 (Con.fr l y)), (4, Fact.eq (.bool false))] a1 w1 := st1.to (fcs ⟨c2, fcs ⟨c3, fcs ⟨st1.at_ 4, fnl⟩⟩⟩)
    clear st1 hbr1 hfr c2 c3
    refine wpList_nil ?_
    refine then_normal ?_
    refine wp_seq ?_
    have st := st.to (ks' := [(2, Fact.cell b2 (Con.fr k x)), (3, Fact.cell b3 (Con.fr l y))]) (fcs ⟨st.at_ 2, fcs ⟨st.at_ 3, fnl⟩⟩)
    refine sym_region st [(5, Fact.ptr (Con.bool (Rt.ng x))), (6, Fact.eq (.bool (Rt.ng x))), (7, Fact.ptr (Con.bool (Rt.ng y))), (8, Fact.eq (.bool (Rt.ng y))), (9, Fact.eq (.bool true)), (10, Fact.eq (.bool true)), (11, Fact.ptr (Con.nn k (Rt.tp x))), (12, Fact.agg (Con.nn k (Rt.tp x))), (13, Fact.ptr (Con.nn l (Rt.tp y))), (14, Fact.agg (Con.nn l (Rt.tp y))), (15, Fact.eq (.bool true)), (16, Fact.eq (.bool true)), (17, Fact.eq (.bool true)), (18, Fact.ptr (Con.nn k (Rat.den x))), (19, Fact.agg (Con.nn k (Rat.den x))), (20, Fact.ptr (Con.nn l (Rat.den y))), (21, Fact.agg (Con.nn l (Rat.den y))), (22, Fact.eq (.bool false)), (23, Fact.eq (.bool false)), (4, Fact.eq (.bool false))] [] 20 (by kernel_rfl) (by kernel_rfl) (by kernel_rfl) (Nat.le_of_ble_eq_true rfl) (by kernel_rfl) rfl rfl ?_ ?_
    · refine fcs ⟨Ob.new_ (ob_addr 28 0 2 5 0 (Con.fr k x) (Con.bool (Rt.ng x)) rfl rfl (.inl rfl) (by kernel_rfl) points_cell rfl (Con.fr_ng k x) field26_0) (by kernel_rfl), ?_⟩
      refine fcs ⟨Ob.new_ (ob_readb 5 6 (Rt.ng x) (Rt.ng x) rfl rfl rfl (.inl rfl) (by kernel_rfl) points_ptr rfl) (by kernel_rfl), ?_⟩
      refine fcs ⟨Ob.new_ (ob_addr 28 0 3 7 0 (Con.fr l y) (Con.bool (Rt.ng y)) rfl rfl (.inl rfl) (by kernel_rfl) points_cell rfl (Con.fr_ng l y) field26_0) (by kernel_rfl), ?_⟩
      refine fcs ⟨Ob.new_ (ob_readb 7 8 (Rt.ng y) (Rt.ng y) rfl rfl rfl (.inl rfl) (by kernel_rfl) points_ptr rfl) (by kernel_rfl), ?_⟩
      refine fcs ⟨Ob.new_ (ob_eqb 6 8 9 (Rt.ng x) (Rt.ng y) true h1 rfl rfl (.inl rfl) (by kernel_rfl) (by kernel_rfl) rfl rfl rfl) (by kernel_rfl), ?_⟩
      refine fcs ⟨Ob.new_ (ob_copy 9 10 (.inl rfl) rfl (.inl rfl) (by kernel_rfl) rfl) (by kernel_rfl), ?_⟩
      refine fcs ⟨Ob.new_ (ob_addr 28 1 2 11 1 (Con.fr k x) (Con.nn k (Rt.tp x)) rfl rfl (.inr ⟨_, _, _, rfl, rfl, by kernel_rfl, by decide, rfl⟩) (by kernel_rfl) points_cell rfl (Con.fr_tp k x) field26_1) (by kernel_rfl), ?_⟩
      refine fcs ⟨Ob.new_ (ob_read 24 11 12 (Con.nn k (Rt.tp x)) rfl rfl (.inr ⟨_, _, _, rfl, rfl, by kernel_rfl, by decide, rfl⟩) (by kernel_rfl) points_ptr rfl row24 info24) (by kernel_rfl), ?_⟩
      refine fcs ⟨Ob.new_ (ob_addr 28 1 3 13 1 (Con.fr l y) (Con.nn l (Rt.tp y)) rfl rfl (.inr ⟨_, _, _, rfl, rfl, by kernel_rfl, by decide, rfl⟩) (by kernel_rfl) points_cell rfl (Con.fr_tp l y) field26_1) (by kernel_rfl), ?_⟩
      refine fcs ⟨Ob.new_ (ob_read 24 13 14 (Con.nn l (Rt.tp y)) rfl rfl (.inr ⟨_, _, _, rfl, rfl, by kernel_rfl, by decide, rfl⟩) (by kernel_rfl) points_ptr rfl row24 info24) (by kernel_rfl), ?_⟩
      refine fcs ⟨Ob.new_ (ob_call2 26 12 14 15 _ rfl rfl (.inr ⟨_, _, _, rfl, rfl, by kernel_rfl, by decide, rfl⟩) (by kernel_rfl) (by kernel_rfl) (by kernel_rfl) (r_same k l (Rt.tp x) (Rt.tp y) true h2)) (by kernel_rfl), ?_⟩
      refine fcs ⟨Ob.new_ (ob_pick 10 15 16 _ rfl rfl (.inl rfl) (by kernel_rfl) (by kernel_rfl) rfl rfl) (by kernel_rfl), ?_⟩
      refine fcs ⟨Ob.new_ (ob_copy 16 17 (.inl rfl) rfl (.inl rfl) (by kernel_rfl) rfl) (by kernel_rfl), ?_⟩
      refine fcs ⟨Ob.new_ (ob_addr 28 2 2 18 2 (Con.fr k x) (Con.nn k (Rat.den x)) rfl rfl (.inr ⟨_, _, _, rfl, rfl, by kernel_rfl, by decide, rfl⟩) (by kernel_rfl) points_cell rfl (Con.fr_den k x) field26_2) (by kernel_rfl), ?_⟩
      refine fcs ⟨Ob.new_ (ob_read 24 18 19 (Con.nn k (Rat.den x)) rfl rfl (.inr ⟨_, _, _, rfl, rfl, by kernel_rfl, by decide, rfl⟩) (by kernel_rfl) points_ptr rfl row24 info24) (by kernel_rfl), ?_⟩
      refine fcs ⟨Ob.new_ (ob_addr 28 2 3 20 2 (Con.fr l y) (Con.nn l (Rat.den y)) rfl rfl (.inr ⟨_, _, _, rfl, rfl, by kernel_rfl, by decide, rfl⟩) (by kernel_rfl) points_cell rfl (Con.fr_den l y) field26_2) (by kernel_rfl), ?_⟩
      refine fcs ⟨Ob.new_ (ob_read 24 20 21 (Con.nn l (Rat.den y)) rfl rfl (.inr ⟨_, _, _, rfl, rfl, by kernel_rfl, by decide, rfl⟩) (by kernel_rfl) points_ptr rfl row24 info24) (by kernel_rfl), ?_⟩
      refine fcs ⟨Ob.new_ (ob_call2 26 19 21 22 _ rfl rfl (.inr ⟨_, _, _, rfl, rfl, by kernel_rfl, by decide, rfl⟩) (by kernel_rfl) (by kernel_rfl) (by kernel_rfl) (r_same k l (Rat.den x) (Rat.den y) false h3)) (by kernel_rfl), ?_⟩
      refine fcs ⟨Ob.new_ (ob_pick 17 22 23 _ rfl rfl (.inl rfl) (by kernel_rfl) (by kernel_rfl) rfl rfl) (by kernel_rfl), ?_⟩
      refine fcs ⟨Ob.new_ (ob_copy 23 4 (.inr rfl) rfl (.inl rfl) (by kernel_rfl) rfl) (by kernel_rfl), ?_⟩
      exact fnl
    intro a2 w2 st2 hbr2 hfr
    have hs2 := hbr2.size
    have hb := up hb hbr2
    have st : St 24 [(4, Fact.eq (.bool false))] a2 w2 := st2.to (fcs ⟨st2.at_ 4, fnl⟩)
    clear st2 hbr2 hfr
    refine wpList_nil ?_
    refine then_normal ?_
    refine wp_ret ?_
    exact sym_ret1 rfl st.defers (resAt_tmp st 4) hb (fun v h => by subst hbd; rw [decide_eq_false (fun e => of_decide_eq_false h3 (by rw [e]))]; exact h)
  | true =>
    refine sym_calls 24 [(0, Fact.agg (Con.fr k x)), (1, Fact.agg (Con.fr l y))] Tryd.func8 rfl rfl (Nat.le_of_ble_eq_true rfl) (fcs ⟨⟨Nat.le_of_ble_eq_true rfl, hv0⟩, fcs ⟨⟨Nat.le_of_ble_eq_true rfl, hv1⟩, fnl⟩⟩) fun a st => ?_
    have hb := Below.refl w.heap.size w
    refine wp_seq ?_
    refine sym_region st [(2, Fact.var' (Con.fr k x)), (3, Fact.var' (Con.fr l y)), (4, Fact.eq (.bool false))] [2, 3] 3 (by kernel_rfl) (by kernel_rfl) (by kernel_rfl) (Nat.le_of_ble_eq_true rfl) (by kernel_rfl) rfl rfl ?_ ?_
    · refine fcs ⟨obn_box 28 0 2 _ (Con.fr k x) rfl rfl rfl (by kernel_rfl) rfl rfl, ?_⟩
      refine fcs ⟨obn_box 28 1 3 _ (Con.fr l y) rfl rfl rfl (by kernel_rfl) rfl rfl, ?_⟩
      refine fcs ⟨Ob.new_ (ob_const (.bool false) 4 (.inr rfl) rfl (.inl rfl) rfl) (by kernel_rfl), ?_⟩
      exact fnl
    intro a1 w1 st1 hbr1 hfr
    have hs1 := hbr1.size
    have hb := up hb hbr1
    obtain ⟨b2, c2⟩ := (show (Fact.var' (Con.fr k x)).holds _ _ from st1.at_ 2)
    have g2 := hfr.ge (s := 2) rfl c2.1
    obtain ⟨b3, c3⟩ := (show (Fact.var' (Con.fr l y)).holds _ _ from st1.at_ 3)
    have g3 := hfr.ge (s := 3) rfl c3.1
    have ne2_3 := hfr.apart (s := 2) (t := 3) rfl rfl (by decide) c2.1 c3.1
    have st : St 24 [(2, Fact.cell b2 (Con.fr k x)), (3, Fact.cell b3 (Con.fr l y)), (4, Fact.eq (.bool false))] a1 w1 := st1.to (fcs ⟨c2, fcs ⟨c3, fcs ⟨st1.at_ 4, fnl⟩⟩⟩)
    clear st1 hbr1 hfr c2 c3
    refine wpList_nil ?_
    refine then_normal ?_
    refine wp_seq ?_
    have st := st.to (ks' := [(2, Fact.cell b2 (Con.fr k x)), (3, Fact.cell b3 (Con.fr l y))]) (fcs ⟨st.at_ 2, fcs ⟨st.at_ 3, fnl⟩⟩)
    refine sym_region st [(5, Fact.ptr (Con.bool (Rt.ng x))), (6, Fact.eq (.bool (Rt.ng x))), (7, Fact.ptr (Con.bool (Rt.ng y))), (8, Fact.eq (.bool (Rt.ng y))), (9, Fact.eq (.bool true)), (10, Fact.eq (.bool true)), (11, Fact.ptr (Con.nn k (Rt.tp x))), (12, Fact.agg (Con.nn k (Rt.tp x))), (13, Fact.ptr (Con.nn l (Rt.tp y))), (14, Fact.agg (Con.nn l (Rt.tp y))), (15, Fact.eq (.bool true)), (16, Fact.eq (.bool true)), (17, Fact.eq (.bool true)), (18, Fact.ptr (Con.nn k (Rat.den x))), (19, Fact.agg (Con.nn k (Rat.den x))), (20, Fact.ptr (Con.nn l (Rat.den y))), (21, Fact.agg (Con.nn l (Rat.den y))), (22, Fact.eq (.bool true)), (23, Fact.eq (.bool true)), (4, Fact.eq (.bool true))] [] 20 (by kernel_rfl) (by kernel_rfl) (by kernel_rfl) (Nat.le_of_ble_eq_true rfl) (by kernel_rfl) rfl rfl ?_ ?_
    · refine fcs ⟨Ob.new_ (ob_addr 28 0 2 5 0 (Con.fr k x) (Con.bool (Rt.ng x)) rfl rfl (.inl rfl) (by kernel_rfl) points_cell rfl (Con.fr_ng k x) field26_0) (by kernel_rfl), ?_⟩
      refine fcs ⟨Ob.new_ (ob_readb 5 6 (Rt.ng x) (Rt.ng x) rfl rfl rfl (.inl rfl) (by kernel_rfl) points_ptr rfl) (by kernel_rfl), ?_⟩
      refine fcs ⟨Ob.new_ (ob_addr 28 0 3 7 0 (Con.fr l y) (Con.bool (Rt.ng y)) rfl rfl (.inl rfl) (by kernel_rfl) points_cell rfl (Con.fr_ng l y) field26_0) (by kernel_rfl), ?_⟩
      refine fcs ⟨Ob.new_ (ob_readb 7 8 (Rt.ng y) (Rt.ng y) rfl rfl rfl (.inl rfl) (by kernel_rfl) points_ptr rfl) (by kernel_rfl), ?_⟩
      refine fcs ⟨Ob.new_ (ob_eqb 6 8 9 (Rt.ng x) (Rt.ng y) true h1 rfl rfl (.inl rfl) (by kernel_rfl) (by kernel_rfl) rfl rfl rfl) (by kernel_rfl), ?_⟩
      refine fcs ⟨Ob.new_ (ob_copy 9 10 (.inl rfl) rfl (.inl rfl) (by kernel_rfl) rfl) (by kernel_rfl), ?_⟩
      refine fcs ⟨Ob.new_ (ob_addr 28 1 2 11 1 (Con.fr k x) (Con.nn k (Rt.tp x)) rfl rfl (.inr ⟨_, _, _, rfl, rfl, by kernel_rfl, by decide, rfl⟩) (by kernel_rfl) points_cell rfl (Con.fr_tp k x) field26_1) (by kernel_rfl), ?_⟩
      refine fcs ⟨Ob.new_ (ob_read 24 11 12 (Con.nn k (Rt.tp x)) rfl rfl (.inr ⟨_, _, _, rfl, rfl, by kernel_rfl, by decide, rfl⟩) (by kernel_rfl) points_ptr rfl row24 info24) (by kernel_rfl), ?_⟩
      refine fcs ⟨Ob.new_ (ob_addr 28 1 3 13 1 (Con.fr l y) (Con.nn l (Rt.tp y)) rfl rfl (.inr ⟨_, _, _, rfl, rfl, by kernel_rfl, by decide, rfl⟩) (by kernel_rfl) points_cell rfl (Con.fr_tp l y) field26_1) (by kernel_rfl), ?_⟩
      refine fcs ⟨Ob.new_ (ob_read 24 13 14 (Con.nn l (Rt.tp y)) rfl rfl (.inr ⟨_, _, _, rfl, rfl, by kernel_rfl, by decide, rfl⟩) (by kernel_rfl) points_ptr rfl row24 info24) (by kernel_rfl), ?_⟩
      refine fcs ⟨Ob.new_ (ob_call2 26 12 14 15 _ rfl rfl (.inr ⟨_, _, _, rfl, rfl, by kernel_rfl, by decide, rfl⟩) (by kernel_rfl) (by kernel_rfl) (by kernel_rfl) (r_same k l (Rt.tp x) (Rt.tp y) true h2)) (by kernel_rfl), ?_⟩
      refine fcs ⟨Ob.new_ (ob_pick 10 15 16 _ rfl rfl (.inl rfl) (by kernel_rfl) (by kernel_rfl) rfl rfl) (by kernel_rfl), ?_⟩
      refine fcs ⟨Ob.new_ (ob_copy 16 17 (.inl rfl) rfl (.inl rfl) (by kernel_rfl) rfl) (by kernel_rfl), ?_⟩
      refine fcs ⟨Ob.new_ (ob_addr 28 2 2 18 2 (Con.fr k x) (Con.nn k (Rat.den x)) rfl rfl (.inr ⟨_, _, _, rfl, rfl, by kernel_rfl, by decide, rfl⟩) (by kernel_rfl) points_cell rfl (Con.fr_den k x) field26_2) (by kernel_rfl), ?_⟩
      refine fcs ⟨Ob.new_ (ob_read 24 18 19 (Con.nn k (Rat.den x)) rfl rfl (.inr ⟨_, _, _, rfl, rfl, by kernel_rfl, by decide, rfl⟩) (by kernel_rfl) points_ptr rfl row24 info24) (by kernel_rfl), ?_⟩
      refine fcs ⟨Ob.new_ (ob_addr 28 2 3 20 2 (Con.fr l y) (Con.nn l (Rat.den y)) rfl rfl (.inr ⟨_, _, _, rfl, rfl, by kernel_rfl, by decide, rfl⟩) (by kernel_rfl) points_cell rfl (Con.fr_den l y) field26_2) (by kernel_rfl), ?_⟩
      refine fcs ⟨Ob.new_ (ob_read 24 20 21 (Con.nn l (Rat.den y)) rfl rfl (.inr ⟨_, _, _, rfl, rfl, by kernel_rfl, by decide, rfl⟩) (by kernel_rfl) points_ptr rfl row24 info24) (by kernel_rfl), ?_⟩
      refine fcs ⟨Ob.new_ (ob_call2 26 19 21 22 _ rfl rfl (.inr ⟨_, _, _, rfl, rfl, by kernel_rfl, by decide, rfl⟩) (by kernel_rfl) (by kernel_rfl) (by kernel_rfl) (r_same k l (Rat.den x) (Rat.den y) true h3)) (by kernel_rfl), ?_⟩
      refine fcs ⟨Ob.new_ (ob_pick 17 22 23 _ rfl rfl (.inl rfl) (by kernel_rfl) (by kernel_rfl) rfl rfl) (by kernel_rfl), ?_⟩
      refine fcs ⟨Ob.new_ (ob_copy 23 4 (.inr rfl) rfl (.inl rfl) (by kernel_rfl) rfl) (by kernel_rfl), ?_⟩
      exact fnl
    intro a2 w2 st2 hbr2 hfr
    have hs2 := hbr2.size
    have hb := up hb hbr2
    have st : St 24 [(4, Fact.eq (.bool true))] a2 w2 := st2.to (fcs ⟨st2.at_ 4, fnl⟩)
    clear st2 hbr2 hfr
    refine wpList_nil ?_
    refine then_normal ?_
    refine wp_ret ?_
    exact sym_ret1 rfl st.defers (resAt_tmp st 4) hb (fun v h => by subst hbd; rw [decide_eq_true (Rt.ext' (eq_of_beq h1) (of_decide_eq_true h2) (of_decide_eq_true h3))]; exact h)
set_option maxRecDepth 100000 in
theorem z_same3 (k l i j : Nat) (s : Bool) (p q : Nat) : ∀ v0 v1 w, (Fact.agg (Con.tri k l s p q)).holds v0 w → (Fact.agg (Con.tri i j s p q)).holds v1 w → Calls Tryd.prog 8 #[v0, v1] w (Ret (Fact.eq (.bool true)) w) := by
  intro v0 v1 w hv0 hv1
  refine sym_calls 24 [(0, Fact.agg (Con.tri k l s p q)), (1, Fact.agg (Con.tri i j s p q))] Tryd.func8 rfl rfl (Nat.le_of_ble_eq_true rfl) (fcs ⟨⟨Nat.le_of_ble_eq_true rfl, hv0⟩, fcs ⟨⟨Nat.le_of_ble_eq_true rfl, hv1⟩, fnl⟩⟩) fun a st => ?_
  have hb := Below.refl w.heap.size w
  refine wp_seq ?_
  refine sym_region st [(2, Fact.var' (Con.tri k l s p q)), (3, Fact.var' (Con.tri i j s p q)), (4, Fact.eq (.bool false))] [2, 3] 3 (by kernel_rfl) (by kernel_rfl) (by kernel_rfl) (Nat.le_of_ble_eq_true rfl) (by kernel_rfl) rfl rfl ?_ ?_
  · refine fcs ⟨obn_box 28 0 2 _ (Con.tri k l s p q) rfl rfl rfl (by kernel_rfl) rfl rfl, ?_⟩
    refine fcs ⟨obn_box 28 1 3 _ (Con.tri i j s p q) rfl rfl rfl (by kernel_rfl) rfl rfl, ?_⟩
    refine fcs ⟨Ob.new_ (ob_const (.bool false) 4 (.inr rfl) rfl (.inl rfl) rfl) (by kernel_rfl), ?_⟩
    exact fnl
  intro a1 w1 st1 hbr1 hfr
  have hs1 := hbr1.size
  have hb := up hb hbr1
  obtain ⟨b2, c2⟩ := (show (Fact.var' (Con.tri k l s p q)).holds _ _ from st1.at_ 2)
  have g2 := hfr.ge (s := 2) rfl c2.1
  obtain ⟨b3, c3⟩ := (show (Fact.var' (Con.tri i j s p q)).holds _ _ from st1.at_ 3)
  have g3 := hfr.ge (s := 3) rfl c3.1
  have ne2_3 := hfr.apart (s := 2) (t := 3) rfl rfl (by decide) c2.1 c3.1
  have st : St 24 [(2, Fact.cell b2 (Con.tri k l s p q)), (3, Fact.cell b3 (Con.tri i j s p q)), (4, Fact.eq (.bool false))] a1 w1 := st1.to (fcs ⟨c2, fcs ⟨c3, fcs ⟨st1.at_ 4, fnl⟩⟩⟩)
  clear st1 hbr1 hfr c2 c3
  refine wpList_nil ?_
  refine then_normal ?_
  refine wp_seq ?_
  have st := st.to (ks' := [(2, Fact.cell b2 (Con.tri k l s p q)), (3, Fact.cell b3 (Con.tri i j s p q))]) (fcs ⟨st.at_ 2, fcs ⟨st.at_ 3, fnl⟩⟩)
  refine sym_region st [(5, Fact.ptr (Con.bool s)), (6, Fact.eq (.bool s)), (7, Fact.ptr (Con.bool s)), (8, Fact.eq (.bool s)), (9, Fact.eq (.bool true)), (10, Fact.eq (.bool true)), (11, Fact.ptr (Con.nn k p)), (12, Fact.agg (Con.nn k p)), (13, Fact.ptr (Con.nn i p)), (14, Fact.agg (Con.nn i p)), (15, Fact.eq (.bool true)), (16, Fact.eq (.bool true)), (17, Fact.eq (.bool true)), (18, Fact.ptr (Con.nn l q)), (19, Fact.agg (Con.nn l q)), (20, Fact.ptr (Con.nn j q)), (21, Fact.agg (Con.nn j q)), (22, Fact.eq (.bool true)), (23, Fact.eq (.bool true)), (4, Fact.eq (.bool true))] [] 20 (by kernel_rfl) (by kernel_rfl) (by kernel_rfl) (Nat.le_of_ble_eq_true rfl) (by kernel_rfl) rfl rfl ?_ ?_
  · refine fcs ⟨Ob.new_ (ob_addr 28 0 2 5 0 (Con.tri k l s p q) (Con.bool s) rfl rfl (.inl rfl) (by kernel_rfl) points_cell rfl (Con.tri_0 k l s p q) field26_0) (by kernel_rfl), ?_⟩
    refine fcs ⟨Ob.new_ (ob_readb 5 6 s s rfl rfl rfl (.inl rfl) (by kernel_rfl) points_ptr rfl) (by kernel_rfl), ?_⟩
    refine fcs ⟨Ob.new_ (ob_addr 28 0 3 7 0 (Con.tri i j s p q) (Con.bool s) rfl rfl (.inl rfl) (by kernel_rfl) points_cell rfl (Con.tri_0 i j s p q) field26_0) (by kernel_rfl), ?_⟩
    refine fcs ⟨Ob.new_ (ob_readb 7 8 s s rfl rfl rfl (.inl rfl) (by kernel_rfl) points_ptr rfl) (by kernel_rfl), ?_⟩
    refine fcs ⟨Ob.new_ (ob_eqb 6 8 9 s s true (beq_self_eq_true s) rfl rfl (.inl rfl) (by kernel_rfl) (by kernel_rfl) rfl rfl rfl) (by kernel_rfl), ?_⟩
    refine fcs ⟨Ob.new_ (ob_copy 9 10 (.inl rfl) rfl (.inl rfl) (by kernel_rfl) rfl) (by kernel_rfl), ?_⟩
    refine fcs ⟨Ob.new_ (ob_addr 28 1 2 11 1 (Con.tri k l s p q) (Con.nn k p) rfl rfl (.inr ⟨_, _, _, rfl, rfl, by kernel_rfl, by decide, rfl⟩) (by kernel_rfl) points_cell rfl (Con.tri_1 k l s p q) field26_1) (by kernel_rfl), ?_⟩
    refine fcs ⟨Ob.new_ (ob_read 24 11 12 (Con.nn k p) rfl rfl (.inr ⟨_, _, _, rfl, rfl, by kernel_rfl, by decide, rfl⟩) (by kernel_rfl) points_ptr rfl row24 info24) (by kernel_rfl), ?_⟩
    refine fcs ⟨Ob.new_ (ob_addr 28 1 3 13 1 (Con.tri i j s p q) (Con.nn i p) rfl rfl (.inr ⟨_, _, _, rfl, rfl, by kernel_rfl, by decide, rfl⟩) (by kernel_rfl) points_cell rfl (Con.tri_1 i j s p q) field26_1) (by kernel_rfl), ?_⟩
    refine fcs ⟨Ob.new_ (ob_read 24 13 14 (Con.nn i p) rfl rfl (.inr ⟨_, _, _, rfl, rfl, by kernel_rfl, by decide, rfl⟩) (by kernel_rfl) points_ptr rfl row24 info24) (by kernel_rfl), ?_⟩
    refine fcs ⟨Ob.new_ (ob_call2 26 12 14 15 _ rfl rfl (.inr ⟨_, _, _, rfl, rfl, by kernel_rfl, by decide, rfl⟩) (by kernel_rfl) (by kernel_rfl) (by kernel_rfl) (r_same k i p p true (decide_eq_true rfl))) (by kernel_rfl), ?_⟩
    refine fcs ⟨Ob.new_ (ob_pick 10 15 16 _ rfl rfl (.inl rfl) (by kernel_rfl) (by kernel_rfl) rfl rfl) (by kernel_rfl), ?_⟩
    refine fcs ⟨Ob.new_ (ob_copy 16 17 (.inl rfl) rfl (.inl rfl) (by kernel_rfl) rfl) (by kernel_rfl), ?_⟩
    refine fcs ⟨Ob.new_ (ob_addr 28 2 2 18 2 (Con.tri k l s p q) (Con.nn l q) rfl rfl (.inr ⟨_, _, _, rfl, rfl, by kernel_rfl, by decide, rfl⟩) (by kernel_rfl) points_cell rfl (Con.tri_2 k l s p q) field26_2) (by kernel_rfl), ?_⟩
    refine fcs ⟨Ob.new_ (ob_read 24 18 19 (Con.nn l q) rfl rfl (.inr ⟨_, _, _, rfl, rfl, by kernel_rfl, by decide, rfl⟩) (by kernel_rfl) points_ptr rfl row24 info24) (by kernel_rfl), ?_⟩
    refine fcs ⟨Ob.new_ (ob_addr 28 2 3 20 2 (Con.tri i j s p q) (Con.nn j q) rfl rfl (.inr ⟨_, _, _, rfl, rfl, by kernel_rfl, by decide, rfl⟩) (by kernel_rfl) points_cell rfl (Con.tri_2 i j s p q) field26_2) (by kernel_rfl), ?_⟩
    refine fcs ⟨Ob.new_ (ob_read 24 20 21 (Con.nn j q) rfl rfl (.inr ⟨_, _, _, rfl, rfl, by kernel_rfl, by decide, rfl⟩) (by kernel_rfl) points_ptr rfl row24 info24) (by kernel_rfl), ?_⟩
    refine fcs ⟨Ob.new_ (ob_call2 26 19 21 22 _ rfl rfl (.inr ⟨_, _, _, rfl, rfl, by kernel_rfl, by decide, rfl⟩) (by kernel_rfl) (by kernel_rfl) (by kernel_rfl) (r_same l j q q true (decide_eq_true rfl))) (by kernel_rfl), ?_⟩
    refine fcs ⟨Ob.new_ (ob_pick 17 22 23 _ rfl rfl (.inl rfl) (by kernel_rfl) (by kernel_rfl) rfl rfl) (by kernel_rfl), ?_⟩
    refine fcs ⟨Ob.new_ (ob_copy 23 4 (.inr rfl) rfl (.inl rfl) (by kernel_rfl) rfl) (by kernel_rfl), ?_⟩
    exact fnl
  intro a2 w2 st2 hbr2 hfr
  have hs2 := hbr2.size
  have hb := up hb hbr2
  have st : St 24 [(4, Fact.eq (.bool true))] a2 w2 := st2.to (fcs ⟨st2.at_ 4, fnl⟩)
  clear st2 hbr2 hfr
  refine wpList_nil ?_
  refine then_normal ?_
  refine wp_ret ?_
  exact sym_ret1 rfl st.defers (resAt_tmp st 4) hb (fun _ h => h)
set_option maxRecDepth 100000 in
theorem z_valid (k : Nat) (x : Rat) (hk : k ≤ 300) : ∀ v0 w, (Fact.agg (Con.fr k x)).holds v0 w → Calls Tryd.prog 15 #[v0] w (Ret (Fact.eq (.bool true)) w) := by
  intro v0 w hv0
  cases hng : Rt.ng x with
  | false =>
    refine sym_calls 34 [(0, Fact.agg (Con.fr k x))] Tryd.func15 rfl rfl (Nat.le_of_ble_eq_true rfl) (fcs ⟨⟨Nat.le_of_ble_eq_true rfl, hv0⟩, fnl⟩) fun a st => ?_
    have hb := Below.refl w.heap.size w
    refine wp_seq ?_
    refine sym_region st [(1, Fact.var' (Con.fr k x)), (2, Fact.eq (.bool false))] [1] 2 (by kernel_rfl) (by kernel_rfl) (by kernel_rfl) (Nat.le_of_ble_eq_true rfl) (by kernel_rfl) rfl rfl ?_ ?_
    · refine fcs ⟨obn_box 28 0 1 _ (Con.fr k x) rfl rfl rfl (by kernel_rfl) rfl rfl, ?_⟩
      refine fcs ⟨Ob.new_ (ob_const (.bool false) 2 (.inr rfl) rfl (.inl rfl) rfl) (by kernel_rfl), ?_⟩
      exact fnl
    intro a1 w1 st1 hbr1 hfr
    have hs1 := hbr1.size
    have hb := up hb hbr1
    obtain ⟨b1, c1⟩ := (show (Fact.var' (Con.fr k x)).holds _ _ from st1.at_ 1)
    have g1 := hfr.ge (s := 1) rfl c1.1
    have st : St 34 [(1, Fact.cell b1 (Con.fr k x)), (2, Fact.eq (.bool false))] a1 w1 := st1.to (fcs ⟨c1, fcs ⟨st1.at_ 2, fnl⟩⟩)
    clear st1 hbr1 hfr c1
    refine wpList_nil ?_
    refine then_normal ?_
    refine wp_seq ?_
    refine wp_seq ?_
    refine sym_region st [(3, Fact.ptr (Con.nn k (Rt.tp x))), (4, Fact.agg (Con.nn k (Rt.tp x))), (5, Fact.eq (.bool true)), (6, Fact.eq (.bool false)), (7, Fact.eq (.bool false)), (8, Fact.ptr (Con.nn k (Rat.den x))), (9, Fact.agg (Con.nn k (Rat.den x))), (10, Fact.eq (.bool true)), (11, Fact.eq (.bool false)), (12, Fact.eq (.bool false)), (13, Fact.eq (.bool false)), (14, Fact.ptr (Con.nn k (Rat.den x))), (15, Fact.agg (Con.nn k (Rat.den x))), (16, Fact.eq (.bool false)), (17, Fact.eq (.bool false)), (18, Fact.eq (.bool false)), (19, Fact.ptr (Con.bool (Rt.ng x))), (20, Fact.eq (.bool false)), (21, Fact.eq (.bool false)), (22, Fact.eq undef), (23, Fact.eq undef), (24, Fact.eq undef), (25, Fact.eq (.bool false)), (26, Fact.eq (.bool false))] [] 24 (by kernel_rfl) (by kernel_rfl) (by kernel_rfl) (Nat.le_of_ble_eq_true rfl) (by kernel_rfl) rfl rfl ?_ ?_
    · refine fcs ⟨Ob.new_ (ob_addr 28 1 1 3 1 (Con.fr k x) (Con.nn k (Rt.tp x)) rfl rfl (.inl rfl) (by kernel_rfl) points_cell rfl (Con.fr_tp k x) field26_1) (by kernel_rfl), ?_⟩
      refine fcs ⟨Ob.new_ (ob_read 24 3 4 (Con.nn k (Rt.tp x)) rfl rfl (.inl rfl) (by kernel_rfl) points_ptr rfl row24 info24) (by kernel_rfl), ?_⟩
      refine fcs ⟨Ob.new_ (ob_call1 11 4 5 _ rfl rfl (.inl rfl) (by kernel_rfl) (by kernel_rfl) (r_valid k (Rt.tp x))) (by kernel_rfl), ?_⟩
      refine fcs ⟨Ob.new_ (ob_not 5 6 true false rfl rfl rfl (.inl rfl) (by kernel_rfl) rfl rfl) (by kernel_rfl), ?_⟩
      refine fcs ⟨Ob.new_ (ob_copy 6 7 (.inl rfl) rfl (.inl rfl) (by kernel_rfl) rfl) (by kernel_rfl), ?_⟩
      refine fcs ⟨Ob.new_ (ob_addr 28 2 1 8 2 (Con.fr k x) (Con.nn k (Rat.den x)) rfl rfl (.inr ⟨_, _, _, rfl, rfl, by kernel_rfl, by decide, rfl⟩) (by kernel_rfl) points_cell rfl (Con.fr_den k x) field26_2) (by kernel_rfl), ?_⟩
      refine fcs ⟨Ob.new_ (ob_read 24 8 9 (Con.nn k (Rat.den x)) rfl rfl (.inr ⟨_, _, _, rfl, rfl, by kernel_rfl, by decide, rfl⟩) (by kernel_rfl) points_ptr rfl row24 info24) (by kernel_rfl), ?_⟩
      refine fcs ⟨Ob.new_ (ob_call1 11 9 10 _ rfl rfl (.inr ⟨_, _, _, rfl, rfl, by kernel_rfl, by decide, rfl⟩) (by kernel_rfl) (by kernel_rfl) (r_valid k (Rat.den x))) (by kernel_rfl), ?_⟩
      refine fcs ⟨Ob.new_ (ob_not 10 11 true false rfl rfl rfl (.inr ⟨_, _, _, rfl, rfl, by kernel_rfl, by decide, rfl⟩) (by kernel_rfl) rfl rfl) (by kernel_rfl), ?_⟩
      refine fcs ⟨Ob.new_ (ob_pick_else 7 11 12 (.bool true) rfl rfl (.inl rfl) (by kernel_rfl) (by kernel_rfl) rfl rfl) (by kernel_rfl), ?_⟩
      refine fcs ⟨Ob.new_ (ob_copy 12 13 (.inl rfl) rfl (.inl rfl) (by kernel_rfl) rfl) (by kernel_rfl), ?_⟩
      refine fcs ⟨Ob.new_ (ob_addr 28 2 1 14 2 (Con.fr k x) (Con.nn k (Rat.den x)) rfl rfl (.inr ⟨_, _, _, rfl, rfl, by kernel_rfl, by decide, rfl⟩) (by kernel_rfl) points_cell rfl (Con.fr_den k x) field26_2) (by kernel_rfl), ?_⟩
      refine fcs ⟨Ob.new_ (ob_read 24 14 15 (Con.nn k (Rat.den x)) rfl rfl (.inr ⟨_, _, _, rfl, rfl, by kernel_rfl, by decide, rfl⟩) (by kernel_rfl) points_ptr rfl row24 info24) (by kernel_rfl), ?_⟩
      refine fcs ⟨Ob.new_ (ob_call1 34 15 16 _ rfl rfl (.inr ⟨_, _, _, rfl, rfl, by kernel_rfl, by decide, rfl⟩) (by kernel_rfl) (by kernel_rfl) (z_zero k (Rat.den x) false (decide_eq_false x.den_nz))) (by kernel_rfl), ?_⟩
      refine fcs ⟨Ob.new_ (ob_pick_else 13 16 17 (.bool true) rfl rfl (.inl rfl) (by kernel_rfl) (by kernel_rfl) rfl rfl) (by kernel_rfl), ?_⟩
      refine fcs ⟨Ob.new_ (ob_copy 17 18 (.inl rfl) rfl (.inl rfl) (by kernel_rfl) rfl) (by kernel_rfl), ?_⟩
      refine fcs ⟨Ob.new_ (ob_addr 28 0 1 19 0 (Con.fr k x) (Con.bool (Rt.ng x)) rfl rfl (.inr ⟨_, _, _, rfl, rfl, by kernel_rfl, by decide, rfl⟩) (by kernel_rfl) points_cell rfl (Con.fr_ng k x) field26_0) (by kernel_rfl), ?_⟩
      refine fcs ⟨Ob.new_ (ob_readb 19 20 (Rt.ng x) false hng rfl rfl (.inr ⟨_, _, _, rfl, rfl, by kernel_rfl, by decide, rfl⟩) (by kernel_rfl) points_ptr rfl) (by kernel_rfl), ?_⟩
      refine fcs ⟨Ob.new_ (ob_copy 20 21 (.inl rfl) rfl (.inr ⟨_, _, _, rfl, rfl, by kernel_rfl, by decide, rfl⟩) (by kernel_rfl) rfl) (by kernel_rfl), ?_⟩
      refine fcs ⟨Ob.new_ (ob_skip 18 21 22 true rfl rfl (by kernel_rfl) (by decide) rfl rfl rfl) (by kernel_rfl), ?_⟩
      refine fcs ⟨Ob.new_ (ob_skip 18 21 23 true rfl rfl (by kernel_rfl) (by decide) rfl rfl rfl) (by kernel_rfl), ?_⟩
      refine fcs ⟨Ob.new_ (ob_skip 18 21 24 true rfl rfl (by kernel_rfl) (by decide) rfl rfl rfl) (by kernel_rfl), ?_⟩
      refine fcs ⟨Ob.new_ (ob_pick_no 21 24 25 (.bool false) rfl rfl (.inr ⟨_, _, _, rfl, rfl, by kernel_rfl, by decide, rfl⟩) (by kernel_rfl) rfl rfl) (by kernel_rfl), ?_⟩
      refine fcs ⟨Ob.new_ (ob_pick_else 18 25 26 (.bool true) rfl rfl (.inl rfl) (by kernel_rfl) (by kernel_rfl) rfl rfl) (by kernel_rfl), ?_⟩
      exact fnl
    intro a2 w2 st2 hbr2 hfr
    have hs2 := hbr2.size
    have hb := up hb hbr2
    have st : St 34 [(1, Fact.cell b1 (Con.fr k x)), (2, Fact.eq (.bool false)), (26, Fact.eq (.bool false))] a2 w2 := st2.to (fcs ⟨st2.at_ 1, fcs ⟨st2.at_ 2, fcs ⟨st2.at_ 26, fnl⟩⟩⟩)
    clear st2 hbr2 hfr
    refine wpList_nil ?_
    refine then_normal ?_
    refine wp_cond_false (st.at_ 26) ?_
    refine wp_skip ?_
    refine then_normal ?_
    refine wp_seq ?_
    have st := st.to (ks' := [(1, Fact.cell b1 (Con.fr k x)), (26, Fact.eq (.bool false))]) (fcs ⟨st.at_ 1, fcs ⟨st.at_ 26, fnl⟩⟩)
    refine sym_region st [(27, Fact.ptr (Con.nn k (Rt.tp x))), (28, Fact.agg (Con.nn k (Rt.tp x))), (29, Fact.ptr (Con.nn k (Rat.den x))), (30, Fact.agg (Con.nn k (Rat.den x))), (31, Fact.agg (Con.nn k (Nat.gcd (Rt.tp x) (Rat.den x)))), (32, Fact.agg (Con.nn 1 1)), (33, Fact.eq (.bool true)), (2, Fact.eq (.bool true))] [] 8 (by kernel_rfl) (by kernel_rfl) (by kernel_rfl) (Nat.le_of_ble_eq_true rfl) (by kernel_rfl) rfl rfl ?_ ?_
    · refine fcs ⟨Ob.new_ (ob_addr 28 1 1 27 1 (Con.fr k x) (Con.nn k (Rt.tp x)) rfl rfl (.inl rfl) (by kernel_rfl) points_cell rfl (Con.fr_tp k x) field26_1) (by kernel_rfl), ?_⟩
      refine fcs ⟨Ob.new_ (ob_read 24 27 28 (Con.nn k (Rt.tp x)) rfl rfl (.inl rfl) (by kernel_rfl) points_ptr rfl row24 info24) (by kernel_rfl), ?_⟩
      refine fcs ⟨Ob.new_ (ob_addr 28 2 1 29 2 (Con.fr k x) (Con.nn k (Rat.den x)) rfl rfl (.inl rfl) (by kernel_rfl) points_cell rfl (Con.fr_den k x) field26_2) (by kernel_rfl), ?_⟩
      refine fcs ⟨Ob.new_ (ob_read 24 29 30 (Con.nn k (Rat.den x)) rfl rfl (.inl rfl) (by kernel_rfl) points_ptr rfl row24 info24) (by kernel_rfl), ?_⟩
      refine fcs ⟨Ob.new_ (ob_call2 35 28 30 31 _ rfl rfl (.inl rfl) (by kernel_rfl) (by kernel_rfl) (by kernel_rfl) (r_gcd k k (Rt.tp x) (Rat.den x) x.den_nz (by omega) (by omega))) (by kernel_rfl), ?_⟩
      refine fcs ⟨Ob.new_ (ob_callc 24 _ 32 _ rfl rfl (.inl rfl) (by kernel_rfl) (r_ofc 1 1 (by decide) (by unfold Nm.Sz; decide))) (by kernel_rfl), ?_⟩
      refine fcs ⟨Ob.new_ (ob_call2 26 31 32 33 _ rfl rfl (.inl rfl) (by kernel_rfl) (by kernel_rfl) (by kernel_rfl) (r_same k 1 (Nat.gcd (Rt.tp x) (Rat.den x)) 1 true (decide_eq_true (Rt.vld x).low))) (by kernel_rfl), ?_⟩
      refine fcs ⟨Ob.new_ (ob_copy 33 2 (.inr rfl) rfl (.inl rfl) (by kernel_rfl) rfl) (by kernel_rfl), ?_⟩
      exact fnl
    intro a3 w3 st3 hbr3 hfr
    have hs3 := hbr3.size
    have hb := up hb hbr3
    have st : St 34 [(2, Fact.eq (.bool true))] a3 w3 := st3.to (fcs ⟨st3.at_ 2, fnl⟩)
    clear st3 hbr3 hfr
    refine wpList_nil ?_
    refine then_normal ?_
    refine wp_ret ?_
    exact sym_ret1 rfl st.defers (resAt_tmp st 2) hb (fun _ h => h)
  | true =>
    refine sym_calls 34 [(0, Fact.agg (Con.fr k x))] Tryd.func15 rfl rfl (Nat.le_of_ble_eq_true rfl) (fcs ⟨⟨Nat.le_of_ble_eq_true rfl, hv0⟩, fnl⟩) fun a st => ?_
    have hb := Below.refl w.heap.size w
    refine wp_seq ?_
    refine sym_region st [(1, Fact.var' (Con.fr k x)), (2, Fact.eq (.bool false))] [1] 2 (by kernel_rfl) (by kernel_rfl) (by kernel_rfl) (Nat.le_of_ble_eq_true rfl) (by kernel_rfl) rfl rfl ?_ ?_
    · refine fcs ⟨obn_box 28 0 1 _ (Con.fr k x) rfl rfl rfl (by kernel_rfl) rfl rfl, ?_⟩
      refine fcs ⟨Ob.new_ (ob_const (.bool false) 2 (.inr rfl) rfl (.inl rfl) rfl) (by kernel_rfl), ?_⟩
      exact fnl
    intro a1 w1 st1 hbr1 hfr
    have hs1 := hbr1.size
    have hb := up hb hbr1
    obtain ⟨b1, c1⟩ := (show (Fact.var' (Con.fr k x)).holds _ _ from st1.at_ 1)
    have g1 := hfr.ge (s := 1) rfl c1.1
    have st : St 34 [(1, Fact.cell b1 (Con.fr k x)), (2, Fact.eq (.bool false))] a1 w1 := st1.to (fcs ⟨c1, fcs ⟨st1.at_ 2, fnl⟩⟩)
    clear st1 hbr1 hfr c1
    refine wpList_nil ?_
    refine then_normal ?_
    refine wp_seq ?_
    refine wp_seq ?_
    refine sym_region st [(3, Fact.ptr (Con.nn k (Rt.tp x))), (4, Fact.agg (Con.nn k (Rt.tp x))), (5, Fact.eq (.bool true)), (6, Fact.eq (.bool false)), (7, Fact.eq (.bool false)), (8, Fact.ptr (Con.nn k (Rat.den x))), (9, Fact.agg (Con.nn k (Rat.den x))), (10, Fact.eq (.bool true)), (11, Fact.eq (.bool false)), (12, Fact.eq (.bool false)), (13, Fact.eq (.bool false)), (14, Fact.ptr (Con.nn k (Rat.den x))), (15, Fact.agg (Con.nn k (Rat.den x))), (16, Fact.eq (.bool false)), (17, Fact.eq (.bool false)), (18, Fact.eq (.bool false)), (19, Fact.ptr (Con.bool (Rt.ng x))), (20, Fact.eq (.bool true)), (21, Fact.eq (.bool true)), (22, Fact.ptr (Con.nn k (Rt.tp x))), (23, Fact.agg (Con.nn k (Rt.tp x))), (24, Fact.eq (.bool false)), (25, Fact.eq (.bool false)), (26, Fact.eq (.bool false))] [] 24 (by kernel_rfl) (by kernel_rfl) (by kernel_rfl) (Nat.le_of_ble_eq_true rfl) (by kernel_rfl) rfl rfl ?_ ?_
    · refine fcs ⟨Ob.new_ (ob_addr 28 1 1 3 1 (Con.fr k x) (Con.nn k (Rt.tp x)) rfl rfl (.inl rfl) (by kernel_rfl) points_cell rfl (Con.fr_tp k x) field26_1) (by kernel_rfl), ?_⟩
      refine fcs ⟨Ob.new_ (ob_read 24 3 4 (Con.nn k (Rt.tp x)) rfl rfl (.inl rfl) (by kernel_rfl) points_ptr rfl row24 info24) (by kernel_rfl), ?_⟩
      refine fcs ⟨Ob.new_ (ob_call1 11 4 5 _ rfl rfl (.inl rfl) (by kernel_rfl) (by kernel_rfl) (r_valid k (Rt.tp x))) (by kernel_rfl), ?_⟩
      refine fcs ⟨Ob.new_ (ob_not 5 6 true false rfl rfl rfl (.inl rfl) (by kernel_rfl) rfl rfl) (by kernel_rfl), ?_⟩
      refine fcs ⟨Ob.new_ (ob_copy 6 7 (.inl rfl) rfl (.inl rfl) (by kernel_rfl) rfl) (by kernel_rfl), ?_⟩
      refine fcs ⟨Ob.new_ (ob_addr 28 2 1 8 2 (Con.fr k x) (Con.nn k (Rat.den x)) rfl rfl (.inr ⟨_, _, _, rfl, rfl, by kernel_rfl, by decide, rfl⟩) (by kernel_rfl) points_cell rfl (Con.fr_den k x) field26_2) (by kernel_rfl), ?_⟩
      refine fcs ⟨Ob.new_ (ob_read 24 8 9 (Con.nn k (Rat.den x)) rfl rfl (.inr ⟨_, _, _, rfl, rfl, by kernel_rfl, by decide, rfl⟩) (by kernel_rfl) points_ptr rfl row24 info24) (by kernel_rfl), ?_⟩
      refine fcs ⟨Ob.new_ (ob_call1 11 9 10 _ rfl rfl (.inr ⟨_, _, _, rfl, rfl, by kernel_rfl, by decide, rfl⟩) (by kernel_rfl) (by kernel_rfl) (r_valid k (Rat.den x))) (by kernel_rfl), ?_⟩
      refine fcs ⟨Ob.new_ (ob_not 10 11 true false rfl rfl rfl (.inr ⟨_, _, _, rfl, rfl, by kernel_rfl, by decide, rfl⟩) (by kernel_rfl) rfl rfl) (by kernel_rfl), ?_⟩
      refine fcs ⟨Ob.new_ (ob_pick_else 7 11 12 (.bool true) rfl rfl (.inl rfl) (by kernel_rfl) (by kernel_rfl) rfl rfl) (by kernel_rfl), ?_⟩
      refine fcs ⟨Ob.new_ (ob_copy 12 13 (.inl rfl) rfl (.inl rfl) (by kernel_rfl) rfl) (by kernel_rfl), ?_⟩
      refine fcs ⟨Ob.new_ (ob_addr 28 2 1 14 2 (Con.fr k x) (Con.nn k (Rat.den x)) rfl rfl (.inr ⟨_, _, _, rfl, rfl, by kernel_rfl, by decide, rfl⟩) (by kernel_rfl) points_cell rfl (Con.fr_den k x) field26_2) (by kernel_rfl), ?_⟩
      refine fcs ⟨Ob.new_ (ob_read 24 14 15 (Con.nn k (Rat.den x)) rfl rfl (.inr ⟨_, _, _, rfl, rfl, by kernel_rfl, by decide, rfl⟩) (by kernel_rfl) points_ptr rfl row24 info24) (by kernel_rfl), ?_⟩
      refine fcs ⟨Ob.new_ (ob_call1 34 15 16 _ rfl rfl (.inr ⟨_, _, _, rfl, rfl, by kernel_rfl, by decide, rfl⟩) (by kernel_rfl) (by kernel_rfl) (z_zero k (Rat.den x) false (decide_eq_false x.den_nz))) (by kernel_rfl), ?_⟩
      refine fcs ⟨Ob.new_ (ob_pick_else 13 16 17 (.bool true) rfl rfl (.inl rfl) (by kernel_rfl) (by kernel_rfl) rfl rfl) (by kernel_rfl), ?_⟩
      refine fcs ⟨Ob.new_ (ob_copy 17 18 (.inl rfl) rfl (.inl rfl) (by kernel_rfl) rfl) (by kernel_rfl), ?_⟩
      refine fcs ⟨Ob.new_ (ob_addr 28 0 1 19 0 (Con.fr k x) (Con.bool (Rt.ng x)) rfl rfl (.inr ⟨_, _, _, rfl, rfl, by kernel_rfl, by decide, rfl⟩) (by kernel_rfl) points_cell rfl (Con.fr_ng k x) field26_0) (by kernel_rfl), ?_⟩
      refine fcs ⟨Ob.new_ (ob_readb 19 20 (Rt.ng x) true hng rfl rfl (.inr ⟨_, _, _, rfl, rfl, by kernel_rfl, by decide, rfl⟩) (by kernel_rfl) points_ptr rfl) (by kernel_rfl), ?_⟩
      refine fcs ⟨Ob.new_ (ob_copy 20 21 (.inl rfl) rfl (.inr ⟨_, _, _, rfl, rfl, by kernel_rfl, by decide, rfl⟩) (by kernel_rfl) rfl) (by kernel_rfl), ?_⟩
      refine fcs ⟨Ob.new_ (ob_addr 28 1 1 22 1 (Con.fr k x) (Con.nn k (Rt.tp x)) rfl rfl (.inr ⟨_, _, _, rfl, rfl, by kernel_rfl, by decide, rfl⟩) (by kernel_rfl) points_cell rfl (Con.fr_tp k x) field26_1) (by kernel_rfl), ?_⟩
      refine fcs ⟨Ob.new_ (ob_read 24 22 23 (Con.nn k (Rt.tp x)) rfl rfl (.inr ⟨_, _, _, rfl, rfl, by kernel_rfl, by decide, rfl⟩) (by kernel_rfl) points_ptr rfl row24 info24) (by kernel_rfl), ?_⟩
      refine fcs ⟨Ob.new_ (ob_call1 34 23 24 _ rfl rfl (.inr ⟨_, _, _, rfl, rfl, by kernel_rfl, by decide, rfl⟩) (by kernel_rfl) (by kernel_rfl) (z_zero k (Rt.tp x) false (decide_eq_false ((Rt.vld x).zero hng)))) (by kernel_rfl), ?_⟩
      refine fcs ⟨Ob.new_ (ob_pick 21 24 25 _ rfl rfl (.inr ⟨_, _, _, rfl, rfl, by kernel_rfl, by decide, rfl⟩) (by kernel_rfl) (by kernel_rfl) rfl rfl) (by kernel_rfl), ?_⟩
      refine fcs ⟨Ob.new_ (ob_pick_else 18 25 26 (.bool true) rfl rfl (.inl rfl) (by kernel_rfl) (by kernel_rfl) rfl rfl) (by kernel_rfl), ?_⟩
      exact fnl
    intro a2 w2 st2 hbr2 hfr
    have hs2 := hbr2.size
    have hb := up hb hbr2
    have st : St 34 [(1, Fact.cell b1 (Con.fr k x)), (2, Fact.eq (.bool false)), (26, Fact.eq (.bool false))] a2 w2 := st2.to (fcs ⟨st2.at_ 1, fcs ⟨st2.at_ 2, fcs ⟨st2.at_ 26, fnl⟩⟩⟩)
    clear st2 hbr2 hfr
    refine wpList_nil ?_
    refine then_normal ?_
    refine wp_cond_false (st.at_ 26) ?_
    refine wp_skip ?_
    refine then_normal ?_
    refine wp_seq ?_
    have st := st.to (ks' := [(1, Fact.cell b1 (Con.fr k x)), (26, Fact.eq (.bool false))]) (fcs ⟨st.at_ 1, fcs ⟨st.at_ 26, fnl⟩⟩)
    refine sym_region st [(27, Fact.ptr (Con.nn k (Rt.tp x))), (28, Fact.agg (Con.nn k (Rt.tp x))), (29, Fact.ptr (Con.nn k (Rat.den x))), (30, Fact.agg (Con.nn k (Rat.den x))), (31, Fact.agg (Con.nn k (Nat.gcd (Rt.tp x) (Rat.den x)))), (32, Fact.agg (Con.nn 1 1)), (33, Fact.eq (.bool true)), (2, Fact.eq (.bool true))] [] 8 (by kernel_rfl) (by kernel_rfl) (by kernel_rfl) (Nat.le_of_ble_eq_true rfl) (by kernel_rfl) rfl rfl ?_ ?_
    · refine fcs ⟨Ob.new_ (ob_addr 28 1 1 27 1 (Con.fr k x) (Con.nn k (Rt.tp x)) rfl rfl (.inl rfl) (by kernel_rfl) points_cell rfl (Con.fr_tp k x) field26_1) (by kernel_rfl), ?_⟩
      refine fcs ⟨Ob.new_ (ob_read 24 27 28 (Con.nn k (Rt.tp x)) rfl rfl (.inl rfl) (by kernel_rfl) points_ptr rfl row24 info24) (by kernel_rfl), ?_⟩
      refine fcs ⟨Ob.new_ (ob_addr 28 2 1 29 2 (Con.fr k x) (Con.nn k (Rat.den x)) rfl rfl (.inl rfl) (by kernel_rfl) points_cell rfl (Con.fr_den k x) field26_2) (by kernel_rfl), ?_⟩
      refine fcs ⟨Ob.new_ (ob_read 24 29 30 (Con.nn k (Rat.den x)) rfl rfl (.inl rfl) (by kernel_rfl) points_ptr rfl row24 info24) (by kernel_rfl), ?_⟩
      refine fcs ⟨Ob.new_ (ob_call2 35 28 30 31 _ rfl rfl (.inl rfl) (by kernel_rfl) (by kernel_rfl) (by kernel_rfl) (r_gcd k k (Rt.tp x) (Rat.den x) x.den_nz (by omega) (by omega))) (by kernel_rfl), ?_⟩
      refine fcs ⟨Ob.new_ (ob_callc 24 _ 32 _ rfl rfl (.inl rfl) (by kernel_rfl) (r_ofc 1 1 (by decide) (by unfold Nm.Sz; decide))) (by kernel_rfl), ?_⟩
      refine fcs ⟨Ob.new_ (ob_call2 26 31 32 33 _ rfl rfl (.inl rfl) (by kernel_rfl) (by kernel_rfl) (by kernel_rfl) (r_same k 1 (Nat.gcd (Rt.tp x) (Rat.den x)) 1 true (decide_eq_true (Rt.vld x).low))) (by kernel_rfl), ?_⟩
      refine fcs ⟨Ob.new_ (ob_copy 33 2 (.inr rfl) rfl (.inl rfl) (by kernel_rfl) rfl) (by kernel_rfl), ?_⟩
      exact fnl
    intro a3 w3 st3 hbr3 hfr
    have hs3 := hbr3.size
    have hb := up hb hbr3
    have st : St 34 [(2, Fact.eq (.bool true))] a3 w3 := st3.to (fcs ⟨st3.at_ 2, fnl⟩)
    clear st3 hbr3 hfr
    refine wpList_nil ?_
    refine then_normal ?_
    refine wp_ret ?_
    exact sym_ret1 rfl st.defers (resAt_tmp st 2) hb (fun _ h => h)
end Go.Proofs.YtjfehdkfogdpgaaDoor
namespace Go.Proofs.YtjfehdkfogdpgaaDoor
open Go.RowKit
theorem amt_lt {n : Int} (h : -9223372036854775808 ≤ n ∧ n ≤ 9223372036854775807) : n.natAbs < 18446744073709551616 := by omega
set_option maxHeartbeats 400000 in
theorem z_size (n : Int) (h : -9223372036854775808 ≤ n ∧ n ≤ 9223372036854775807) : ∀ v w, (Fact.eq (.int .i64 n)).holds v w → Calls Tryd.prog 25 #[v] w (Ret (Fact.eq (.int .u64 ((Int.natAbs n : Nat) : Int))) w) := by
  rintro v w rfl
  by_cases hn : n < 0
  · go_enter Tryd.func25, Tryd.ntmps25
    go_wp2
    go_ret
    refine ⟨_, rfl, Below.refl _ _, ?_⟩
    show Value.int _ _ = Value.int _ _
    congr 1
    omega
  · go_enter Tryd.func25, Tryd.ntmps25
    go_wp2
    go_ret
    refine ⟨_, rfl, Below.refl _ _, ?_⟩
    show Value.int _ _ = Value.int _ _
    congr 1
    omega
section
variable {ops : Array Oper} {Q : Exit → Act → World → Prop} {F : Nat → Fact} {base : List Nat} {N : Nat} {o : Oper}
theorem ob_conv64 (t d : Nat) (z r : Int) (hr : IntKind.u64.wrap z = r) (ho : o.op = .convert 2 45 (.tmp t)) (hd : o.dst = some d) (hg : GuardOk ops F base N o) (hk : known ops base o t = true) (hv : F t = Fact.eq (.int .i64 z)) (hF : F d = Fact.eq (.int .u64 r)) : Ob ops Q F base N o :=
  ob_one t d _ _ hd hg hk hv hF fun a w h1 => by
    subst hr
    simp [execOp, ho, h1]
    go_simp
theorem ob_neg64 (t d : Nat) (z r : Int) (hr : IntKind.u64.wrap (-z) = r) (ho : o.op = .unOp .neg 45 (.tmp t)) (hd : o.dst = some d) (hg : GuardOk ops F base N o) (hk : known ops base o t = true) (hv : F t = Fact.eq (.int .u64 z)) (hF : F d = Fact.eq (.int .u64 r)) : Ob ops Q F base N o :=
  ob_one t d _ _ hd hg hk hv hF fun a w h1 => by
    subst hr
    simp [execOp, ho, h1]
    go_simp
end
end Go.Proofs.YtjfehdkfogdpgaaDoor
namespace Go.Proofs.YtjfehdkfogdpgaaDoor
open Go.RowKit
set_option maxRecDepth 100000 in
theorem q_magnitude (n : Int) (h : -9223372036854775808 ≤ n ∧ n ≤ 9223372036854775807) : ∀ v0 w, (Fact.eq (.int .i64 n)).holds v0 w → Calls Tryd.prog 23 #[v0] w (Ret (Fact.nn 2 (Int.natAbs n)) w) := by
  intro v0 w hv0
  cases hn : decide (n < 0) with
  | false =>
    have h0 : 0 ≤ n := by have := of_decide_eq_false hn; omega
    have hc : IntKind.u64.wrap n = ((Int.natAbs n : Nat) : Int) := by rw [IntKind.wrap_u64]; omega
    refine sym_calls 12 [(0, Fact.eq (.int .i64 n))] Tryd.func23 rfl rfl (Nat.le_of_ble_eq_true rfl) (fcs ⟨⟨Nat.le_of_ble_eq_true rfl, hv0⟩, fnl⟩) fun a st => ?_
    have hb := Below.refl w.heap.size w
    refine wp_seq ?_
    refine sym_region st [(2, Fact.var' (Con.raw 1))] [2] 1 (by kernel_rfl) (by kernel_rfl) (by kernel_rfl) (Nat.le_of_ble_eq_true rfl) (by kernel_rfl) rfl rfl ?_ ?_
    · refine fcs ⟨obn_new 24 2 _ [.slice none 0 0] rfl rfl rfl rfl rfl alloc24, ?_⟩
      exact fnl
    intro a1 w1 st1 hbr1 hfr
    have hs1 := hbr1.size
    have hb := up hb hbr1
    obtain ⟨b2, c2⟩ := (show (Fact.var' (Con.raw 1)).holds _ _ from st1.at_ 2)
    have g2 := hfr.ge (s := 2) rfl c2.1
    have st : St 12 [(0, Fact.eq (.int .i64 n)), (2, Fact.cell b2 (Con.raw 1))] a1 w1 := st1.to (fcs ⟨st1.at_ 0, fcs ⟨c2, fnl⟩⟩)
    clear st1 hbr1 hfr c2
    refine wpList_nil ?_
    refine then_normal ?_
    refine wp_seq ?_
    refine wp_seq ?_
    refine sym_region st [(3, Fact.eq (.int .i64 n)), (4, Fact.eq (.bool false))] [] 2 (by kernel_rfl) (by kernel_rfl) (by kernel_rfl) (Nat.le_of_ble_eq_true rfl) (by kernel_rfl) rfl rfl ?_ ?_
    · refine fcs ⟨Ob.new_ (ob_copy 0 3 (.inl rfl) rfl (.inl rfl) (by kernel_rfl) rfl) (by kernel_rfl), ?_⟩
      refine fcs ⟨Ob.new_ (ob_ltc 3 4 .i64 2 _ n 0 false hn rfl rfl (.inl rfl) (by kernel_rfl) rfl rfl) (by kernel_rfl), ?_⟩
      exact fnl
    intro a2 w2 st2 hbr2 hfr
    have hs2 := hbr2.size
    have hb := up hb hbr2
    have st : St 12 [(0, Fact.eq (.int .i64 n)), (2, Fact.cell b2 (Con.raw 1)), (4, Fact.eq (.bool false))] a2 w2 := st2.to (fcs ⟨st2.at_ 0, fcs ⟨st2.at_ 2, fcs ⟨st2.at_ 4, fnl⟩⟩⟩)
    clear st2 hbr2 hfr
    refine wpList_nil ?_
    refine then_normal ?_
    refine wp_cond_false (st.at_ 4) ?_
    refine wp_skip ?_
    refine then_normal ?_
    refine wp_seq ?_
    refine sym_region st [(9, Fact.eq (.int .i64 n)), (10, Fact.eq (.int .u64 ((Int.natAbs n : Nat) : Int))), (11, Fact.agg (Con.nn 2 (Int.natAbs n)))] [] 3 (by kernel_rfl) (by kernel_rfl) (by kernel_rfl) (Nat.le_of_ble_eq_true rfl) (by kernel_rfl) rfl rfl ?_ ?_
    · refine fcs ⟨Ob.new_ (ob_copy 0 9 (.inl rfl) rfl (.inl rfl) (by kernel_rfl) rfl) (by kernel_rfl), ?_⟩
      refine fcs ⟨Ob.new_ (ob_conv64 9 10 n ((Int.natAbs n : Nat) : Int) hc rfl rfl (.inl rfl) (by kernel_rfl) rfl rfl) (by kernel_rfl), ?_⟩
      refine fcs ⟨Ob.new_ (ob_call1 27 10 11 _ rfl rfl (.inl rfl) (by kernel_rfl) (by kernel_rfl) (n_ofv 2 (Int.natAbs n) (amt_lt h) (of_sz (amt_lt h)) (by decide))) (by kernel_rfl), ?_⟩
      exact fnl
    intro a3 w3 st3 hbr3 hfr
    have hs3 := hbr3.size
    have hb := up hb hbr3
    have st : St 12 [(2, Fact.cell b2 (Con.raw 1)), (11, Fact.agg (Con.nn 2 (Int.natAbs n)))] a3 w3 := st3.to (fcs ⟨st3.at_ 2, fcs ⟨st3.at_ 11, fnl⟩⟩)
    clear st3 hbr3 hfr
    refine sym_store st 24 2 11 b2 (Con.raw 1) (Con.nn 2 (Int.natAbs n)) [(2, Fact.cell b2 (Con.nn 2 (Int.natAbs n)))] rfl rfl rfl rfl rfl rfl info24 ?_ ?_
    · exact fcs ⟨.inl rfl, fnl⟩
    clear st; intro w4 hB hsz4 st
    have hb := hB _ _ hb (by omega) (by omega)
    clear hB
    refine wpList_nil ?_
    refine then_normal ?_
    refine wp_ret ?_
    exact sym_ret1 rfl st.defers (resAt_cell st 2 b2 24 (Con.nn 2 (Int.natAbs n)) rfl row24 info24) hb (fun _ h => h)
  | true =>
    have h0 : n < 0 := of_decide_eq_true hn
    have hc : IntKind.u64.wrap n = n + 18446744073709551616 := by rw [IntKind.wrap_u64]; omega
    have hg : IntKind.u64.wrap (-(n + 18446744073709551616)) = ((Int.natAbs n : Nat) : Int) := by rw [IntKind.wrap_u64]; omega
    refine sym_calls 12 [(0, Fact.eq (.int .i64 n))] Tryd.func23 rfl rfl (Nat.le_of_ble_eq_true rfl) (fcs ⟨⟨Nat.le_of_ble_eq_true rfl, hv0⟩, fnl⟩) fun a st => ?_
    have hb := Below.refl w.heap.size w
    refine wp_seq ?_
    refine sym_region st [(2, Fact.var' (Con.raw 1))] [2] 1 (by kernel_rfl) (by kernel_rfl) (by kernel_rfl) (Nat.le_of_ble_eq_true rfl) (by kernel_rfl) rfl rfl ?_ ?_
    · refine fcs ⟨obn_new 24 2 _ [.slice none 0 0] rfl rfl rfl rfl rfl alloc24, ?_⟩
      exact fnl
    intro a1 w1 st1 hbr1 hfr
    have hs1 := hbr1.size
    have hb := up hb hbr1
    obtain ⟨b2, c2⟩ := (show (Fact.var' (Con.raw 1)).holds _ _ from st1.at_ 2)
    have g2 := hfr.ge (s := 2) rfl c2.1
    have st : St 12 [(0, Fact.eq (.int .i64 n)), (2, Fact.cell b2 (Con.raw 1))] a1 w1 := st1.to (fcs ⟨st1.at_ 0, fcs ⟨c2, fnl⟩⟩)
    clear st1 hbr1 hfr c2
    refine wpList_nil ?_
    refine then_normal ?_
    refine wp_seq ?_
    refine wp_seq ?_
    refine sym_region st [(3, Fact.eq (.int .i64 n)), (4, Fact.eq (.bool true))] [] 2 (by kernel_rfl) (by kernel_rfl) (by kernel_rfl) (Nat.le_of_ble_eq_true rfl) (by kernel_rfl) rfl rfl ?_ ?_
    · refine fcs ⟨Ob.new_ (ob_copy 0 3 (.inl rfl) rfl (.inl rfl) (by kernel_rfl) rfl) (by kernel_rfl), ?_⟩
      refine fcs ⟨Ob.new_ (ob_ltc 3 4 .i64 2 _ n 0 true hn rfl rfl (.inl rfl) (by kernel_rfl) rfl rfl) (by kernel_rfl), ?_⟩
      exact fnl
    intro a2 w2 st2 hbr2 hfr
    have hs2 := hbr2.size
    have hb := up hb hbr2
    have st : St 12 [(0, Fact.eq (.int .i64 n)), (2, Fact.cell b2 (Con.raw 1)), (4, Fact.eq (.bool true))] a2 w2 := st2.to (fcs ⟨st2.at_ 0, fcs ⟨st2.at_ 2, fcs ⟨st2.at_ 4, fnl⟩⟩⟩)
    clear st2 hbr2 hfr
    refine wpList_nil ?_
    refine then_normal ?_
    refine wp_cond_true (st.at_ 4) ?_
    refine wp_seq ?_
    refine sym_region st [(5, Fact.eq (.int .i64 n)), (6, Fact.eq (.int .u64 (n + 18446744073709551616))), (7, Fact.eq (.int .u64 ((Int.natAbs n : Nat) : Int))), (8, Fact.agg (Con.nn 2 (Int.natAbs n)))] [] 4 (by kernel_rfl) (by kernel_rfl) (by kernel_rfl) (Nat.le_of_ble_eq_true rfl) (by kernel_rfl) rfl rfl ?_ ?_
    · refine fcs ⟨Ob.new_ (ob_copy 0 5 (.inl rfl) rfl (.inl rfl) (by kernel_rfl) rfl) (by kernel_rfl), ?_⟩
      refine fcs ⟨Ob.new_ (ob_conv64 5 6 n (n + 18446744073709551616) hc rfl rfl (.inl rfl) (by kernel_rfl) rfl rfl) (by kernel_rfl), ?_⟩
      refine fcs ⟨Ob.new_ (ob_neg64 6 7 (n + 18446744073709551616) ((Int.natAbs n : Nat) : Int) hg rfl rfl (.inl rfl) (by kernel_rfl) rfl rfl) (by kernel_rfl), ?_⟩
      refine fcs ⟨Ob.new_ (ob_call1 27 7 8 _ rfl rfl (.inl rfl) (by kernel_rfl) (by kernel_rfl) (n_ofv 2 (Int.natAbs n) (amt_lt h) (of_sz (amt_lt h)) (by decide))) (by kernel_rfl), ?_⟩
      exact fnl
    intro a3 w3 st3 hbr3 hfr
    have hs3 := hbr3.size
    have hb := up hb hbr3
    have st : St 12 [(0, Fact.eq (.int .i64 n)), (2, Fact.cell b2 (Con.raw 1)), (8, Fact.agg (Con.nn 2 (Int.natAbs n)))] a3 w3 := st3.to (fcs ⟨st3.at_ 0, fcs ⟨st3.at_ 2, fcs ⟨st3.at_ 8, fnl⟩⟩⟩)
    clear st3 hbr3 hfr
    refine sym_store st 24 2 8 b2 (Con.raw 1) (Con.nn 2 (Int.natAbs n)) [(0, Fact.eq (.int .i64 n)), (2, Fact.cell b2 (Con.nn 2 (Int.natAbs n)))] rfl rfl rfl rfl rfl rfl info24 ?_ ?_
    · exact fcs ⟨.inr ⟨rfl, safe_eq _ _⟩, fcs ⟨.inl rfl, fnl⟩⟩
    clear st; intro w4 hB hsz4 st
    have hb := hB _ _ hb (by omega) (by omega)
    clear hB
    refine wpList_nil ?_
    refine then_normal ?_
    refine wp_ret ?_
    exact sym_ret1 rfl st.defers (resAt_cell st 2 b2 24 (Con.nn 2 (Int.natAbs n)) rfl row24 info24) hb (fun _ h => h)
theorem Fact.tri_up {k l i j : Nat} {s : Bool} {p q : Nat} {v : Value} {w : World} (h : (Fact.agg (Con.tri k l s p q)).holds v w) (hi : k ≤ i) (hj : l ≤ j) : (Fact.agg (Con.tri i j s p q)).holds v w := by
  obtain ⟨cs, h1, a, b, h2, h3, c, d, h4, ⟨A, e, h5, h6, h7⟩, ⟨B, f, h8, h9, h10⟩⟩ := h
  exact ⟨cs, h1, a, b, h2, h3, c, d, h4, ⟨A, e, h5, h6, h7.up hi⟩, ⟨B, f, h8, h9, h10.up hj⟩⟩
set_option maxRecDepth 100000 in
theorem q_int (n : Int) (h : -9223372036854775808 ≤ n ∧ n ≤ 9223372036854775807) : ∀ v0 w, (Fact.eq (.int .i64 n)).holds v0 w → Calls Tryd.prog 9 #[v0] w (Ret (Fact.fr 2 ((n : Int) : Rat)) w) := by
  intro v0 w hv0
  refine sym_calls 9 [(0, Fact.eq (.int .i64 n))] Tryd.func9 rfl rfl (Nat.le_of_ble_eq_true rfl) (fcs ⟨⟨Nat.le_of_ble_eq_true rfl, hv0⟩, fnl⟩) fun a st => ?_
  have hb := Below.refl w.heap.size w
  refine wp_seq ?_
  refine sym_region st [(2, Fact.var' (Con.raw 3))] [2] 1 (by kernel_rfl) (by kernel_rfl) (by kernel_rfl) (Nat.le_of_ble_eq_true rfl) (by kernel_rfl) rfl rfl ?_ ?_
  · refine fcs ⟨obn_new 28 2 _ [.bool false, .slice none 0 0, .slice none 0 0] rfl rfl rfl rfl rfl alloc26, ?_⟩
    exact fnl
  intro a1 w1 st1 hbr1 hfr
  have hs1 := hbr1.size
  have hb := up hb hbr1
  obtain ⟨b2, c2⟩ := (show (Fact.var' (Con.raw 3)).holds _ _ from st1.at_ 2)
  have g2 := hfr.ge (s := 2) rfl c2.1
  have st : St 9 [(0, Fact.eq (.int .i64 n)), (2, Fact.cell b2 (Con.raw 3))] a1 w1 := st1.to (fcs ⟨st1.at_ 0, fcs ⟨c2, fnl⟩⟩)
  clear st1 hbr1 hfr c2
  refine wpList_nil ?_
  refine then_normal ?_
  refine wp_seq ?_
  refine sym_region st [(3, Fact.eq (.int .i64 n)), (4, Fact.eq (.bool (decide (n < 0)))), (5, Fact.eq (.int .i64 n)), (6, Fact.agg (Con.nn 2 (Int.natAbs n))), (7, Fact.agg (Con.nn 1 1)), (8, Fact.agg (Con.tri 2 1 (decide (n < 0)) (Int.natAbs n) 1))] [] 6 (by kernel_rfl) (by kernel_rfl) (by kernel_rfl) (Nat.le_of_ble_eq_true rfl) (by kernel_rfl) rfl rfl ?_ ?_
  · refine fcs ⟨Ob.new_ (ob_copy 0 3 (.inl rfl) rfl (.inl rfl) (by kernel_rfl) rfl) (by kernel_rfl), ?_⟩
    refine fcs ⟨Ob.new_ (ob_ltc 3 4 .i64 2 _ n 0 (decide (n < 0)) rfl rfl rfl (.inl rfl) (by kernel_rfl) rfl rfl) (by kernel_rfl), ?_⟩
    refine fcs ⟨Ob.new_ (ob_copy 0 5 (.inl rfl) rfl (.inl rfl) (by kernel_rfl) rfl) (by kernel_rfl), ?_⟩
    refine fcs ⟨Ob.new_ (ob_call1 23 5 6 _ rfl rfl (.inl rfl) (by kernel_rfl) (by kernel_rfl) (q_magnitude n h)) (by kernel_rfl), ?_⟩
    refine fcs ⟨Ob.new_ (ob_callc 27 _ 7 _ rfl rfl (.inl rfl) (by kernel_rfl) (n_of 1 1 (by decide) (by unfold Nm.Sz; decide) (by decide))) (by kernel_rfl), ?_⟩
    refine fcs ⟨Ob.new_ (ob_buildtri 4 6 7 8 2 1 (Int.natAbs n) 1 (decide (n < 0)) rfl rfl (.inl rfl) (by kernel_rfl) (by kernel_rfl) (by kernel_rfl) rfl rfl rfl rfl) (by kernel_rfl), ?_⟩
    exact fnl
  intro a2 w2 st2 hbr2 hfr
  have hs2 := hbr2.size
  have hb := up hb hbr2
  have st : St 9 [(2, Fact.cell b2 (Con.raw 3)), (8, Fact.agg (Con.tri 2 1 (decide (n < 0)) (Int.natAbs n) 1))] a2 w2 := st2.to (fcs ⟨st2.at_ 2, fcs ⟨st2.at_ 8, fnl⟩⟩)
  clear st2 hbr2 hfr
  refine sym_store st 28 2 8 b2 (Con.raw 3) (Con.tri 2 1 (decide (n < 0)) (Int.natAbs n) 1) [(2, Fact.cell b2 (Con.tri 2 1 (decide (n < 0)) (Int.natAbs n) 1))] rfl rfl rfl rfl rfl rfl info26 ?_ ?_
  · exact fcs ⟨.inl rfl, fnl⟩
  clear st; intro w3 hB hsz3 st
  have hb := hB _ _ hb (by omega) (by omega)
  clear hB
  refine wpList_nil ?_
  refine then_normal ?_
  refine wp_ret ?_
  exact sym_ret1 rfl st.defers (resAt_cell st 2 b2 28 (Con.tri 2 1 (decide (n < 0)) (Int.natAbs n) 1) rfl row26 info26) hb (fun _ h => Fact.fr_up (Fact.tri_eq (x := ((n : Int) : Rat)) (k := 2) (by exact Fact.tri_up h (by decide) (by decide)) (Rt.int_ng n).symm (Rt.int_tp n).symm (Rt.int_den n).symm) (Nat.le_refl _))
set_option maxRecDepth 100000 in
theorem z_int2 (n : Int) (h : -9223372036854775808 ≤ n ∧ n ≤ 9223372036854775807) : ∀ v0 w, (Fact.eq (.int .i64 n)).holds v0 w → Calls Tryd.prog 10 #[v0] w (Ret (Fact.fr 2 ((n : Int) : Rat)) w) := by
  intro v0 w hv0
  refine sym_calls 10 [(0, Fact.eq (.int .i64 n))] Tryd.func10 rfl rfl (Nat.le_of_ble_eq_true rfl) (fcs ⟨⟨Nat.le_of_ble_eq_true rfl, hv0⟩, fnl⟩) fun a st => ?_
  have hb := Below.refl w.heap.size w
  refine wp_seq ?_
  refine sym_region st [(2, Fact.var' (Con.raw 3))] [2] 1 (by kernel_rfl) (by kernel_rfl) (by kernel_rfl) (Nat.le_of_ble_eq_true rfl) (by kernel_rfl) rfl rfl ?_ ?_
  · refine fcs ⟨obn_new 28 2 _ [.bool false, .slice none 0 0, .slice none 0 0] rfl rfl rfl rfl rfl alloc26, ?_⟩
    exact fnl
  intro a1 w1 st1 hbr1 hfr
  have hs1 := hbr1.size
  have hb := up hb hbr1
  obtain ⟨b2, c2⟩ := (show (Fact.var' (Con.raw 3)).holds _ _ from st1.at_ 2)
  have g2 := hfr.ge (s := 2) rfl c2.1
  have st : St 10 [(0, Fact.eq (.int .i64 n)), (2, Fact.cell b2 (Con.raw 3))] a1 w1 := st1.to (fcs ⟨st1.at_ 0, fcs ⟨c2, fnl⟩⟩)
  clear st1 hbr1 hfr c2
  refine wpList_nil ?_
  refine then_normal ?_
  refine wp_seq ?_
  refine sym_region st [(3, Fact.eq (.int .i64 n)), (4, Fact.eq (.bool (decide (n < 0)))), (5, Fact.eq (.int .i64 n)), (6, Fact.eq (.int .u64 ((Int.natAbs n : Nat) : Int))), (7, Fact.agg (Con.nn 2 (Int.natAbs n))), (8, Fact.agg (Con.nn 1 1)), (9, Fact.agg (Con.tri 2 1 (decide (n < 0)) (Int.natAbs n) 1))] [] 7 (by kernel_rfl) (by kernel_rfl) (by kernel_rfl) (Nat.le_of_ble_eq_true rfl) (by kernel_rfl) rfl rfl ?_ ?_
  · refine fcs ⟨Ob.new_ (ob_copy 0 3 (.inl rfl) rfl (.inl rfl) (by kernel_rfl) rfl) (by kernel_rfl), ?_⟩
    refine fcs ⟨Ob.new_ (ob_ltc 3 4 .i64 2 _ n 0 (decide (n < 0)) rfl rfl rfl (.inl rfl) (by kernel_rfl) rfl rfl) (by kernel_rfl), ?_⟩
    refine fcs ⟨Ob.new_ (ob_copy 0 5 (.inl rfl) rfl (.inl rfl) (by kernel_rfl) rfl) (by kernel_rfl), ?_⟩
    refine fcs ⟨Ob.new_ (ob_call1 25 5 6 _ rfl rfl (.inl rfl) (by kernel_rfl) (by kernel_rfl) (z_size n h)) (by kernel_rfl), ?_⟩
    refine fcs ⟨Ob.new_ (ob_call1 24 6 7 _ rfl rfl (.inl rfl) (by kernel_rfl) (by kernel_rfl) (r_of 2 (Int.natAbs n) (amt_lt h) (of_sz (amt_lt h)))) (by kernel_rfl), ?_⟩
    refine fcs ⟨Ob.new_ (ob_callc 24 _ 8 _ rfl rfl (.inl rfl) (by kernel_rfl) (r_ofc 1 1 (by decide) (by unfold Nm.Sz; decide))) (by kernel_rfl), ?_⟩
    refine fcs ⟨Ob.new_ (ob_buildtri 4 7 8 9 2 1 (Int.natAbs n) 1 (decide (n < 0)) rfl rfl (.inl rfl) (by kernel_rfl) (by kernel_rfl) (by kernel_rfl) rfl rfl rfl rfl) (by kernel_rfl), ?_⟩
    exact fnl
  intro a2 w2 st2 hbr2 hfr
  have hs2 := hbr2.size
  have hb := up hb hbr2
  have st : St 10 [(2, Fact.cell b2 (Con.raw 3)), (9, Fact.agg (Con.tri 2 1 (decide (n < 0)) (Int.natAbs n) 1))] a2 w2 := st2.to (fcs ⟨st2.at_ 2, fcs ⟨st2.at_ 9, fnl⟩⟩)
  clear st2 hbr2 hfr
  refine sym_store st 28 2 9 b2 (Con.raw 3) (Con.tri 2 1 (decide (n < 0)) (Int.natAbs n) 1) [(2, Fact.cell b2 (Con.tri 2 1 (decide (n < 0)) (Int.natAbs n) 1))] rfl rfl rfl rfl rfl rfl info26 ?_ ?_
  · exact fcs ⟨.inl rfl, fnl⟩
  clear st; intro w3 hB hsz3 st
  have hb := hB _ _ hb (by omega) (by omega)
  clear hB
  refine wpList_nil ?_
  refine then_normal ?_
  refine wp_ret ?_
  exact sym_ret1 rfl st.defers (resAt_cell st 2 b2 28 (Con.tri 2 1 (decide (n < 0)) (Int.natAbs n) 1) rfl row26 info26) hb (fun _ h => Fact.fr_up (Fact.tri_eq (x := ((n : Int) : Rat)) (k := 2) (by exact Fact.tri_up h (by decide) (by decide)) (Rt.int_ng n).symm (Rt.int_tp n).symm (Rt.int_den n).symm) (Nat.le_refl _))
set_option maxRecDepth 100000 in
theorem q_ratio_of (n m : Int) (h : -9223372036854775808 ≤ n ∧ n ≤ 9223372036854775807) (h2 : -9223372036854775808 ≤ m ∧ m ≤ 9223372036854775807) (hm : Int.natAbs m ≠ 0) : ∀ v0 v1 w, (Fact.eq (.int .i64 n)).holds v0 w → (Fact.eq (.int .i64 m)).holds v1 w → Calls Tryd.prog 6 #[v0, v1] w (Ret (Fact.two (Fact.fr 2 (Rt.of ((decide (n < 0)) != (decide (m < 0))) (Int.natAbs n) (Int.natAbs m))) (Fact.eq (.int .i64 0))) w) := by
  intro v0 v1 w hv0 hv1
  refine sym_calls 18 [(0, Fact.eq (.int .i64 n)), (1, Fact.eq (.int .i64 m))] Tryd.func6 rfl rfl (Nat.le_of_ble_eq_true rfl) (fcs ⟨⟨Nat.le_of_ble_eq_true rfl, hv0⟩, fcs ⟨⟨Nat.le_of_ble_eq_true rfl, hv1⟩, fnl⟩⟩) fun a st => ?_
  have hb := Below.refl w.heap.size w
  refine wp_seq ?_
  refine sym_region st [(4, Fact.var' (Con.raw 3)), (5, Fact.eq (.int .i64 0))] [4] 2 (by kernel_rfl) (by kernel_rfl) (by kernel_rfl) (Nat.le_of_ble_eq_true rfl) (by kernel_rfl) rfl rfl ?_ ?_
  · refine fcs ⟨obn_new 28 4 _ [.bool false, .slice none 0 0, .slice none 0 0] rfl rfl rfl rfl rfl alloc26, ?_⟩
    refine fcs ⟨Ob.new_ (ob_const (.int .i64 0) 5 (.inr rfl) rfl (.inl rfl) rfl) (by kernel_rfl), ?_⟩
    exact fnl
  intro a1 w1 st1 hbr1 hfr
  have hs1 := hbr1.size
  have hb := up hb hbr1
  obtain ⟨b4, c4⟩ := (show (Fact.var' (Con.raw 3)).holds _ _ from st1.at_ 4)
  have g4 := hfr.ge (s := 4) rfl c4.1
  have st : St 18 [(0, Fact.eq (.int .i64 n)), (1, Fact.eq (.int .i64 m)), (4, Fact.cell b4 (Con.raw 3)), (5, Fact.eq (.int .i64 0))] a1 w1 := st1.to (fcs ⟨st1.at_ 0, fcs ⟨st1.at_ 1, fcs ⟨c4, fcs ⟨st1.at_ 5, fnl⟩⟩⟩⟩)
  clear st1 hbr1 hfr c4
  refine wpList_nil ?_
  refine then_normal ?_
  refine wp_seq ?_
  have st := st.to (ks' := [(0, Fact.eq (.int .i64 n)), (1, Fact.eq (.int .i64 m)), (4, Fact.cell b4 (Con.raw 3))]) (fcs ⟨st.at_ 0, fcs ⟨st.at_ 1, fcs ⟨st.at_ 4, fnl⟩⟩⟩)
  refine sym_region st [(6, Fact.eq (.int .i64 n)), (7, Fact.eq (.bool (decide (n < 0)))), (8, Fact.eq (.int .i64 m)), (9, Fact.eq (.bool (decide (m < 0)))), (10, Fact.eq (.bool ((decide (n < 0)) != (decide (m < 0))))), (11, Fact.eq (.int .i64 n)), (12, Fact.agg (Con.nn 2 (Int.natAbs n))), (13, Fact.eq (.int .i64 m)), (14, Fact.agg (Con.nn 2 (Int.natAbs m))), (15, Fact.two (Fact.agg (Con.fr 2 (Rt.of ((decide (n < 0)) != (decide (m < 0))) (Int.natAbs n) (Int.natAbs m)))) (Fact.eq (.int .i64 0))), (16, Fact.agg (Con.fr 2 (Rt.of ((decide (n < 0)) != (decide (m < 0))) (Int.natAbs n) (Int.natAbs m)))), (17, Fact.eq (.int .i64 0))] [] 12 (by kernel_rfl) (by kernel_rfl) (by kernel_rfl) (Nat.le_of_ble_eq_true rfl) (by kernel_rfl) rfl rfl ?_ ?_
  · refine fcs ⟨Ob.new_ (ob_copy 0 6 (.inl rfl) rfl (.inl rfl) (by kernel_rfl) rfl) (by kernel_rfl), ?_⟩
    refine fcs ⟨Ob.new_ (ob_ltc 6 7 .i64 2 _ n 0 (decide (n < 0)) rfl rfl rfl (.inl rfl) (by kernel_rfl) rfl rfl) (by kernel_rfl), ?_⟩
    refine fcs ⟨Ob.new_ (ob_copy 1 8 (.inl rfl) rfl (.inl rfl) (by kernel_rfl) rfl) (by kernel_rfl), ?_⟩
    refine fcs ⟨Ob.new_ (ob_ltc 8 9 .i64 2 _ m 0 (decide (m < 0)) rfl rfl rfl (.inl rfl) (by kernel_rfl) rfl rfl) (by kernel_rfl), ?_⟩
    refine fcs ⟨Ob.new_ (ob_neb 7 9 10 (decide (n < 0)) (decide (m < 0)) ((decide (n < 0)) != (decide (m < 0))) rfl rfl rfl (.inl rfl) (by kernel_rfl) (by kernel_rfl) rfl rfl rfl) (by kernel_rfl), ?_⟩
    refine fcs ⟨Ob.new_ (ob_copy 0 11 (.inl rfl) rfl (.inl rfl) (by kernel_rfl) rfl) (by kernel_rfl), ?_⟩
    refine fcs ⟨Ob.new_ (ob_call1 23 11 12 _ rfl rfl (.inl rfl) (by kernel_rfl) (by kernel_rfl) (q_magnitude n h)) (by kernel_rfl), ?_⟩
    refine fcs ⟨Ob.new_ (ob_copy 1 13 (.inl rfl) rfl (.inl rfl) (by kernel_rfl) rfl) (by kernel_rfl), ?_⟩
    refine fcs ⟨Ob.new_ (ob_call1 23 13 14 _ rfl rfl (.inl rfl) (by kernel_rfl) (by kernel_rfl) (q_magnitude m h2)) (by kernel_rfl), ?_⟩
    refine fcs ⟨Ob.new_ (ob_call3 13 10 12 14 15 _ rfl rfl (.inl rfl) (by kernel_rfl) (by kernel_rfl) (by kernel_rfl) (by kernel_rfl) (q_make 2 2 2 ((decide (n < 0)) != (decide (m < 0))) (Int.natAbs n) (Int.natAbs m) hm (by omega) (by omega) (by omega))) (by kernel_rfl), ?_⟩
    refine fcs ⟨Ob.new_ (ob_fst 15 16 (Fact.agg (Con.fr 2 (Rt.of ((decide (n < 0)) != (decide (m < 0))) (Int.natAbs n) (Int.natAbs m)))) (Fact.eq (.int .i64 0)) rfl rfl (.inl rfl) (by kernel_rfl) rfl rfl) (by kernel_rfl), ?_⟩
    refine fcs ⟨Ob.new_ (ob_snd 15 17 (Fact.agg (Con.fr 2 (Rt.of ((decide (n < 0)) != (decide (m < 0))) (Int.natAbs n) (Int.natAbs m)))) (Fact.eq (.int .i64 0)) rfl rfl (.inl rfl) (by kernel_rfl) rfl rfl) (by kernel_rfl), ?_⟩
    exact fnl
  intro a2 w2 st2 hbr2 hfr
  have hs2 := hbr2.size
  have hb := up hb hbr2
  have st : St 18 [(4, Fact.cell b4 (Con.raw 3)), (16, Fact.agg (Con.fr 2 (Rt.of ((decide (n < 0)) != (decide (m < 0))) (Int.natAbs n) (Int.natAbs m)))), (17, Fact.eq (.int .i64 0))] a2 w2 := st2.to (fcs ⟨st2.at_ 4, fcs ⟨st2.at_ 16, fcs ⟨st2.at_ 17, fnl⟩⟩⟩)
  clear st2 hbr2 hfr
  refine sym_store st 28 4 16 b4 (Con.raw 3) (Con.fr 2 (Rt.of ((decide (n < 0)) != (decide (m < 0))) (Int.natAbs n) (Int.natAbs m))) [(4, Fact.cell b4 (Con.fr 2 (Rt.of ((decide (n < 0)) != (decide (m < 0))) (Int.natAbs n) (Int.natAbs m)))), (17, Fact.eq (.int .i64 0))] rfl rfl rfl rfl rfl rfl info26 ?_ ?_
  · exact fcs ⟨.inl rfl, fcs ⟨.inr ⟨rfl, safe_eq _ _⟩, fnl⟩⟩
  clear st; intro w3 hB hsz3 st
  have hb := hB _ _ hb (by omega) (by omega)
  clear hB
  refine sym_op st 5 (Fact.eq (.int .i64 0)) rfl (Nat.le_of_ble_eq_true rfl) rfl rfl (by kernel_rfl) (ob_copy 17 5 (.inr rfl) rfl (.inl rfl) (by kernel_rfl) rfl) ?_
  clear st; intro a4 w4 hbr st; have hs4 := hbr.size; have hb := up hb hbr; clear hbr
  refine wpList_nil ?_
  refine then_normal ?_
  refine wp_ret ?_
  exact sym_ret2 rfl st.defers (resAt_cell st 4 b4 28 (Con.fr 2 (Rt.of ((decide (n < 0)) != (decide (m < 0))) (Int.natAbs n) (Int.natAbs m))) rfl row26 info26) (resAt_tmp st 5) hb (fun v u h1 h2 => ⟨v, u, rfl, h1, h2⟩)
set_option maxRecDepth 100000 in
theorem q_ratio0 (n m : Int) (h : -9223372036854775808 ≤ n ∧ n ≤ 9223372036854775807) (h2 : -9223372036854775808 ≤ m ∧ m ≤ 9223372036854775807) (hm : Int.natAbs m = 0) : ∀ v0 v1 w, (Fact.eq (.int .i64 n)).holds v0 w → (Fact.eq (.int .i64 m)).holds v1 w → Calls Tryd.prog 6 #[v0, v1] w (Ret (Fact.two (Fact.agg (Con.tri 1 1 false 0 0)) (Fact.eq (.int .i64 8))) w) := by
  intro v0 v1 w hv0 hv1
  refine sym_calls 18 [(0, Fact.eq (.int .i64 n)), (1, Fact.eq (.int .i64 m))] Tryd.func6 rfl rfl (Nat.le_of_ble_eq_true rfl) (fcs ⟨⟨Nat.le_of_ble_eq_true rfl, hv0⟩, fcs ⟨⟨Nat.le_of_ble_eq_true rfl, hv1⟩, fnl⟩⟩) fun a st => ?_
  have hb := Below.refl w.heap.size w
  refine wp_seq ?_
  refine sym_region st [(4, Fact.var' (Con.raw 3)), (5, Fact.eq (.int .i64 0))] [4] 2 (by kernel_rfl) (by kernel_rfl) (by kernel_rfl) (Nat.le_of_ble_eq_true rfl) (by kernel_rfl) rfl rfl ?_ ?_
  · refine fcs ⟨obn_new 28 4 _ [.bool false, .slice none 0 0, .slice none 0 0] rfl rfl rfl rfl rfl alloc26, ?_⟩
    refine fcs ⟨Ob.new_ (ob_const (.int .i64 0) 5 (.inr rfl) rfl (.inl rfl) rfl) (by kernel_rfl), ?_⟩
    exact fnl
  intro a1 w1 st1 hbr1 hfr
  have hs1 := hbr1.size
  have hb := up hb hbr1
  obtain ⟨b4, c4⟩ := (show (Fact.var' (Con.raw 3)).holds _ _ from st1.at_ 4)
  have g4 := hfr.ge (s := 4) rfl c4.1
  have st : St 18 [(0, Fact.eq (.int .i64 n)), (1, Fact.eq (.int .i64 m)), (4, Fact.cell b4 (Con.raw 3)), (5, Fact.eq (.int .i64 0))] a1 w1 := st1.to (fcs ⟨st1.at_ 0, fcs ⟨st1.at_ 1, fcs ⟨c4, fcs ⟨st1.at_ 5, fnl⟩⟩⟩⟩)
  clear st1 hbr1 hfr c4
  refine wpList_nil ?_
  refine then_normal ?_
  refine wp_seq ?_
  have st := st.to (ks' := [(0, Fact.eq (.int .i64 n)), (1, Fact.eq (.int .i64 m)), (4, Fact.cell b4 (Con.raw 3))]) (fcs ⟨st.at_ 0, fcs ⟨st.at_ 1, fcs ⟨st.at_ 4, fnl⟩⟩⟩)
  refine sym_region st [(6, Fact.eq (.int .i64 n)), (7, Fact.eq (.bool (decide (n < 0)))), (8, Fact.eq (.int .i64 m)), (9, Fact.eq (.bool (decide (m < 0)))), (10, Fact.eq (.bool ((decide (n < 0)) != (decide (m < 0))))), (11, Fact.eq (.int .i64 n)), (12, Fact.agg (Con.nn 2 (Int.natAbs n))), (13, Fact.eq (.int .i64 m)), (14, Fact.agg (Con.nn 2 (Int.natAbs m))), (15, Fact.two (Fact.agg (Con.tri 1 1 false 0 0)) (Fact.eq (.int .i64 8))), (16, Fact.agg (Con.tri 1 1 false 0 0)), (17, Fact.eq (.int .i64 8))] [] 12 (by kernel_rfl) (by kernel_rfl) (by kernel_rfl) (Nat.le_of_ble_eq_true rfl) (by kernel_rfl) rfl rfl ?_ ?_
  · refine fcs ⟨Ob.new_ (ob_copy 0 6 (.inl rfl) rfl (.inl rfl) (by kernel_rfl) rfl) (by kernel_rfl), ?_⟩
    refine fcs ⟨Ob.new_ (ob_ltc 6 7 .i64 2 _ n 0 (decide (n < 0)) rfl rfl rfl (.inl rfl) (by kernel_rfl) rfl rfl) (by kernel_rfl), ?_⟩
    refine fcs ⟨Ob.new_ (ob_copy 1 8 (.inl rfl) rfl (.inl rfl) (by kernel_rfl) rfl) (by kernel_rfl), ?_⟩
    refine fcs ⟨Ob.new_ (ob_ltc 8 9 .i64 2 _ m 0 (decide (m < 0)) rfl rfl rfl (.inl rfl) (by kernel_rfl) rfl rfl) (by kernel_rfl), ?_⟩
    refine fcs ⟨Ob.new_ (ob_neb 7 9 10 (decide (n < 0)) (decide (m < 0)) ((decide (n < 0)) != (decide (m < 0))) rfl rfl rfl (.inl rfl) (by kernel_rfl) (by kernel_rfl) rfl rfl rfl) (by kernel_rfl), ?_⟩
    refine fcs ⟨Ob.new_ (ob_copy 0 11 (.inl rfl) rfl (.inl rfl) (by kernel_rfl) rfl) (by kernel_rfl), ?_⟩
    refine fcs ⟨Ob.new_ (ob_call1 23 11 12 _ rfl rfl (.inl rfl) (by kernel_rfl) (by kernel_rfl) (q_magnitude n h)) (by kernel_rfl), ?_⟩
    refine fcs ⟨Ob.new_ (ob_copy 1 13 (.inl rfl) rfl (.inl rfl) (by kernel_rfl) rfl) (by kernel_rfl), ?_⟩
    refine fcs ⟨Ob.new_ (ob_call1 23 13 14 _ rfl rfl (.inl rfl) (by kernel_rfl) (by kernel_rfl) (q_magnitude m h2)) (by kernel_rfl), ?_⟩
    refine fcs ⟨Ob.new_ (ob_call3 13 10 12 14 15 _ rfl rfl (.inl rfl) (by kernel_rfl) (by kernel_rfl) (by kernel_rfl) (by kernel_rfl) (q_make0 2 2 ((decide (n < 0)) != (decide (m < 0))) (Int.natAbs n) (Int.natAbs m) hm)) (by kernel_rfl), ?_⟩
    refine fcs ⟨Ob.new_ (ob_fst 15 16 (Fact.agg (Con.tri 1 1 false 0 0)) (Fact.eq (.int .i64 8)) rfl rfl (.inl rfl) (by kernel_rfl) rfl rfl) (by kernel_rfl), ?_⟩
    refine fcs ⟨Ob.new_ (ob_snd 15 17 (Fact.agg (Con.tri 1 1 false 0 0)) (Fact.eq (.int .i64 8)) rfl rfl (.inl rfl) (by kernel_rfl) rfl rfl) (by kernel_rfl), ?_⟩
    exact fnl
  intro a2 w2 st2 hbr2 hfr
  have hs2 := hbr2.size
  have hb := up hb hbr2
  have st : St 18 [(4, Fact.cell b4 (Con.raw 3)), (16, Fact.agg (Con.tri 1 1 false 0 0)), (17, Fact.eq (.int .i64 8))] a2 w2 := st2.to (fcs ⟨st2.at_ 4, fcs ⟨st2.at_ 16, fcs ⟨st2.at_ 17, fnl⟩⟩⟩)
  clear st2 hbr2 hfr
  refine sym_store st 28 4 16 b4 (Con.raw 3) (Con.tri 1 1 false 0 0) [(4, Fact.cell b4 (Con.tri 1 1 false 0 0)), (17, Fact.eq (.int .i64 8))] rfl rfl rfl rfl rfl rfl info26 ?_ ?_
  · exact fcs ⟨.inl rfl, fcs ⟨.inr ⟨rfl, safe_eq _ _⟩, fnl⟩⟩
  clear st; intro w3 hB hsz3 st
  have hb := hB _ _ hb (by omega) (by omega)
  clear hB
  refine sym_op st 5 (Fact.eq (.int .i64 8)) rfl (Nat.le_of_ble_eq_true rfl) rfl rfl (by kernel_rfl) (ob_copy 17 5 (.inr rfl) rfl (.inl rfl) (by kernel_rfl) rfl) ?_
  clear st; intro a4 w4 hbr st; have hs4 := hbr.size; have hb := up hb hbr; clear hbr
  refine wpList_nil ?_
  refine then_normal ?_
  refine wp_ret ?_
  exact sym_ret2 rfl st.defers (resAt_cell st 4 b4 28 (Con.tri 1 1 false 0 0) rfl row26 info26) (resAt_tmp st 5) hb (fun v u h1 h2 => ⟨v, u, rfl, h1, h2⟩)
end Go.Proofs.YtjfehdkfogdpgaaDoor
namespace Go.Proofs.YtjfehdkfogdpgaaDoor
open Go.RowKit
def Con.any_ (zs : List Nat) : Con := ⟨1, fun w cs => ∃ A c, cs = [.slice A zs.length c] ∧ Rd w A zs ∧ zs.length ≤ c ∧ Nm.Dig zs,
  fun _ _ ⟨_, _, h, _⟩ => by rw [h]; rfl, fun _ _ ⟨_, _, e, _⟩ v hv => by rw [e] at hv; rw [List.mem_singleton.1 hv]; exact ⟨rfl, rfl⟩, fun _ _ _ ⟨A, c, h, hn, hz⟩ hb => ⟨A, c, h, hn.below hb, hz⟩, fun _ _ _ ⟨A, c, h, hn, hz⟩ hs => ⟨A, c, h, hn.soft hs, hz⟩⟩
def Con.dg (zs : List Nat) : Con := ⟨1, fun w cs => ∃ A c, cs = [.slice A zs.length c] ∧ Num w A zs.length c zs,
  fun _ _ ⟨_, _, h, _⟩ => by rw [h]; rfl, fun _ _ ⟨_, _, e, _⟩ v hv => by rw [e] at hv; rw [List.mem_singleton.1 hv]; exact ⟨rfl, rfl⟩, fun _ _ _ ⟨A, c, h, hn⟩ hb => ⟨A, c, h, hn.below hb⟩, fun _ _ _ ⟨A, c, h, hn⟩ hs => ⟨A, c, h, hn.soft hs⟩⟩
def Con.pre (s : Bool) (xs ys : List Nat) : Con := (Con.bool s).app ((Con.any_ xs).app (Con.any_ ys))
theorem d_valid (zs : List Nat) (b : Bool) (hb : decide (Nm.tlen zs = zs.length) = b) : ∀ v w, (Fact.agg (Con.dg zs)).holds v w → Calls Tryd.prog 11 #[v] w (Ret (Fact.eq (.bool b)) w) := by
  rintro v w ⟨cs, rfl, A, c, rfl, hn⟩
  exact (refValid_any A c _ w hn.rd (by have := hn.small; omega)).mono fun _ _ ⟨he, hb'⟩ => ⟨_, he, hb', by rw [hb]; rfl⟩
def Fact.rowd (zs : List Nat) : Fact := ⟨fun v w => ∃ A c, v = .slice A zs.length c ∧ Rd w A zs, fun _ _ _ ⟨A, c, h, hn⟩ hb => ⟨A, c, h, hn.below hb⟩⟩
theorem len_rowd {zs : List Nat} : ∀ v w, (Fact.rowd zs).holds v w → ∃ A c, v = .slice A zs.length c := fun _ _ ⟨A, c, h, _⟩ => ⟨A, c, h⟩
section
variable {ops : Array Oper} {Q : Exit → Act → World → Prop} {F : Nat → Fact} {base : List Nat} {N : Nat} {o : Oper}
theorem ob_loadrowd (t d : Nat) (zs : List Nat) (C : Con) (hC : ∀ w cs, C.is w cs → ∃ A c, cs = [.slice A zs.length c] ∧ Rd w A zs) (ho : o.op = .load 22 (.tmp t)) (hd : o.dst = some d) (hg : GuardOk ops F base N o) (hk : known ops base o t = true) (hv : Points (F t) C) (hF : F d = Fact.rowd zs) : Ob ops Q F base N o :=
  ob_val hg fun a w hf => by
    obtain ⟨b, off, h2, _, cs, hc, his⟩ := hv _ _ (hf t hk)
    obtain ⟨A, c, rfl, hn⟩ := hC w cs his
    have h3 : a.eval (.tmp t) = .pointer (some ⟨b, off, none⟩) := h2
    have h4 := load22 w b off A _ c (by simpa using hc 0 _ rfl)
    refine ⟨.slice A zs.length c, w, by simp [execOp, ho, h3, h4], Below.refl _ _, fun s hs => ?_⟩
    rw [hd] at hs; injection hs with hs; subst hs; rw [hF]
    exact ⟨A, c, rfl, hn⟩
end
theorem any_row {zs : List Nat} : ∀ w cs, (Con.any_ zs).is w cs → ∃ A c, cs = [.slice A zs.length c] ∧ Rd w A zs := fun _ _ ⟨A, c, h, hn, _⟩ => ⟨A, c, h, hn⟩
theorem dg_row {zs : List Nat} : ∀ w cs, (Con.dg zs).is w cs → ∃ A c, cs = [.slice A zs.length c] ∧ Rd w A zs := fun _ _ ⟨A, c, h, hn⟩ => ⟨A, c, h, hn.rd⟩
end Go.Proofs.YtjfehdkfogdpgaaDoor
namespace Go.Proofs.YtjfehdkfogdpgaaDoor
open Go.RowKit
def vldT (s : Bool) (p q : Nat) : Bool := !decide (q = 0) && (!(s && decide (p = 0)) && decide (Nat.gcd p q = 1))
set_option maxRecDepth 100000 in
theorem q_valid_a (k l : Nat) (s : Bool) (p q : Nat) (hq : q = 0) : ∀ v0 w, (Fact.agg (Con.tri k l s p q)).holds v0 w → Calls Tryd.prog 16 #[v0] w (Ret (Fact.eq (.bool false)) w) := by
  intro v0 w hv0
  refine sym_calls 31 [(0, Fact.agg (Con.tri k l s p q))] Tryd.func16 rfl rfl (Nat.le_of_ble_eq_true rfl) (fcs ⟨⟨Nat.le_of_ble_eq_true rfl, hv0⟩, fnl⟩) fun a st => ?_
  have hb := Below.refl w.heap.size w
  refine wp_seq ?_
  refine sym_region st [(1, Fact.var' (Con.tri k l s p q)), (2, Fact.eq (.bool false))] [1] 2 (by kernel_rfl) (by kernel_rfl) (by kernel_rfl) (Nat.le_of_ble_eq_true rfl) (by kernel_rfl) rfl rfl ?_ ?_
  · refine fcs ⟨obn_box 28 0 1 _ (Con.tri k l s p q) rfl rfl rfl (by kernel_rfl) rfl rfl, ?_⟩
    refine fcs ⟨Ob.new_ (ob_const (.bool false) 2 (.inr rfl) rfl (.inl rfl) rfl) (by kernel_rfl), ?_⟩
    exact fnl
  intro a1 w1 st1 hbr1 hfr
  have hs1 := hbr1.size
  have hb := up hb hbr1
  obtain ⟨b1, c1⟩ := (show (Fact.var' (Con.tri k l s p q)).holds _ _ from st1.at_ 1)
  have g1 := hfr.ge (s := 1) rfl c1.1
  have st : St 31 [(1, Fact.cell b1 (Con.tri k l s p q)), (2, Fact.eq (.bool false))] a1 w1 := st1.to (fcs ⟨c1, fcs ⟨st1.at_ 2, fnl⟩⟩)
  clear st1 hbr1 hfr c1
  refine wpList_nil ?_
  refine then_normal ?_
  refine wp_seq ?_
  refine wp_seq ?_
  refine sym_region st [(3, Fact.ptr (Con.nn k p)), (4, Fact.agg (Con.nn k p)), (5, Fact.eq (.bool true)), (6, Fact.eq (.bool false)), (7, Fact.eq (.bool false)), (8, Fact.ptr (Con.nn l q)), (9, Fact.agg (Con.nn l q)), (10, Fact.eq (.bool true)), (11, Fact.eq (.bool false)), (12, Fact.eq (.bool false)), (13, Fact.eq (.bool false)), (14, Fact.ptr (Con.nn l q)), (15, Fact.agg (Con.nn l q)), (16, Fact.eq (.bool true)), (17, Fact.eq (.bool true))] [] 15 (by kernel_rfl) (by kernel_rfl) (by kernel_rfl) (Nat.le_of_ble_eq_true rfl) (by kernel_rfl) rfl rfl ?_ ?_
  · refine fcs ⟨Ob.new_ (ob_addr 28 1 1 3 1 (Con.tri k l s p q) (Con.nn k p) rfl rfl (.inl rfl) (by kernel_rfl) points_cell rfl (Con.tri_1 k l s p q) field26_1) (by kernel_rfl), ?_⟩
    refine fcs ⟨Ob.new_ (ob_read 24 3 4 (Con.nn k p) rfl rfl (.inl rfl) (by kernel_rfl) points_ptr rfl row24 info24) (by kernel_rfl), ?_⟩
    refine fcs ⟨Ob.new_ (ob_call1 37 4 5 _ rfl rfl (.inl rfl) (by kernel_rfl) (by kernel_rfl) (n_valid k p)) (by kernel_rfl), ?_⟩
    refine fcs ⟨Ob.new_ (ob_not 5 6 true false rfl rfl rfl (.inl rfl) (by kernel_rfl) rfl rfl) (by kernel_rfl), ?_⟩
    refine fcs ⟨Ob.new_ (ob_copy 6 7 (.inl rfl) rfl (.inl rfl) (by kernel_rfl) rfl) (by kernel_rfl), ?_⟩
    refine fcs ⟨Ob.new_ (ob_addr 28 2 1 8 2 (Con.tri k l s p q) (Con.nn l q) rfl rfl (.inr ⟨_, _, _, rfl, rfl, by kernel_rfl, by decide, rfl⟩) (by kernel_rfl) points_cell rfl (Con.tri_2 k l s p q) field26_2) (by kernel_rfl), ?_⟩
    refine fcs ⟨Ob.new_ (ob_read 24 8 9 (Con.nn l q) rfl rfl (.inr ⟨_, _, _, rfl, rfl, by kernel_rfl, by decide, rfl⟩) (by kernel_rfl) points_ptr rfl row24 info24) (by kernel_rfl), ?_⟩
    refine fcs ⟨Ob.new_ (ob_call1 37 9 10 _ rfl rfl (.inr ⟨_, _, _, rfl, rfl, by kernel_rfl, by decide, rfl⟩) (by kernel_rfl) (by kernel_rfl) (n_valid l q)) (by kernel_rfl), ?_⟩
    refine fcs ⟨Ob.new_ (ob_not 10 11 true false rfl rfl rfl (.inr ⟨_, _, _, rfl, rfl, by kernel_rfl, by decide, rfl⟩) (by kernel_rfl) rfl rfl) (by kernel_rfl), ?_⟩
    refine fcs ⟨Ob.new_ (ob_pick_else 7 11 12 (.bool true) rfl rfl (.inl rfl) (by kernel_rfl) (by kernel_rfl) rfl rfl) (by kernel_rfl), ?_⟩
    refine fcs ⟨Ob.new_ (ob_copy 12 13 (.inl rfl) rfl (.inl rfl) (by kernel_rfl) rfl) (by kernel_rfl), ?_⟩
    refine fcs ⟨Ob.new_ (ob_addr 28 2 1 14 2 (Con.tri k l s p q) (Con.nn l q) rfl rfl (.inr ⟨_, _, _, rfl, rfl, by kernel_rfl, by decide, rfl⟩) (by kernel_rfl) points_cell rfl (Con.tri_2 k l s p q) field26_2) (by kernel_rfl), ?_⟩
    refine fcs ⟨Ob.new_ (ob_read 24 14 15 (Con.nn l q) rfl rfl (.inr ⟨_, _, _, rfl, rfl, by kernel_rfl, by decide, rfl⟩) (by kernel_rfl) points_ptr rfl row24 info24) (by kernel_rfl), ?_⟩
    refine fcs ⟨Ob.new_ (ob_call1 32 15 16 _ rfl rfl (.inr ⟨_, _, _, rfl, rfl, by kernel_rfl, by decide, rfl⟩) (by kernel_rfl) (by kernel_rfl) (q_isZero l q true (decide_eq_true hq))) (by kernel_rfl), ?_⟩
    refine fcs ⟨Ob.new_ (ob_pick_else 13 16 17 (.bool true) rfl rfl (.inl rfl) (by kernel_rfl) (by kernel_rfl) rfl rfl) (by kernel_rfl), ?_⟩
    exact fnl
  intro a2 w2 st2 hbr2 hfr
  have hs2 := hbr2.size
  have hb := up hb hbr2
  have st : St 31 [(1, Fact.cell b1 (Con.tri k l s p q)), (2, Fact.eq (.bool false)), (17, Fact.eq (.bool true))] a2 w2 := st2.to (fcs ⟨st2.at_ 1, fcs ⟨st2.at_ 2, fcs ⟨st2.at_ 17, fnl⟩⟩⟩)
  clear st2 hbr2 hfr
  refine wpList_nil ?_
  refine then_normal ?_
  refine wp_cond_true (st.at_ 17) ?_
  refine wp_seq ?_
  have st := st.to (ks' := [(1, Fact.cell b1 (Con.tri k l s p q)), (17, Fact.eq (.bool true))]) (fcs ⟨st.at_ 1, fcs ⟨st.at_ 17, fnl⟩⟩)
  refine sym_region st [(2, Fact.eq (.bool false))] [] 1 (by kernel_rfl) (by kernel_rfl) (by kernel_rfl) (Nat.le_of_ble_eq_true rfl) (by kernel_rfl) rfl rfl ?_ ?_
  · refine fcs ⟨Ob.new_ (ob_const (.bool false) 2 (.inr rfl) rfl (.inl rfl) rfl) (by kernel_rfl), ?_⟩
    exact fnl
  intro a3 w3 st3 hbr3 hfr
  have hs3 := hbr3.size
  have hb := up hb hbr3
  have st : St 31 [(1, Fact.cell b1 (Con.tri k l s p q)), (2, Fact.eq (.bool false))] a3 w3 := st3.to (fcs ⟨st3.at_ 1, fcs ⟨st3.at_ 2, fnl⟩⟩)
  clear st3 hbr3 hfr
  refine wpList_nil ?_
  refine then_normal ?_
  refine wp_ret ?_
  exact sym_ret1 rfl st.defers (resAt_tmp st 2) hb (fun _ h => h)
set_option maxRecDepth 100000 in
theorem q_valid_b (k l : Nat) (p q : Nat) (hq : q ≠ 0) (hp : p = 0) : ∀ v0 w, (Fact.agg (Con.tri k l true p q)).holds v0 w → Calls Tryd.prog 16 #[v0] w (Ret (Fact.eq (.bool false)) w) := by
  intro v0 w hv0
  refine sym_calls 31 [(0, Fact.agg (Con.tri k l true p q))] Tryd.func16 rfl rfl (Nat.le_of_ble_eq_true rfl) (fcs ⟨⟨Nat.le_of_ble_eq_true rfl, hv0⟩, fnl⟩) fun a st => ?_
  have hb := Below.refl w.heap.size w
  refine wp_seq ?_
  refine sym_region st [(1, Fact.var' (Con.tri k l true p q)), (2, Fact.eq (.bool false))] [1] 2 (by kernel_rfl) (by kernel_rfl) (by kernel_rfl) (Nat.le_of_ble_eq_true rfl) (by kernel_rfl) rfl rfl ?_ ?_
  · refine fcs ⟨obn_box 28 0 1 _ (Con.tri k l true p q) rfl rfl rfl (by kernel_rfl) rfl rfl, ?_⟩
    refine fcs ⟨Ob.new_ (ob_const (.bool false) 2 (.inr rfl) rfl (.inl rfl) rfl) (by kernel_rfl), ?_⟩
    exact fnl
  intro a1 w1 st1 hbr1 hfr
  have hs1 := hbr1.size
  have hb := up hb hbr1
  obtain ⟨b1, c1⟩ := (show (Fact.var' (Con.tri k l true p q)).holds _ _ from st1.at_ 1)
  have g1 := hfr.ge (s := 1) rfl c1.1
  have st : St 31 [(1, Fact.cell b1 (Con.tri k l true p q)), (2, Fact.eq (.bool false))] a1 w1 := st1.to (fcs ⟨c1, fcs ⟨st1.at_ 2, fnl⟩⟩)
  clear st1 hbr1 hfr c1
  refine wpList_nil ?_
  refine then_normal ?_
  refine wp_seq ?_
  refine wp_seq ?_
  refine sym_region st [(3, Fact.ptr (Con.nn k p)), (4, Fact.agg (Con.nn k p)), (5, Fact.eq (.bool true)), (6, Fact.eq (.bool false)), (7, Fact.eq (.bool false)), (8, Fact.ptr (Con.nn l q)), (9, Fact.agg (Con.nn l q)), (10, Fact.eq (.bool true)), (11, Fact.eq (.bool false)), (12, Fact.eq (.bool false)), (13, Fact.eq (.bool false)), (14, Fact.ptr (Con.nn l q)), (15, Fact.agg (Con.nn l q)), (16, Fact.eq (.bool false)), (17, Fact.eq (.bool false))] [] 15 (by kernel_rfl) (by kernel_rfl) (by kernel_rfl) (Nat.le_of_ble_eq_true rfl) (by kernel_rfl) rfl rfl ?_ ?_
  · refine fcs ⟨Ob.new_ (ob_addr 28 1 1 3 1 (Con.tri k l true p q) (Con.nn k p) rfl rfl (.inl rfl) (by kernel_rfl) points_cell rfl (Con.tri_1 k l true p q) field26_1) (by kernel_rfl), ?_⟩
    refine fcs ⟨Ob.new_ (ob_read 24 3 4 (Con.nn k p) rfl rfl (.inl rfl) (by kernel_rfl) points_ptr rfl row24 info24) (by kernel_rfl), ?_⟩
    refine fcs ⟨Ob.new_ (ob_call1 37 4 5 _ rfl rfl (.inl rfl) (by kernel_rfl) (by kernel_rfl) (n_valid k p)) (by kernel_rfl), ?_⟩
    refine fcs ⟨Ob.new_ (ob_not 5 6 true false rfl rfl rfl (.inl rfl) (by kernel_rfl) rfl rfl) (by kernel_rfl), ?_⟩
    refine fcs ⟨Ob.new_ (ob_copy 6 7 (.inl rfl) rfl (.inl rfl) (by kernel_rfl) rfl) (by kernel_rfl), ?_⟩
    refine fcs ⟨Ob.new_ (ob_addr 28 2 1 8 2 (Con.tri k l true p q) (Con.nn l q) rfl rfl (.inr ⟨_, _, _, rfl, rfl, by kernel_rfl, by decide, rfl⟩) (by kernel_rfl) points_cell rfl (Con.tri_2 k l true p q) field26_2) (by kernel_rfl), ?_⟩
    refine fcs ⟨Ob.new_ (ob_read 24 8 9 (Con.nn l q) rfl rfl (.inr ⟨_, _, _, rfl, rfl, by kernel_rfl, by decide, rfl⟩) (by kernel_rfl) points_ptr rfl row24 info24) (by kernel_rfl), ?_⟩
    refine fcs ⟨Ob.new_ (ob_call1 37 9 10 _ rfl rfl (.inr ⟨_, _, _, rfl, rfl, by kernel_rfl, by decide, rfl⟩) (by kernel_rfl) (by kernel_rfl) (n_valid l q)) (by kernel_rfl), ?_⟩
    refine fcs ⟨Ob.new_ (ob_not 10 11 true false rfl rfl rfl (.inr ⟨_, _, _, rfl, rfl, by kernel_rfl, by decide, rfl⟩) (by kernel_rfl) rfl rfl) (by kernel_rfl), ?_⟩
    refine fcs ⟨Ob.new_ (ob_pick_else 7 11 12 (.bool true) rfl rfl (.inl rfl) (by kernel_rfl) (by kernel_rfl) rfl rfl) (by kernel_rfl), ?_⟩
    refine fcs ⟨Ob.new_ (ob_copy 12 13 (.inl rfl) rfl (.inl rfl) (by kernel_rfl) rfl) (by kernel_rfl), ?_⟩
    refine fcs ⟨Ob.new_ (ob_addr 28 2 1 14 2 (Con.tri k l true p q) (Con.nn l q) rfl rfl (.inr ⟨_, _, _, rfl, rfl, by kernel_rfl, by decide, rfl⟩) (by kernel_rfl) points_cell rfl (Con.tri_2 k l true p q) field26_2) (by kernel_rfl), ?_⟩
    refine fcs ⟨Ob.new_ (ob_read 24 14 15 (Con.nn l q) rfl rfl (.inr ⟨_, _, _, rfl, rfl, by kernel_rfl, by decide, rfl⟩) (by kernel_rfl) points_ptr rfl row24 info24) (by kernel_rfl), ?_⟩
    refine fcs ⟨Ob.new_ (ob_call1 32 15 16 _ rfl rfl (.inr ⟨_, _, _, rfl, rfl, by kernel_rfl, by decide, rfl⟩) (by kernel_rfl) (by kernel_rfl) (q_isZero l q false (decide_eq_false hq))) (by kernel_rfl), ?_⟩
    refine fcs ⟨Ob.new_ (ob_pick_else 13 16 17 (.bool true) rfl rfl (.inl rfl) (by kernel_rfl) (by kernel_rfl) rfl rfl) (by kernel_rfl), ?_⟩
    exact fnl
  intro a2 w2 st2 hbr2 hfr
  have hs2 := hbr2.size
  have hb := up hb hbr2
  have st : St 31 [(1, Fact.cell b1 (Con.tri k l true p q)), (2, Fact.eq (.bool false)), (17, Fact.eq (.bool false))] a2 w2 := st2.to (fcs ⟨st2.at_ 1, fcs ⟨st2.at_ 2, fcs ⟨st2.at_ 17, fnl⟩⟩⟩)
  clear st2 hbr2 hfr
  refine wpList_nil ?_
  refine then_normal ?_
  refine wp_cond_false (st.at_ 17) ?_
  refine wp_skip ?_
  refine then_normal ?_
  refine wp_seq ?_
  refine wp_seq ?_
  refine sym_region st [(18, Fact.ptr (Con.bool true)), (19, Fact.eq (.bool true)), (20, Fact.eq (.bool true)), (21, Fact.ptr (Con.nn k p)), (22, Fact.agg (Con.nn k p)), (23, Fact.eq (.bool true)), (24, Fact.eq (.bool true))] [] 7 (by kernel_rfl) (by kernel_rfl) (by kernel_rfl) (Nat.le_of_ble_eq_true rfl) (by kernel_rfl) rfl rfl ?_ ?_
  · refine fcs ⟨Ob.new_ (ob_addr 28 0 1 18 0 (Con.tri k l true p q) (Con.bool true) rfl rfl (.inl rfl) (by kernel_rfl) points_cell rfl (Con.tri_0 k l true p q) field26_0) (by kernel_rfl), ?_⟩
    refine fcs ⟨Ob.new_ (ob_readb 18 19 true true rfl rfl rfl (.inl rfl) (by kernel_rfl) points_ptr rfl) (by kernel_rfl), ?_⟩
    refine fcs ⟨Ob.new_ (ob_copy 19 20 (.inl rfl) rfl (.inl rfl) (by kernel_rfl) rfl) (by kernel_rfl), ?_⟩
    refine fcs ⟨Ob.new_ (ob_addr 28 1 1 21 1 (Con.tri k l true p q) (Con.nn k p) rfl rfl (.inr ⟨_, _, _, rfl, rfl, by kernel_rfl, by decide, rfl⟩) (by kernel_rfl) points_cell rfl (Con.tri_1 k l true p q) field26_1) (by kernel_rfl), ?_⟩
    refine fcs ⟨Ob.new_ (ob_read 24 21 22 (Con.nn k p) rfl rfl (.inr ⟨_, _, _, rfl, rfl, by kernel_rfl, by decide, rfl⟩) (by kernel_rfl) points_ptr rfl row24 info24) (by kernel_rfl), ?_⟩
    refine fcs ⟨Ob.new_ (ob_call1 32 22 23 _ rfl rfl (.inr ⟨_, _, _, rfl, rfl, by kernel_rfl, by decide, rfl⟩) (by kernel_rfl) (by kernel_rfl) (q_isZero k p true (decide_eq_true hp))) (by kernel_rfl), ?_⟩
    refine fcs ⟨Ob.new_ (ob_pick 20 23 24 _ rfl rfl (.inl rfl) (by kernel_rfl) (by kernel_rfl) rfl rfl) (by kernel_rfl), ?_⟩
    exact fnl
  intro a3 w3 st3 hbr3 hfr
  have hs3 := hbr3.size
  have hb := up hb hbr3
  have st : St 31 [(1, Fact.cell b1 (Con.tri k l true p q)), (2, Fact.eq (.bool false)), (24, Fact.eq (.bool true))] a3 w3 := st3.to (fcs ⟨st3.at_ 1, fcs ⟨st3.at_ 2, fcs ⟨st3.at_ 24, fnl⟩⟩⟩)
  clear st3 hbr3 hfr
  refine wpList_nil ?_
  refine then_normal ?_
  refine wp_cond_true (st.at_ 24) ?_
  refine wp_seq ?_
  have st := st.to (ks' := [(1, Fact.cell b1 (Con.tri k l true p q)), (24, Fact.eq (.bool true))]) (fcs ⟨st.at_ 1, fcs ⟨st.at_ 24, fnl⟩⟩)
  refine sym_region st [(2, Fact.eq (.bool false))] [] 1 (by kernel_rfl) (by kernel_rfl) (by kernel_rfl) (Nat.le_of_ble_eq_true rfl) (by kernel_rfl) rfl rfl ?_ ?_
  · refine fcs ⟨Ob.new_ (ob_const (.bool false) 2 (.inr rfl) rfl (.inl rfl) rfl) (by kernel_rfl), ?_⟩
    exact fnl
  intro a4 w4 st4 hbr4 hfr
  have hs4 := hbr4.size
  have hb := up hb hbr4
  have st : St 31 [(1, Fact.cell b1 (Con.tri k l true p q)), (2, Fact.eq (.bool false))] a4 w4 := st4.to (fcs ⟨st4.at_ 1, fcs ⟨st4.at_ 2, fnl⟩⟩)
  clear st4 hbr4 hfr
  refine wpList_nil ?_
  refine then_normal ?_
  refine wp_ret ?_
  exact sym_ret1 rfl st.defers (resAt_tmp st 2) hb (fun _ h => h)
set_option maxRecDepth 100000 in
theorem q_valid_c (k l : Nat) (p q : Nat) (hq : q ≠ 0) (hp : p ≠ 0) (_hk : k ≤ 300) (hl : l ≤ 300) (b : Bool) (hbd : decide (Nat.gcd p q = 1) = b) : ∀ v0 w, (Fact.agg (Con.tri k l true p q)).holds v0 w → Calls Tryd.prog 16 #[v0] w (Ret (Fact.eq (.bool b)) w) := by
  intro v0 w hv0
  refine sym_calls 31 [(0, Fact.agg (Con.tri k l true p q))] Tryd.func16 rfl rfl (Nat.le_of_ble_eq_true rfl) (fcs ⟨⟨Nat.le_of_ble_eq_true rfl, hv0⟩, fnl⟩) fun a st => ?_
  have hb := Below.refl w.heap.size w
  refine wp_seq ?_
  refine sym_region st [(1, Fact.var' (Con.tri k l true p q)), (2, Fact.eq (.bool false))] [1] 2 (by kernel_rfl) (by kernel_rfl) (by kernel_rfl) (Nat.le_of_ble_eq_true rfl) (by kernel_rfl) rfl rfl ?_ ?_
  · refine fcs ⟨obn_box 28 0 1 _ (Con.tri k l true p q) rfl rfl rfl (by kernel_rfl) rfl rfl, ?_⟩
    refine fcs ⟨Ob.new_ (ob_const (.bool false) 2 (.inr rfl) rfl (.inl rfl) rfl) (by kernel_rfl), ?_⟩
    exact fnl
  intro a1 w1 st1 hbr1 hfr
  have hs1 := hbr1.size
  have hb := up hb hbr1
  obtain ⟨b1, c1⟩ := (show (Fact.var' (Con.tri k l true p q)).holds _ _ from st1.at_ 1)
  have g1 := hfr.ge (s := 1) rfl c1.1
  have st : St 31 [(1, Fact.cell b1 (Con.tri k l true p q)), (2, Fact.eq (.bool false))] a1 w1 := st1.to (fcs ⟨c1, fcs ⟨st1.at_ 2, fnl⟩⟩)
  clear st1 hbr1 hfr c1
  refine wpList_nil ?_
  refine then_normal ?_
  refine wp_seq ?_
  refine wp_seq ?_
  refine sym_region st [(3, Fact.ptr (Con.nn k p)), (4, Fact.agg (Con.nn k p)), (5, Fact.eq (.bool true)), (6, Fact.eq (.bool false)), (7, Fact.eq (.bool false)), (8, Fact.ptr (Con.nn l q)), (9, Fact.agg (Con.nn l q)), (10, Fact.eq (.bool true)), (11, Fact.eq (.bool false)), (12, Fact.eq (.bool false)), (13, Fact.eq (.bool false)), (14, Fact.ptr (Con.nn l q)), (15, Fact.agg (Con.nn l q)), (16, Fact.eq (.bool false)), (17, Fact.eq (.bool false))] [] 15 (by kernel_rfl) (by kernel_rfl) (by kernel_rfl) (Nat.le_of_ble_eq_true rfl) (by kernel_rfl) rfl rfl ?_ ?_
  · refine fcs ⟨Ob.new_ (ob_addr 28 1 1 3 1 (Con.tri k l true p q) (Con.nn k p) rfl rfl (.inl rfl) (by kernel_rfl) points_cell rfl (Con.tri_1 k l true p q) field26_1) (by kernel_rfl), ?_⟩
    refine fcs ⟨Ob.new_ (ob_read 24 3 4 (Con.nn k p) rfl rfl (.inl rfl) (by kernel_rfl) points_ptr rfl row24 info24) (by kernel_rfl), ?_⟩
    refine fcs ⟨Ob.new_ (ob_call1 37 4 5 _ rfl rfl (.inl rfl) (by kernel_rfl) (by kernel_rfl) (n_valid k p)) (by kernel_rfl), ?_⟩
    refine fcs ⟨Ob.new_ (ob_not 5 6 true false rfl rfl rfl (.inl rfl) (by kernel_rfl) rfl rfl) (by kernel_rfl), ?_⟩
    refine fcs ⟨Ob.new_ (ob_copy 6 7 (.inl rfl) rfl (.inl rfl) (by kernel_rfl) rfl) (by kernel_rfl), ?_⟩
    refine fcs ⟨Ob.new_ (ob_addr 28 2 1 8 2 (Con.tri k l true p q) (Con.nn l q) rfl rfl (.inr ⟨_, _, _, rfl, rfl, by kernel_rfl, by decide, rfl⟩) (by kernel_rfl) points_cell rfl (Con.tri_2 k l true p q) field26_2) (by kernel_rfl), ?_⟩
    refine fcs ⟨Ob.new_ (ob_read 24 8 9 (Con.nn l q) rfl rfl (.inr ⟨_, _, _, rfl, rfl, by kernel_rfl, by decide, rfl⟩) (by kernel_rfl) points_ptr rfl row24 info24) (by kernel_rfl), ?_⟩
    refine fcs ⟨Ob.new_ (ob_call1 37 9 10 _ rfl rfl (.inr ⟨_, _, _, rfl, rfl, by kernel_rfl, by decide, rfl⟩) (by kernel_rfl) (by kernel_rfl) (n_valid l q)) (by kernel_rfl), ?_⟩
    refine fcs ⟨Ob.new_ (ob_not 10 11 true false rfl rfl rfl (.inr ⟨_, _, _, rfl, rfl, by kernel_rfl, by decide, rfl⟩) (by kernel_rfl) rfl rfl) (by kernel_rfl), ?_⟩
    refine fcs ⟨Ob.new_ (ob_pick_else 7 11 12 (.bool true) rfl rfl (.inl rfl) (by kernel_rfl) (by kernel_rfl) rfl rfl) (by kernel_rfl), ?_⟩
    refine fcs ⟨Ob.new_ (ob_copy 12 13 (.inl rfl) rfl (.inl rfl) (by kernel_rfl) rfl) (by kernel_rfl), ?_⟩
    refine fcs ⟨Ob.new_ (ob_addr 28 2 1 14 2 (Con.tri k l true p q) (Con.nn l q) rfl rfl (.inr ⟨_, _, _, rfl, rfl, by kernel_rfl, by decide, rfl⟩) (by kernel_rfl) points_cell rfl (Con.tri_2 k l true p q) field26_2) (by kernel_rfl), ?_⟩
    refine fcs ⟨Ob.new_ (ob_read 24 14 15 (Con.nn l q) rfl rfl (.inr ⟨_, _, _, rfl, rfl, by kernel_rfl, by decide, rfl⟩) (by kernel_rfl) points_ptr rfl row24 info24) (by kernel_rfl), ?_⟩
    refine fcs ⟨Ob.new_ (ob_call1 32 15 16 _ rfl rfl (.inr ⟨_, _, _, rfl, rfl, by kernel_rfl, by decide, rfl⟩) (by kernel_rfl) (by kernel_rfl) (q_isZero l q false (decide_eq_false hq))) (by kernel_rfl), ?_⟩
    refine fcs ⟨Ob.new_ (ob_pick_else 13 16 17 (.bool true) rfl rfl (.inl rfl) (by kernel_rfl) (by kernel_rfl) rfl rfl) (by kernel_rfl), ?_⟩
    exact fnl
  intro a2 w2 st2 hbr2 hfr
  have hs2 := hbr2.size
  have hb := up hb hbr2
  have st : St 31 [(1, Fact.cell b1 (Con.tri k l true p q)), (2, Fact.eq (.bool false)), (17, Fact.eq (.bool false))] a2 w2 := st2.to (fcs ⟨st2.at_ 1, fcs ⟨st2.at_ 2, fcs ⟨st2.at_ 17, fnl⟩⟩⟩)
  clear st2 hbr2 hfr
  refine wpList_nil ?_
  refine then_normal ?_
  refine wp_cond_false (st.at_ 17) ?_
  refine wp_skip ?_
  refine then_normal ?_
  refine wp_seq ?_
  refine wp_seq ?_
  refine sym_region st [(18, Fact.ptr (Con.bool true)), (19, Fact.eq (.bool true)), (20, Fact.eq (.bool true)), (21, Fact.ptr (Con.nn k p)), (22, Fact.agg (Con.nn k p)), (23, Fact.eq (.bool false)), (24, Fact.eq (.bool false))] [] 7 (by kernel_rfl) (by kernel_rfl) (by kernel_rfl) (Nat.le_of_ble_eq_true rfl) (by kernel_rfl) rfl rfl ?_ ?_
  · refine fcs ⟨Ob.new_ (ob_addr 28 0 1 18 0 (Con.tri k l true p q) (Con.bool true) rfl rfl (.inl rfl) (by kernel_rfl) points_cell rfl (Con.tri_0 k l true p q) field26_0) (by kernel_rfl), ?_⟩
    refine fcs ⟨Ob.new_ (ob_readb 18 19 true true rfl rfl rfl (.inl rfl) (by kernel_rfl) points_ptr rfl) (by kernel_rfl), ?_⟩
    refine fcs ⟨Ob.new_ (ob_copy 19 20 (.inl rfl) rfl (.inl rfl) (by kernel_rfl) rfl) (by kernel_rfl), ?_⟩
    refine fcs ⟨Ob.new_ (ob_addr 28 1 1 21 1 (Con.tri k l true p q) (Con.nn k p) rfl rfl (.inr ⟨_, _, _, rfl, rfl, by kernel_rfl, by decide, rfl⟩) (by kernel_rfl) points_cell rfl (Con.tri_1 k l true p q) field26_1) (by kernel_rfl), ?_⟩
    refine fcs ⟨Ob.new_ (ob_read 24 21 22 (Con.nn k p) rfl rfl (.inr ⟨_, _, _, rfl, rfl, by kernel_rfl, by decide, rfl⟩) (by kernel_rfl) points_ptr rfl row24 info24) (by kernel_rfl), ?_⟩
    refine fcs ⟨Ob.new_ (ob_call1 32 22 23 _ rfl rfl (.inr ⟨_, _, _, rfl, rfl, by kernel_rfl, by decide, rfl⟩) (by kernel_rfl) (by kernel_rfl) (q_isZero k p false (decide_eq_false hp))) (by kernel_rfl), ?_⟩
    refine fcs ⟨Ob.new_ (ob_pick 20 23 24 _ rfl rfl (.inl rfl) (by kernel_rfl) (by kernel_rfl) rfl rfl) (by kernel_rfl), ?_⟩
    exact fnl
  intro a3 w3 st3 hbr3 hfr
  have hs3 := hbr3.size
  have hb := up hb hbr3
  have st : St 31 [(1, Fact.cell b1 (Con.tri k l true p q)), (2, Fact.eq (.bool false)), (24, Fact.eq (.bool false))] a3 w3 := st3.to (fcs ⟨st3.at_ 1, fcs ⟨st3.at_ 2, fcs ⟨st3.at_ 24, fnl⟩⟩⟩)
  clear st3 hbr3 hfr
  refine wpList_nil ?_
  refine then_normal ?_
  refine wp_cond_false (st.at_ 24) ?_
  refine wp_skip ?_
  refine then_normal ?_
  refine wp_seq ?_
  have st := st.to (ks' := [(1, Fact.cell b1 (Con.tri k l true p q)), (24, Fact.eq (.bool false))]) (fcs ⟨st.at_ 1, fcs ⟨st.at_ 24, fnl⟩⟩)
  refine sym_region st [(25, Fact.ptr (Con.nn k p)), (26, Fact.agg (Con.nn k p)), (27, Fact.ptr (Con.nn l q)), (28, Fact.agg (Con.nn l q)), (29, Fact.agg (Con.nn l (Nat.gcd p q))), (30, Fact.eq (.bool b)), (2, Fact.eq (.bool b))] [] 7 (by kernel_rfl) (by kernel_rfl) (by kernel_rfl) (Nat.le_of_ble_eq_true rfl) (by kernel_rfl) rfl rfl ?_ ?_
  · refine fcs ⟨Ob.new_ (ob_addr 28 1 1 25 1 (Con.tri k l true p q) (Con.nn k p) rfl rfl (.inl rfl) (by kernel_rfl) points_cell rfl (Con.tri_1 k l true p q) field26_1) (by kernel_rfl), ?_⟩
    refine fcs ⟨Ob.new_ (ob_read 24 25 26 (Con.nn k p) rfl rfl (.inl rfl) (by kernel_rfl) points_ptr rfl row24 info24) (by kernel_rfl), ?_⟩
    refine fcs ⟨Ob.new_ (ob_addr 28 2 1 27 2 (Con.tri k l true p q) (Con.nn l q) rfl rfl (.inl rfl) (by kernel_rfl) points_cell rfl (Con.tri_2 k l true p q) field26_2) (by kernel_rfl), ?_⟩
    refine fcs ⟨Ob.new_ (ob_read 24 27 28 (Con.nn l q) rfl rfl (.inl rfl) (by kernel_rfl) points_ptr rfl row24 info24) (by kernel_rfl), ?_⟩
    refine fcs ⟨Ob.new_ (ob_call2 39 26 28 29 _ rfl rfl (.inl rfl) (by kernel_rfl) (by kernel_rfl) (by kernel_rfl) (n_gcd k l p q hq (by omega))) (by kernel_rfl), ?_⟩
    refine fcs ⟨Ob.new_ (ob_call1 38 29 30 _ rfl rfl (.inl rfl) (by kernel_rfl) (by kernel_rfl) (q_isOne l (Nat.gcd p q) b hbd)) (by kernel_rfl), ?_⟩
    refine fcs ⟨Ob.new_ (ob_copy 30 2 (.inr rfl) rfl (.inl rfl) (by kernel_rfl) rfl) (by kernel_rfl), ?_⟩
    exact fnl
  intro a4 w4 st4 hbr4 hfr
  have hs4 := hbr4.size
  have hb := up hb hbr4
  have st : St 31 [(2, Fact.eq (.bool b))] a4 w4 := st4.to (fcs ⟨st4.at_ 2, fnl⟩)
  clear st4 hbr4 hfr
  refine wpList_nil ?_
  refine then_normal ?_
  refine wp_ret ?_
  exact sym_ret1 rfl st.defers (resAt_tmp st 2) hb (fun _ h => h)
set_option maxRecDepth 100000 in
theorem q_valid_d (k l : Nat) (p q : Nat) (hq : q ≠ 0) (_hk : k ≤ 300) (hl : l ≤ 300) (b : Bool) (hbd : decide (Nat.gcd p q = 1) = b) : ∀ v0 w, (Fact.agg (Con.tri k l false p q)).holds v0 w → Calls Tryd.prog 16 #[v0] w (Ret (Fact.eq (.bool b)) w) := by
  intro v0 w hv0
  refine sym_calls 31 [(0, Fact.agg (Con.tri k l false p q))] Tryd.func16 rfl rfl (Nat.le_of_ble_eq_true rfl) (fcs ⟨⟨Nat.le_of_ble_eq_true rfl, hv0⟩, fnl⟩) fun a st => ?_
  have hb := Below.refl w.heap.size w
  refine wp_seq ?_
  refine sym_region st [(1, Fact.var' (Con.tri k l false p q)), (2, Fact.eq (.bool false))] [1] 2 (by kernel_rfl) (by kernel_rfl) (by kernel_rfl) (Nat.le_of_ble_eq_true rfl) (by kernel_rfl) rfl rfl ?_ ?_
  · refine fcs ⟨obn_box 28 0 1 _ (Con.tri k l false p q) rfl rfl rfl (by kernel_rfl) rfl rfl, ?_⟩
    refine fcs ⟨Ob.new_ (ob_const (.bool false) 2 (.inr rfl) rfl (.inl rfl) rfl) (by kernel_rfl), ?_⟩
    exact fnl
  intro a1 w1 st1 hbr1 hfr
  have hs1 := hbr1.size
  have hb := up hb hbr1
  obtain ⟨b1, c1⟩ := (show (Fact.var' (Con.tri k l false p q)).holds _ _ from st1.at_ 1)
  have g1 := hfr.ge (s := 1) rfl c1.1
  have st : St 31 [(1, Fact.cell b1 (Con.tri k l false p q)), (2, Fact.eq (.bool false))] a1 w1 := st1.to (fcs ⟨c1, fcs ⟨st1.at_ 2, fnl⟩⟩)
  clear st1 hbr1 hfr c1
  refine wpList_nil ?_
  refine then_normal ?_
  refine wp_seq ?_
  refine wp_seq ?_
  refine sym_region st [(3, Fact.ptr (Con.nn k p)), (4, Fact.agg (Con.nn k p)), (5, Fact.eq (.bool true)), (6, Fact.eq (.bool false)), (7, Fact.eq (.bool false)), (8, Fact.ptr (Con.nn l q)), (9, Fact.agg (Con.nn l q)), (10, Fact.eq (.bool true)), (11, Fact.eq (.bool false)), (12, Fact.eq (.bool false)), (13, Fact.eq (.bool false)), (14, Fact.ptr (Con.nn l q)), (15, Fact.agg (Con.nn l q)), (16, Fact.eq (.bool false)), (17, Fact.eq (.bool false))] [] 15 (by kernel_rfl) (by kernel_rfl) (by kernel_rfl) (Nat.le_of_ble_eq_true rfl) (by kernel_rfl) rfl rfl ?_ ?_
  · refine fcs ⟨Ob.new_ (ob_addr 28 1 1 3 1 (Con.tri k l false p q) (Con.nn k p) rfl rfl (.inl rfl) (by kernel_rfl) points_cell rfl (Con.tri_1 k l false p q) field26_1) (by kernel_rfl), ?_⟩
    refine fcs ⟨Ob.new_ (ob_read 24 3 4 (Con.nn k p) rfl rfl (.inl rfl) (by kernel_rfl) points_ptr rfl row24 info24) (by kernel_rfl), ?_⟩
    refine fcs ⟨Ob.new_ (ob_call1 37 4 5 _ rfl rfl (.inl rfl) (by kernel_rfl) (by kernel_rfl) (n_valid k p)) (by kernel_rfl), ?_⟩
    refine fcs ⟨Ob.new_ (ob_not 5 6 true false rfl rfl rfl (.inl rfl) (by kernel_rfl) rfl rfl) (by kernel_rfl), ?_⟩
    refine fcs ⟨Ob.new_ (ob_copy 6 7 (.inl rfl) rfl (.inl rfl) (by kernel_rfl) rfl) (by kernel_rfl), ?_⟩
    refine fcs ⟨Ob.new_ (ob_addr 28 2 1 8 2 (Con.tri k l false p q) (Con.nn l q) rfl rfl (.inr ⟨_, _, _, rfl, rfl, by kernel_rfl, by decide, rfl⟩) (by kernel_rfl) points_cell rfl (Con.tri_2 k l false p q) field26_2) (by kernel_rfl), ?_⟩
    refine fcs ⟨Ob.new_ (ob_read 24 8 9 (Con.nn l q) rfl rfl (.inr ⟨_, _, _, rfl, rfl, by kernel_rfl, by decide, rfl⟩) (by kernel_rfl) points_ptr rfl row24 info24) (by kernel_rfl), ?_⟩
    refine fcs ⟨Ob.new_ (ob_call1 37 9 10 _ rfl rfl (.inr ⟨_, _, _, rfl, rfl, by kernel_rfl, by decide, rfl⟩) (by kernel_rfl) (by kernel_rfl) (n_valid l q)) (by kernel_rfl), ?_⟩
    refine fcs ⟨Ob.new_ (ob_not 10 11 true false rfl rfl rfl (.inr ⟨_, _, _, rfl, rfl, by kernel_rfl, by decide, rfl⟩) (by kernel_rfl) rfl rfl) (by kernel_rfl), ?_⟩
    refine fcs ⟨Ob.new_ (ob_pick_else 7 11 12 (.bool true) rfl rfl (.inl rfl) (by kernel_rfl) (by kernel_rfl) rfl rfl) (by kernel_rfl), ?_⟩
    refine fcs ⟨Ob.new_ (ob_copy 12 13 (.inl rfl) rfl (.inl rfl) (by kernel_rfl) rfl) (by kernel_rfl), ?_⟩
    refine fcs ⟨Ob.new_ (ob_addr 28 2 1 14 2 (Con.tri k l false p q) (Con.nn l q) rfl rfl (.inr ⟨_, _, _, rfl, rfl, by kernel_rfl, by decide, rfl⟩) (by kernel_rfl) points_cell rfl (Con.tri_2 k l false p q) field26_2) (by kernel_rfl), ?_⟩
    refine fcs ⟨Ob.new_ (ob_read 24 14 15 (Con.nn l q) rfl rfl (.inr ⟨_, _, _, rfl, rfl, by kernel_rfl, by decide, rfl⟩) (by kernel_rfl) points_ptr rfl row24 info24) (by kernel_rfl), ?_⟩
    refine fcs ⟨Ob.new_ (ob_call1 32 15 16 _ rfl rfl (.inr ⟨_, _, _, rfl, rfl, by kernel_rfl, by decide, rfl⟩) (by kernel_rfl) (by kernel_rfl) (q_isZero l q false (decide_eq_false hq))) (by kernel_rfl), ?_⟩
    refine fcs ⟨Ob.new_ (ob_pick_else 13 16 17 (.bool true) rfl rfl (.inl rfl) (by kernel_rfl) (by kernel_rfl) rfl rfl) (by kernel_rfl), ?_⟩
    exact fnl
  intro a2 w2 st2 hbr2 hfr
  have hs2 := hbr2.size
  have hb := up hb hbr2
  have st : St 31 [(1, Fact.cell b1 (Con.tri k l false p q)), (2, Fact.eq (.bool false)), (17, Fact.eq (.bool false))] a2 w2 := st2.to (fcs ⟨st2.at_ 1, fcs ⟨st2.at_ 2, fcs ⟨st2.at_ 17, fnl⟩⟩⟩)
  clear st2 hbr2 hfr
  refine wpList_nil ?_
  refine then_normal ?_
  refine wp_cond_false (st.at_ 17) ?_
  refine wp_skip ?_
  refine then_normal ?_
  refine wp_seq ?_
  refine wp_seq ?_
  refine sym_region st [(18, Fact.ptr (Con.bool false)), (19, Fact.eq (.bool false)), (20, Fact.eq (.bool false)), (21, Fact.eq undef), (22, Fact.eq undef), (23, Fact.eq undef), (24, Fact.eq (.bool false))] [] 7 (by kernel_rfl) (by kernel_rfl) (by kernel_rfl) (Nat.le_of_ble_eq_true rfl) (by kernel_rfl) rfl rfl ?_ ?_
  · refine fcs ⟨Ob.new_ (ob_addr 28 0 1 18 0 (Con.tri k l false p q) (Con.bool false) rfl rfl (.inl rfl) (by kernel_rfl) points_cell rfl (Con.tri_0 k l false p q) field26_0) (by kernel_rfl), ?_⟩
    refine fcs ⟨Ob.new_ (ob_readb 18 19 false false rfl rfl rfl (.inl rfl) (by kernel_rfl) points_ptr rfl) (by kernel_rfl), ?_⟩
    refine fcs ⟨Ob.new_ (ob_copy 19 20 (.inl rfl) rfl (.inl rfl) (by kernel_rfl) rfl) (by kernel_rfl), ?_⟩
    refine fcs ⟨Ob.new_ (ob_skip 2 20 21 true rfl rfl (by kernel_rfl) (by decide) rfl rfl rfl) (by kernel_rfl), ?_⟩
    refine fcs ⟨Ob.new_ (ob_skip 2 20 22 true rfl rfl (by kernel_rfl) (by decide) rfl rfl rfl) (by kernel_rfl), ?_⟩
    refine fcs ⟨Ob.new_ (ob_skip 2 20 23 true rfl rfl (by kernel_rfl) (by decide) rfl rfl rfl) (by kernel_rfl), ?_⟩
    refine fcs ⟨Ob.new_ (ob_pick_no 20 23 24 (.bool false) rfl rfl (.inl rfl) (by kernel_rfl) rfl rfl) (by kernel_rfl), ?_⟩
    exact fnl
  intro a3 w3 st3 hbr3 hfr
  have hs3 := hbr3.size
  have hb := up hb hbr3
  have st : St 31 [(1, Fact.cell b1 (Con.tri k l false p q)), (2, Fact.eq (.bool false)), (24, Fact.eq (.bool false))] a3 w3 := st3.to (fcs ⟨st3.at_ 1, fcs ⟨st3.at_ 2, fcs ⟨st3.at_ 24, fnl⟩⟩⟩)
  clear st3 hbr3 hfr
  refine wpList_nil ?_
  refine then_normal ?_
  refine wp_cond_false (st.at_ 24) ?_
  refine wp_skip ?_
  refine then_normal ?_
  refine wp_seq ?_
  have st := st.to (ks' := [(1, Fact.cell b1 (Con.tri k l false p q)), (24, Fact.eq (.bool false))]) (fcs ⟨st.at_ 1, fcs ⟨st.at_ 24, fnl⟩⟩)
  refine sym_region st [(25, Fact.ptr (Con.nn k p)), (26, Fact.agg (Con.nn k p)), (27, Fact.ptr (Con.nn l q)), (28, Fact.agg (Con.nn l q)), (29, Fact.agg (Con.nn l (Nat.gcd p q))), (30, Fact.eq (.bool b)), (2, Fact.eq (.bool b))] [] 7 (by kernel_rfl) (by kernel_rfl) (by kernel_rfl) (Nat.le_of_ble_eq_true rfl) (by kernel_rfl) rfl rfl ?_ ?_
  · refine fcs ⟨Ob.new_ (ob_addr 28 1 1 25 1 (Con.tri k l false p q) (Con.nn k p) rfl rfl (.inl rfl) (by kernel_rfl) points_cell rfl (Con.tri_1 k l false p q) field26_1) (by kernel_rfl), ?_⟩
    refine fcs ⟨Ob.new_ (ob_read 24 25 26 (Con.nn k p) rfl rfl (.inl rfl) (by kernel_rfl) points_ptr rfl row24 info24) (by kernel_rfl), ?_⟩
    refine fcs ⟨Ob.new_ (ob_addr 28 2 1 27 2 (Con.tri k l false p q) (Con.nn l q) rfl rfl (.inl rfl) (by kernel_rfl) points_cell rfl (Con.tri_2 k l false p q) field26_2) (by kernel_rfl), ?_⟩
    refine fcs ⟨Ob.new_ (ob_read 24 27 28 (Con.nn l q) rfl rfl (.inl rfl) (by kernel_rfl) points_ptr rfl row24 info24) (by kernel_rfl), ?_⟩
    refine fcs ⟨Ob.new_ (ob_call2 39 26 28 29 _ rfl rfl (.inl rfl) (by kernel_rfl) (by kernel_rfl) (by kernel_rfl) (n_gcd k l p q hq (by omega))) (by kernel_rfl), ?_⟩
    refine fcs ⟨Ob.new_ (ob_call1 38 29 30 _ rfl rfl (.inl rfl) (by kernel_rfl) (by kernel_rfl) (q_isOne l (Nat.gcd p q) b hbd)) (by kernel_rfl), ?_⟩
    refine fcs ⟨Ob.new_ (ob_copy 30 2 (.inr rfl) rfl (.inl rfl) (by kernel_rfl) rfl) (by kernel_rfl), ?_⟩
    exact fnl
  intro a4 w4 st4 hbr4 hfr
  have hs4 := hbr4.size
  have hb := up hb hbr4
  have st : St 31 [(2, Fact.eq (.bool b))] a4 w4 := st4.to (fcs ⟨st4.at_ 2, fnl⟩)
  clear st4 hbr4 hfr
  refine wpList_nil ?_
  refine then_normal ?_
  refine wp_ret ?_
  exact sym_ret1 rfl st.defers (resAt_tmp st 2) hb (fun _ h => h)
theorem q_valid_tri (k l : Nat) (s : Bool) (p q : Nat) (hk : k ≤ 300) (hl : l ≤ 300) (b : Bool) (hbd : vldT s p q = b) : ∀ v0 w, (Fact.agg (Con.tri k l s p q)).holds v0 w → Calls Tryd.prog 16 #[v0] w (Ret (Fact.eq (.bool b)) w) := by
  intro v0 w hv0
  subst hbd
  by_cases hq : q = 0
  · rw [show vldT s p q = false from by simp [vldT, hq]]
    exact q_valid_a k l s p q hq v0 w hv0
  · cases s with
    | true =>
      by_cases hp : p = 0
      · rw [show vldT true p q = false from by simp [vldT, hp]]
        exact q_valid_b k l p q hq hp v0 w hv0
      · exact q_valid_c k l p q hq hp hk hl _ (by simp [vldT, hq, hp]) v0 w hv0
    | false => exact q_valid_d k l p q hq hk hl _ (by simp [vldT, hq]) v0 w hv0
end Go.Proofs.YtjfehdkfogdpgaaDoor
namespace Go.Proofs.YtjfehdkfogdpgaaDoor
open Go.RowKit
def Fact.dptr (z : Nat) : Fact := ⟨fun v w => ∃ g o, v = .pointer (some ⟨g, o, none⟩) ∧ g < w.heap.size ∧ w.cell? ⟨g, o, none⟩ = some (.int .u32 (z : Int)), fun _ _ _ ⟨g, o, h, hl, hc⟩ hb => ⟨g, o, h, Nat.lt_of_lt_of_le hl hb.size, ((seen hb).1 _ _ hl).trans hc⟩⟩
theorem load59 (w : World) (b o : Nat) (z : Int) (h : w.cell? ⟨b, o, none⟩ = some (.int .u32 z)) : (Instr.loadAt 48 (.pointer (some ⟨b, o, none⟩))).run Tryd.prog w = .ok (.int .u32 z) w := by go_simp
section
variable {ops : Array Oper} {Q : Exit → Act → World → Prop} {F : Nat → Fact} {base : List Nat} {N : Nat} {o : Oper}
theorem ob_digptr (t u d k p j : Nat) (ji : Int) (hji : ji = (j : Int)) (hj : j < (Nm.nat p).length) (ho : o.op = .indexAddr 22 (.tmp t) (.tmp u)) (hd : o.dst = some d) (hg : GuardOk ops F base N o) (hk : known ops base o t = true) (hk2 : known ops base o u = true) (hv : F t = Fact.rown k p) (hv2 : F u = Fact.eq (.int .i64 ji)) (hF : F d = Fact.dptr ((Nm.nat p)[j])) : Ob ops Q F base N o :=
  ob_val hg fun a w hf => by
    have h1 := hf t hk
    have h2 := hf u hk2
    rw [hv] at h1
    rw [hv2] at h2
    obtain ⟨A, c, h3, hn, _⟩ := h1
    obtain ⟨g, off, rfl, hrow⟩ := hn.rd.at_ hj
    have h3' : a.eval (.tmp t) = .slice (some ⟨g, off, none⟩) (Nm.nat p).length c := h3
    have h2' : a.eval (.tmp u) = .int .i64 ji := h2
    refine ⟨.pointer (some ⟨g, off + j, none⟩), w, by simp [execOp, ho, h3', h2', index32 w g off _ c j ji hji hj], Below.refl _ _, fun x hx => ?_⟩
    rw [hd] at hx; injection hx with hx; subst hx; rw [hF]
    exact ⟨g, off + j, rfl, World.block_lt_of_cell? w _ (hrow j hj), hrow j hj⟩
theorem ob_loaddig (t d z : Nat) (ho : o.op = .load 48 (.tmp t)) (hd : o.dst = some d) (hg : GuardOk ops F base N o) (hk : known ops base o t = true) (hv : F t = Fact.dptr z) (hF : F d = Fact.eq (.int .u32 (z : Int))) : Ob ops Q F base N o :=
  ob_val hg fun a w hf => by
    have h1 := hf t hk
    rw [hv] at h1
    obtain ⟨g, off, h2, _, hc⟩ := h1
    have h2' : a.eval (.tmp t) = .pointer (some ⟨g, off, none⟩) := h2
    exact ⟨.int .u32 (z : Int), w, by simp [execOp, ho, h2', load59 w g off _ hc], Below.refl _ _, fun x hx => by rw [hd] at hx; injection hx with hx; subst hx; rw [hF]; rfl⟩
theorem ob_conv3264 (t d : Nat) (z r : Int) (hr : IntKind.u64.wrap z = r) (ho : o.op = .convert 48 45 (.tmp t)) (hd : o.dst = some d) (hg : GuardOk ops F base N o) (hk : known ops base o t = true) (hv : F t = Fact.eq (.int .u32 z)) (hF : F d = Fact.eq (.int .u64 r)) : Ob ops Q F base N o :=
  ob_one t d _ _ hd hg hk hv hF fun a w h1 => by
    subst hr
    simp [execOp, ho, h1]
    go_simp
theorem ob_convi64 (t d : Nat) (z r : Int) (hr : IntKind.i64.wrap z = r) (ho : o.op = .convert 45 2 (.tmp t)) (hd : o.dst = some d) (hg : GuardOk ops F base N o) (hk : known ops base o t = true) (hv : F t = Fact.eq (.int .u64 z)) (hF : F d = Fact.eq (.int .i64 r)) : Ob ops Q F base N o :=
  ob_one t d _ _ hd hg hk hv hF fun a w h1 => by
    subst hr
    simp [execOp, ho, h1]
    go_simp
theorem ob_cmul (t d : Nat) (c z r : Int) (ty ty' : TypeId) (hr : IntKind.i64.wrap (c * z) = r) (ho : o.op = .binOp .mul ty (.const (.int .i64 c)) (.tmp t) ty') (hd : o.dst = some d) (hg : GuardOk ops F base N o) (hk : known ops base o t = true) (hv : F t = Fact.eq (.int .i64 z)) (hF : F d = Fact.eq (.int .i64 r)) : Ob ops Q F base N o :=
  ob_one t d _ _ hd hg hk hv hF fun a w h1 => by
    have h3 : a.eval (.const (.int .i64 c)) = .int .i64 c := rfl
    subst hr
    simp [execOp, ho, h1, h3]
    go_simp
theorem ob_shl (t s d : Nat) (z n r : Int) (ty ty' : TypeId) (h0 : 0 ≤ n) (h1 : n ≤ 64) (hr : IntKind.u64.wrap (z * 2 ^ n.toNat) = r) (ho : o.op = .binOp .shl ty (.tmp t) (.tmp s) ty') (hd : o.dst = some d) (hg : GuardOk ops F base N o) (hk : known ops base o t = true) (hk2 : known ops base o s = true) (hv : F t = Fact.eq (.int .u64 z)) (hv2 : F s = Fact.eq (.int .i64 n)) (hF : F d = Fact.eq (.int .u64 r)) : Ob ops Q F base N o :=
  ob_two t s d _ _ _ hd hg hk hk2 hv hv2 hF fun a w h3 h4 => by
    subst hr
    simp [execOp, ho, h3, h4, eqGuard_shl, binOp_shl]
theorem ob_or64 (t s d : Nat) (x y r : Nat) (ty ty' : TypeId) (hx : x < 18446744073709551616) (hy : y < 18446744073709551616) (hr : x ||| y = r) (ho : o.op = .binOp .or ty (.tmp t) (.tmp s) ty') (hd : o.dst = some d) (hg : GuardOk ops F base N o) (hk : known ops base o t = true) (hk2 : known ops base o s = true) (hv : F t = Fact.eq (.int .u64 (x : Int))) (hv2 : F s = Fact.eq (.int .u64 (y : Int))) (hF : F d = Fact.eq (.int .u64 (r : Int))) : Ob ops Q F base N o :=
  ob_two t s d _ _ _ hd hg hk hk2 hv hv2 hF fun a w h3 h4 => by
    subst hr
    simp [execOp, ho, h3, h4, eqGuard_or, binOp_or, intBits_or, bits_or_u64_nat x y hx hy]
end
theorem nat_len2 {p : Nat} (h : p < 18446744073709551616) : (Nm.nat p).length ≤ 2 := Nm.nat_len (by omega)
theorem or_step {zs : List Nat} (hd : Nm.Dig zs) (hl : zs.length ≤ 2) (j : Nat) (hj : j < zs.length) : Nm.val (zs.take j) ||| zs[j] * 2 ^ (32 * j) = Nm.val (zs.take (j + 1)) ∧ zs[j] * 2 ^ (32 * j) < 18446744073709551616 ∧ Nm.val (zs.take j) < 18446744073709551616 := by
  have hz := hd.at_ hj
  have hs := Nm.val_take_succ zs j hj
  have hv := Nm.val_lt (hd.take j)
  rw [List.length_take, Nat.min_eq_left (by omega)] at hv
  have hj2 : j = 0 ∨ j = 1 := by omega
  have hp : 4294967296 ^ j = 2 ^ (32 * j) := by rw [Nat.pow_mul]
  rw [hp] at hs hv
  refine ⟨?_, ?_, ?_⟩
  · rw [hs, Nat.mul_comm zs[j], Nat.or_comm, ← Nat.two_pow_add_eq_or_of_lt hv]
    omega
  · rcases hj2 with rfl | rfl
    · simp; omega
    · show zs[1] * 4294967296 < _; omega
  · rcases hj2 with rfl | rfl
    · simp at hv ⊢; omega
    · simp at hv; omega
end Go.Proofs.YtjfehdkfogdpgaaDoor
namespace Go.Proofs.YtjfehdkfogdpgaaDoor
open Go.RowKit
def fitsI (z : Int) : Bool := decide (-9223372036854775808 ≤ z ∧ z ≤ 9223372036854775807)
def asI (z : Int) : Int := if fitsI z then z else 0
theorem big_no {s : Bool} {p : Nat} (h : 18446744073709551616 ≤ p) : fitsI (Rt.sg s p) = false := by
  unfold fitsI Rt.sg
  cases s <;> simp <;> omega
theorem blen_64 (p : Nat) : decide ((Nm.blen p : Int) > 64) = decide (18446744073709551616 ≤ p) := by
  by_cases h : p < 18446744073709551616
  · have := Nm.blen_lt (k := 64) (x := p) h
    rw [decide_eq_false (by omega), decide_eq_false (by omega)]
  · have h0 : p ≠ 0 := by omega
    have h2 : Nm.blen p = Nat.log2 p + 1 := by unfold Nm.blen; rw [if_neg h0]
    have h3 : 64 ≤ Nat.log2 p := (Nat.le_log2 h0).2 (by omega)
    rw [decide_eq_true (by omega), decide_eq_true (by omega)]
set_option maxRecDepth 100000 in
theorem s_big (k : Nat) (s : Bool) (p : Nat) (h : 18446744073709551616 ≤ p) : ∀ v0 v1 w, (Fact.eq (.bool s)).holds v0 w → (Fact.agg (Con.nn k p)).holds v1 w → Calls Tryd.prog 52 #[v0, v1] w (Ret (Fact.two (Fact.eq (.int .i64 0)) (Fact.eq (.bool false))) w) := by
  intro v0 v1 w hv0 hv1
  refine sym_calls 46 [(0, Fact.eq (.bool s)), (1, Fact.agg (Con.nn k p))] Tryd.func52 rfl rfl (Nat.le_of_ble_eq_true rfl) (fcs ⟨⟨Nat.le_of_ble_eq_true rfl, hv0⟩, fcs ⟨⟨Nat.le_of_ble_eq_true rfl, hv1⟩, fnl⟩⟩) fun a st => ?_
  have hb := Below.refl w.heap.size w
  refine wp_seq ?_
  refine sym_region st [(3, Fact.var' (Con.nn k p)), (4, Fact.eq (.int .i64 0)), (5, Fact.eq (.bool false))] [3] 3 (by kernel_rfl) (by kernel_rfl) (by kernel_rfl) (Nat.le_of_ble_eq_true rfl) (by kernel_rfl) rfl rfl ?_ ?_
  · refine fcs ⟨obn_box 24 1 3 _ (Con.nn k p) rfl rfl rfl (by kernel_rfl) rfl rfl, ?_⟩
    refine fcs ⟨Ob.new_ (ob_const (.int .i64 0) 4 (.inr rfl) rfl (.inl rfl) rfl) (by kernel_rfl), ?_⟩
    refine fcs ⟨Ob.new_ (ob_const (.bool false) 5 (.inr rfl) rfl (.inl rfl) rfl) (by kernel_rfl), ?_⟩
    exact fnl
  intro a1 w1 st1 hbr1 hfr
  have hs1 := hbr1.size
  have hb := up hb hbr1
  obtain ⟨b3, c3⟩ := (show (Fact.var' (Con.nn k p)).holds _ _ from st1.at_ 3)
  have g3 := hfr.ge (s := 3) rfl c3.1
  have st : St 46 [(0, Fact.eq (.bool s)), (3, Fact.cell b3 (Con.nn k p)), (4, Fact.eq (.int .i64 0)), (5, Fact.eq (.bool false))] a1 w1 := st1.to (fcs ⟨st1.at_ 0, fcs ⟨c3, fcs ⟨st1.at_ 4, fcs ⟨st1.at_ 5, fnl⟩⟩⟩⟩)
  clear st1 hbr1 hfr c3
  refine wpList_nil ?_
  refine then_normal ?_
  refine wp_seq ?_
  refine wp_seq ?_
  refine sym_region st [(9, Fact.agg (Con.nn k p)), (10, Fact.eq (.int .i64 (Nm.blen p : Int))), (11, Fact.eq (.bool true))] [] 3 (by kernel_rfl) (by kernel_rfl) (by kernel_rfl) (Nat.le_of_ble_eq_true rfl) (by kernel_rfl) rfl rfl ?_ ?_
  · refine fcs ⟨Ob.new_ (ob_read 24 3 9 (Con.nn k p) rfl rfl (.inl rfl) (by kernel_rfl) points_cell rfl row24 info24) (by kernel_rfl), ?_⟩
    refine fcs ⟨Ob.new_ (ob_call1 55 9 10 _ rfl rfl (.inl rfl) (by kernel_rfl) (by kernel_rfl) (n_bits k p _ rfl)) (by kernel_rfl), ?_⟩
    refine fcs ⟨Ob.new_ (ob_gtc 10 11 .i64 3 _ (Nm.blen p : Int) 64 true ((blen_64 p).trans (decide_eq_true h)) rfl rfl (.inl rfl) (by kernel_rfl) rfl rfl) (by kernel_rfl), ?_⟩
    exact fnl
  intro a2 w2 st2 hbr2 hfr
  have hs2 := hbr2.size
  have hb := up hb hbr2
  have st : St 46 [(0, Fact.eq (.bool s)), (3, Fact.cell b3 (Con.nn k p)), (4, Fact.eq (.int .i64 0)), (5, Fact.eq (.bool false)), (11, Fact.eq (.bool true))] a2 w2 := st2.to (fcs ⟨st2.at_ 0, fcs ⟨st2.at_ 3, fcs ⟨st2.at_ 4, fcs ⟨st2.at_ 5, fcs ⟨st2.at_ 11, fnl⟩⟩⟩⟩⟩)
  clear st2 hbr2 hfr
  refine wpList_nil ?_
  refine then_normal ?_
  refine wp_cond_true (st.at_ 11) ?_
  refine wp_seq ?_
  have st := st.to (ks' := [(0, Fact.eq (.bool s)), (3, Fact.cell b3 (Con.nn k p)), (11, Fact.eq (.bool true))]) (fcs ⟨st.at_ 0, fcs ⟨st.at_ 3, fcs ⟨st.at_ 11, fnl⟩⟩⟩)
  refine sym_region st [(4, Fact.eq (.int .i64 0)), (5, Fact.eq (.bool false))] [] 2 (by kernel_rfl) (by kernel_rfl) (by kernel_rfl) (Nat.le_of_ble_eq_true rfl) (by kernel_rfl) rfl rfl ?_ ?_
  · refine fcs ⟨Ob.new_ (ob_const (.int .i64 0) 4 (.inr rfl) rfl (.inl rfl) rfl) (by kernel_rfl), ?_⟩
    refine fcs ⟨Ob.new_ (ob_const (.bool false) 5 (.inr rfl) rfl (.inl rfl) rfl) (by kernel_rfl), ?_⟩
    exact fnl
  intro a3 w3 st3 hbr3 hfr
  have hs3 := hbr3.size
  have hb := up hb hbr3
  have st : St 46 [(0, Fact.eq (.bool s)), (3, Fact.cell b3 (Con.nn k p)), (4, Fact.eq (.int .i64 0)), (5, Fact.eq (.bool false))] a3 w3 := st3.to (fcs ⟨st3.at_ 0, fcs ⟨st3.at_ 3, fcs ⟨st3.at_ 4, fcs ⟨st3.at_ 5, fnl⟩⟩⟩⟩)
  clear st3 hbr3 hfr
  refine wpList_nil ?_
  refine then_normal ?_
  refine wp_ret ?_
  exact sym_ret2 rfl st.defers (resAt_tmp st 4) (resAt_tmp st 5) hb (fun v u h1 h2 => ⟨v, u, rfl, h1, h2⟩)
set_option maxRecDepth 100000 in
theorem s_neg (k p : Nat) (h : p ≤ 9223372036854775808) : ∀ v0 v1 w, (Fact.eq (.bool true)).holds v0 w → (Fact.agg (Con.nn k p)).holds v1 w → Calls Tryd.prog 52 #[v0, v1] w (Ret (Fact.two (Fact.eq (.int .i64 (-(p : Int)))) (Fact.eq (.bool true))) w) := by
  intro v0 v1 w hv0 hv1
  have hp : p < 18446744073709551616 := by omega
  have hn : IntKind.u64.wrap (-((p : Nat) : Int)) = (18446744073709551616 - (p : Int)) % 18446744073709551616 := by rw [IntKind.wrap_u64]; omega
  have hc : IntKind.i64.wrap ((18446744073709551616 - (p : Int)) % 18446744073709551616) = -(p : Int) := by rw [IntKind.wrap_i64]; omega
  refine sym_calls 46 [(0, Fact.eq (.bool true)), (1, Fact.agg (Con.nn k p))] Tryd.func52 rfl rfl (Nat.le_of_ble_eq_true rfl) (fcs ⟨⟨Nat.le_of_ble_eq_true rfl, hv0⟩, fcs ⟨⟨Nat.le_of_ble_eq_true rfl, hv1⟩, fnl⟩⟩) fun a st => ?_
  have hb := Below.refl w.heap.size w
  refine wp_seq ?_
  refine sym_region st [(3, Fact.var' (Con.nn k p)), (4, Fact.eq (.int .i64 0)), (5, Fact.eq (.bool false))] [3] 3 (by kernel_rfl) (by kernel_rfl) (by kernel_rfl) (Nat.le_of_ble_eq_true rfl) (by kernel_rfl) rfl rfl ?_ ?_
  · refine fcs ⟨obn_box 24 1 3 _ (Con.nn k p) rfl rfl rfl (by kernel_rfl) rfl rfl, ?_⟩
    refine fcs ⟨Ob.new_ (ob_const (.int .i64 0) 4 (.inr rfl) rfl (.inl rfl) rfl) (by kernel_rfl), ?_⟩
    refine fcs ⟨Ob.new_ (ob_const (.bool false) 5 (.inr rfl) rfl (.inl rfl) rfl) (by kernel_rfl), ?_⟩
    exact fnl
  intro a1 w1 st1 hbr1 hfr
  have hs1 := hbr1.size
  have hb := up hb hbr1
  obtain ⟨b3, c3⟩ := (show (Fact.var' (Con.nn k p)).holds _ _ from st1.at_ 3)
  have g3 := hfr.ge (s := 3) rfl c3.1
  have st : St 46 [(0, Fact.eq (.bool true)), (3, Fact.cell b3 (Con.nn k p)), (4, Fact.eq (.int .i64 0)), (5, Fact.eq (.bool false))] a1 w1 := st1.to (fcs ⟨st1.at_ 0, fcs ⟨c3, fcs ⟨st1.at_ 4, fcs ⟨st1.at_ 5, fnl⟩⟩⟩⟩)
  clear st1 hbr1 hfr c3
  refine wpList_nil ?_
  refine then_normal ?_
  refine wp_seq ?_
  refine wp_seq ?_
  refine sym_region st [(9, Fact.agg (Con.nn k p)), (10, Fact.eq (.int .i64 (Nm.blen p : Int))), (11, Fact.eq (.bool false))] [] 3 (by kernel_rfl) (by kernel_rfl) (by kernel_rfl) (Nat.le_of_ble_eq_true rfl) (by kernel_rfl) rfl rfl ?_ ?_
  · refine fcs ⟨Ob.new_ (ob_read 24 3 9 (Con.nn k p) rfl rfl (.inl rfl) (by kernel_rfl) points_cell rfl row24 info24) (by kernel_rfl), ?_⟩
    refine fcs ⟨Ob.new_ (ob_call1 55 9 10 _ rfl rfl (.inl rfl) (by kernel_rfl) (by kernel_rfl) (n_bits k p _ rfl)) (by kernel_rfl), ?_⟩
    refine fcs ⟨Ob.new_ (ob_gtc 10 11 .i64 3 _ (Nm.blen p : Int) 64 false ((blen_64 p).trans (decide_eq_false (by omega))) rfl rfl (.inl rfl) (by kernel_rfl) rfl rfl) (by kernel_rfl), ?_⟩
    exact fnl
  intro a2 w2 st2 hbr2 hfr
  have hs2 := hbr2.size
  have hb := up hb hbr2
  have st : St 46 [(0, Fact.eq (.bool true)), (3, Fact.cell b3 (Con.nn k p)), (4, Fact.eq (.int .i64 0)), (5, Fact.eq (.bool false)), (11, Fact.eq (.bool false))] a2 w2 := st2.to (fcs ⟨st2.at_ 0, fcs ⟨st2.at_ 3, fcs ⟨st2.at_ 4, fcs ⟨st2.at_ 5, fcs ⟨st2.at_ 11, fnl⟩⟩⟩⟩⟩)
  clear st2 hbr2 hfr
  refine wpList_nil ?_
  refine then_normal ?_
  refine wp_cond_false (st.at_ 11) ?_
  refine wp_skip ?_
  refine then_normal ?_
  refine wp_seq ?_
  refine sym_region st [(6, Fact.eq (.int .u64 0))] [] 1 (by kernel_rfl) (by kernel_rfl) (by kernel_rfl) (Nat.le_of_ble_eq_true rfl) (by kernel_rfl) rfl rfl ?_ ?_
  · refine fcs ⟨Ob.new_ (ob_const (.int .u64 0) 6 (.inr rfl) rfl (.inl rfl) rfl) (by kernel_rfl), ?_⟩
    exact fnl
  intro a3 w3 st3 hbr3 hfr
  have hs3 := hbr3.size
  have hb := up hb hbr3
  have st : St 46 [(0, Fact.eq (.bool true)), (3, Fact.cell b3 (Con.nn k p)), (4, Fact.eq (.int .i64 0)), (5, Fact.eq (.bool false)), (6, Fact.eq (.int .u64 0))] a3 w3 := st3.to (fcs ⟨st3.at_ 0, fcs ⟨st3.at_ 3, fcs ⟨st3.at_ 4, fcs ⟨st3.at_ 5, fcs ⟨st3.at_ 6, fnl⟩⟩⟩⟩⟩)
  clear st3 hbr3 hfr
  refine wpList_nil ?_
  refine then_normal ?_
  refine wp_seq ?_
  refine wp_seq ?_
  refine sym_region st [(12, Fact.ptr (Con.nn k p)), (13, Fact.rown k p), (14, Fact.eq (.int .i64 ((Nm.nat p).length : Int))), (15, Fact.eq (.int .i64 0))] [] 4 (by kernel_rfl) (by kernel_rfl) (by kernel_rfl) (Nat.le_of_ble_eq_true rfl) (by kernel_rfl) rfl rfl ?_ ?_
  · refine fcs ⟨Ob.new_ (ob_addr 24 0 3 12 0 (Con.nn k p) (Con.nn k p) rfl rfl (.inl rfl) (by kernel_rfl) points_cell rfl (Con.Sub.refl _) field24_0) (by kernel_rfl), ?_⟩
    refine fcs ⟨Ob.new_ (ob_loadrow 12 13 k p rfl rfl (.inl rfl) (by kernel_rfl) points_ptr rfl) (by kernel_rfl), ?_⟩
    refine fcs ⟨Ob.new_ (ob_len 13 14 (Nm.nat p).length 22 rfl (by kernel_rfl) rfl (.inl rfl) (by kernel_rfl) len_rown rfl) (by kernel_rfl), ?_⟩
    refine fcs ⟨Ob.new_ (ob_const (.int .i64 0) 15 (.inl rfl) rfl (.inl rfl) rfl) (by kernel_rfl), ?_⟩
    exact fnl
  intro a4 w4 st4 hbr4 hfr
  have hs4 := hbr4.size
  have hb := up hb hbr4
  have st : St 46 [(0, Fact.eq (.bool true)), (4, Fact.eq (.int .i64 0)), (5, Fact.eq (.bool false)), (6, Fact.eq (.int .u64 0)), (13, Fact.rown k p), (14, Fact.eq (.int .i64 ((Nm.nat p).length : Int))), (15, Fact.eq (.int .i64 0))] a4 w4 := st4.to (fcs ⟨st4.at_ 0, fcs ⟨st4.at_ 4, fcs ⟨st4.at_ 5, fcs ⟨st4.at_ 6, fcs ⟨st4.at_ 13, fcs ⟨st4.at_ 14, fcs ⟨st4.at_ 15, fnl⟩⟩⟩⟩⟩⟩⟩)
  clear st4 hbr4 hfr
  refine wpList_nil ?_
  refine then_normal ?_
  refine wp_block ?_
  refine wp_loop_ghost (fun n a w0 => ∃ (j : Nat), (j ≤ (Nm.nat p).length) ∧ St 46 [(0, Fact.eq (.bool true)), (6, Fact.eq (.int .u64 ((Nm.val ((Nm.nat p).take j) : Nat) : Int))), (13, Fact.rown k p), (14, Fact.eq (.int .i64 ((Nm.nat p).length : Int))), (15, Fact.eq (.int .i64 (j : Int)))] a w0 ∧ Below w.heap.size w w0 ∧ (Nm.nat p).length - j = n) ((Nm.nat p).length - 0) ⟨0, Nat.zero_le _, st.to (fcs ⟨st.at_ 0, fcs ⟨st.at_ 6, fcs ⟨st.at_ 13, fcs ⟨st.at_ 14, fcs ⟨st.at_ 15, fnl⟩⟩⟩⟩⟩), hb, rfl⟩ ?_
  clear st hb
  rintro n a w5 ⟨j, hjl, st, hb, rfl⟩
  have hs0 := hb.size
  refine wp_seq ?_
  refine sym_region st [(16, Fact.eq (.bool (decide ((j : Int) < ((Nm.nat p).length : Int)))))] [] 1 (by kernel_rfl) (by kernel_rfl) (by kernel_rfl) (Nat.le_of_ble_eq_true rfl) (by kernel_rfl) rfl rfl ?_ ?_
  · refine fcs ⟨Ob.new_ (ob_lt2 15 14 16 .i64 _ _ (j : Int) ((Nm.nat p).length : Int) (decide ((j : Int) < ((Nm.nat p).length : Int))) rfl rfl rfl (.inl rfl) (by kernel_rfl) (by kernel_rfl) rfl rfl rfl) (by kernel_rfl), ?_⟩
    exact fnl
  intro a6 w6 st6 hbr6 hfr
  have hs6 := hbr6.size
  have hb := up hb hbr6
  have st : St 46 [(0, Fact.eq (.bool true)), (6, Fact.eq (.int .u64 ((Nm.val ((Nm.nat p).take j) : Nat) : Int))), (13, Fact.rown k p), (14, Fact.eq (.int .i64 ((Nm.nat p).length : Int))), (15, Fact.eq (.int .i64 (j : Int))), (16, Fact.eq (.bool (decide ((j : Int) < ((Nm.nat p).length : Int)))))] a6 w6 := st6.to (fcs ⟨st6.at_ 0, fcs ⟨st6.at_ 6, fcs ⟨st6.at_ 13, fcs ⟨st6.at_ 14, fcs ⟨st6.at_ 15, fcs ⟨st6.at_ 16, fnl⟩⟩⟩⟩⟩⟩)
  clear st6 hbr6 hfr
  refine wpList_nil ?_
  refine then_normal ?_
  refine wp_seq ?_
  refine wp_cond_split (st.at_ 16) (fun hlt => ?_) (fun hlt => ?_)
  · skip
    have hj : j < (Nm.nat p).length := by have := of_decide_eq_true hlt; omega
    have hdg := Nm.dig_nat p
    have hl2 := nat_len2 hp
    have hor := or_step hdg hl2 j hj
    have hz := hdg.at_ hj
    have hcv : IntKind.u64.wrap (((Nm.nat p)[j] : Nat) : Int) = (((Nm.nat p)[j] : Nat) : Int) := wrap64 hz
    have hm32 : IntKind.i64.wrap (32 * (j : Int)) = ((32 * j : Nat) : Int) := by rw [show ((32 * j : Nat) : Int) = 32 * (j : Int) from by omega]; exact IntWalk.i64_in _ (by omega)
    have hsh : IntKind.u64.wrap ((((Nm.nat p)[j] : Nat) : Int) * 2 ^ (((32 * j : Nat) : Int)).toNat) = (((Nm.nat p)[j] * 2 ^ (32 * j) : Nat) : Int) := by
      rw [Int.toNat_natCast, show (((Nm.nat p)[j] : Nat) : Int) * 2 ^ (32 * j) = (((Nm.nat p)[j] * 2 ^ (32 * j) : Nat) : Int) from by push_cast; rfl, IntKind.wrap_u64]
      have := hor.2.1
      omega
    refine wp_skip ?_
    refine then_normal ?_
    refine wp_seq ?_
    refine wp_block ?_
    refine wp_seq ?_
    refine sym_region st [(17, Fact.eq (.int .i64 (j : Int))), (18, Fact.dptr (Nm.nat p)[j]), (19, Fact.eq (.int .u32 (((Nm.nat p)[j] : Nat) : Int))), (7, Fact.eq (.int .i64 (j : Int))), (8, Fact.eq (.int .u32 (((Nm.nat p)[j] : Nat) : Int)))] [] 5 (by kernel_rfl) (by kernel_rfl) (by kernel_rfl) (Nat.le_of_ble_eq_true rfl) (by kernel_rfl) rfl rfl ?_ ?_
    · refine fcs ⟨Ob.new_ (ob_copy 15 17 (.inl rfl) rfl (.inl rfl) (by kernel_rfl) rfl) (by kernel_rfl), ?_⟩
      refine fcs ⟨Ob.new_ (ob_digptr 13 15 18 k p j _ rfl hj rfl rfl (.inl rfl) (by kernel_rfl) (by kernel_rfl) rfl rfl rfl) (by kernel_rfl), ?_⟩
      refine fcs ⟨Ob.new_ (ob_loaddig 18 19 (Nm.nat p)[j] rfl rfl (.inl rfl) (by kernel_rfl) rfl rfl) (by kernel_rfl), ?_⟩
      refine fcs ⟨Ob.new_ (ob_copy 17 7 (.inr rfl) rfl (.inl rfl) (by kernel_rfl) rfl) (by kernel_rfl), ?_⟩
      refine fcs ⟨Ob.new_ (ob_copy 19 8 (.inr rfl) rfl (.inl rfl) (by kernel_rfl) rfl) (by kernel_rfl), ?_⟩
      exact fnl
    intro a7 w7 st7 hbr7 hfr
    have hs7 := hbr7.size
    have hb := up hb hbr7
    have st : St 46 [(0, Fact.eq (.bool true)), (6, Fact.eq (.int .u64 ((Nm.val ((Nm.nat p).take j) : Nat) : Int))), (13, Fact.rown k p), (14, Fact.eq (.int .i64 ((Nm.nat p).length : Int))), (15, Fact.eq (.int .i64 (j : Int))), (7, Fact.eq (.int .i64 (j : Int))), (8, Fact.eq (.int .u32 (((Nm.nat p)[j] : Nat) : Int)))] a7 w7 := st7.to (fcs ⟨st7.at_ 0, fcs ⟨st7.at_ 6, fcs ⟨st7.at_ 13, fcs ⟨st7.at_ 14, fcs ⟨st7.at_ 15, fcs ⟨st7.at_ 7, fcs ⟨st7.at_ 8, fnl⟩⟩⟩⟩⟩⟩⟩)
    clear st7 hbr7 hfr
    refine wpList_nil ?_
    refine then_normal ?_
    refine wp_region_lit ?_
    refine sym_op st 20 (Fact.eq (.int .u64 ((Nm.val ((Nm.nat p).take j) : Nat) : Int))) rfl (Nat.le_of_ble_eq_true rfl) rfl rfl (by kernel_rfl) (ob_copy 6 20 (.inl rfl) rfl (.inl rfl) (by kernel_rfl) rfl) ?_
    clear st; intro a9 w9 hbr st; have hs9 := hbr.size; have hb := up hb hbr; clear hbr
    refine sym_op st 21 (Fact.eq (.int .u32 (((Nm.nat p)[j] : Nat) : Int))) rfl (Nat.le_of_ble_eq_true rfl) rfl rfl (by kernel_rfl) (ob_copy 8 21 (.inl rfl) rfl (.inl rfl) (by kernel_rfl) rfl) ?_
    clear st; intro a10 w10 hbr st; have hs10 := hbr.size; have hb := up hb hbr; clear hbr
    refine sym_op st 22 (Fact.eq (.int .u64 (((Nm.nat p)[j] : Nat) : Int))) rfl (Nat.le_of_ble_eq_true rfl) rfl rfl (by kernel_rfl) (ob_conv3264 21 22 (((Nm.nat p)[j] : Nat) : Int) (((Nm.nat p)[j] : Nat) : Int) hcv rfl rfl (.inl rfl) (by kernel_rfl) rfl rfl) ?_
    clear st; intro a11 w11 hbr st; have hs11 := hbr.size; have hb := up hb hbr; clear hbr
    refine sym_op st 23 (Fact.eq (.int .i64 (j : Int))) rfl (Nat.le_of_ble_eq_true rfl) rfl rfl (by kernel_rfl) (ob_copy 7 23 (.inl rfl) rfl (.inl rfl) (by kernel_rfl) rfl) ?_
    clear st; intro a12 w12 hbr st; have hs12 := hbr.size; have hb := up hb hbr; clear hbr
    refine sym_op st 24 (Fact.eq (.int .i64 ((32 * j : Nat) : Int))) rfl (Nat.le_of_ble_eq_true rfl) rfl rfl (by kernel_rfl) (ob_cmul 23 24 32 (j : Int) ((32 * j : Nat) : Int) _ _ hm32 rfl rfl (.inl rfl) (by kernel_rfl) rfl rfl) ?_
    clear st; intro a13 w13 hbr st; have hs13 := hbr.size; have hb := up hb hbr; clear hbr
    refine sym_op st 25 (Fact.eq (.int .u64 (((Nm.nat p)[j] * 2 ^ (32 * j) : Nat) : Int))) rfl (Nat.le_of_ble_eq_true rfl) rfl rfl (by kernel_rfl) (ob_shl 22 24 25 (((Nm.nat p)[j] : Nat) : Int) ((32 * j : Nat) : Int) (((Nm.nat p)[j] * 2 ^ (32 * j) : Nat) : Int) _ _ (by omega) (by omega) hsh rfl rfl (.inl rfl) (by kernel_rfl) (by kernel_rfl) rfl rfl rfl) ?_
    clear st; intro a14 w14 hbr st; have hs14 := hbr.size; have hb := up hb hbr; clear hbr
    refine sym_op st 26 (Fact.eq (.int .u64 ((Nm.val ((Nm.nat p).take (j + 1)) : Nat) : Int))) rfl (Nat.le_of_ble_eq_true rfl) rfl rfl (by kernel_rfl) (ob_or64 20 25 26 (Nm.val ((Nm.nat p).take j)) ((Nm.nat p)[j] * 2 ^ (32 * j)) (Nm.val ((Nm.nat p).take (j + 1))) _ _ hor.2.2 hor.2.1 hor.1 rfl rfl (.inl rfl) (by kernel_rfl) (by kernel_rfl) rfl rfl rfl) ?_
    clear st; intro a15 w15 hbr st; have hs15 := hbr.size; have hb := up hb hbr; clear hbr
    have st := st.to (ks' := [(0, Fact.eq (.bool true)), (13, Fact.rown k p), (14, Fact.eq (.int .i64 ((Nm.nat p).length : Int))), (15, Fact.eq (.int .i64 (j : Int))), (7, Fact.eq (.int .i64 (j : Int))), (8, Fact.eq (.int .u32 (((Nm.nat p)[j] : Nat) : Int))), (20, Fact.eq (.int .u64 ((Nm.val ((Nm.nat p).take j) : Nat) : Int))), (21, Fact.eq (.int .u32 (((Nm.nat p)[j] : Nat) : Int))), (22, Fact.eq (.int .u64 (((Nm.nat p)[j] : Nat) : Int))), (23, Fact.eq (.int .i64 (j : Int))), (24, Fact.eq (.int .i64 ((32 * j : Nat) : Int))), (25, Fact.eq (.int .u64 (((Nm.nat p)[j] * 2 ^ (32 * j) : Nat) : Int))), (26, Fact.eq (.int .u64 ((Nm.val ((Nm.nat p).take (j + 1)) : Nat) : Int)))]) (fcs ⟨st.at_ 0, fcs ⟨st.at_ 13, fcs ⟨st.at_ 14, fcs ⟨st.at_ 15, fcs ⟨st.at_ 7, fcs ⟨st.at_ 8, fcs ⟨st.at_ 20, fcs ⟨st.at_ 21, fcs ⟨st.at_ 22, fcs ⟨st.at_ 23, fcs ⟨st.at_ 24, fcs ⟨st.at_ 25, fcs ⟨st.at_ 26, fnl⟩⟩⟩⟩⟩⟩⟩⟩⟩⟩⟩⟩⟩)
    refine sym_op st 6 (Fact.eq (.int .u64 ((Nm.val ((Nm.nat p).take (j + 1)) : Nat) : Int))) rfl (Nat.le_of_ble_eq_true rfl) rfl rfl (by kernel_rfl) (ob_copy 26 6 (.inr rfl) rfl (.inl rfl) (by kernel_rfl) rfl) ?_
    clear st; intro a16 w16 hbr st; have hs16 := hbr.size; have hb := up hb hbr; clear hbr
    refine wpList_nil ?_
    refine inBlock_normal ?_
    refine then_normal ?_
    refine wp_region_lit ?_
    refine sym_op st 27 (Fact.eq (.int .i64 ((j + 1 : Nat) : Int))) rfl (Nat.le_of_ble_eq_true rfl) rfl rfl (by kernel_rfl) (ob_inc 15 27 _ _ j (by omega) rfl rfl (.inl rfl) (by kernel_rfl) rfl rfl) ?_
    clear st; intro a18 w18 hbr st; have hs18 := hbr.size; have hb := up hb hbr; clear hbr
    have st := st.to (ks' := [(0, Fact.eq (.bool true)), (13, Fact.rown k p), (14, Fact.eq (.int .i64 ((Nm.nat p).length : Int))), (6, Fact.eq (.int .u64 ((Nm.val ((Nm.nat p).take (j + 1)) : Nat) : Int))), (27, Fact.eq (.int .i64 ((j + 1 : Nat) : Int)))]) (fcs ⟨st.at_ 0, fcs ⟨st.at_ 13, fcs ⟨st.at_ 14, fcs ⟨st.at_ 6, fcs ⟨st.at_ 27, fnl⟩⟩⟩⟩⟩)
    refine sym_op st 15 (Fact.eq (.int .i64 ((j + 1 : Nat) : Int))) rfl (Nat.le_of_ble_eq_true rfl) rfl rfl (by kernel_rfl) (ob_copy 27 15 (.inl rfl) rfl (.inl rfl) (by kernel_rfl) rfl) ?_
    clear st; intro a19 w19 hbr st; have hs19 := hbr.size; have hb := up hb hbr; clear hbr
    refine wpList_nil ?_
    refine then_normal ⟨_, ?_, j + 1, hj, st.to (fcs ⟨st.at_ 0, fcs ⟨st.at_ 6, fcs ⟨st.at_ 13, fcs ⟨st.at_ 14, fcs ⟨st.at_ 15, fnl⟩⟩⟩⟩⟩), hb, rfl⟩
    · omega
  · skip
    have hj : j = (Nm.nat p).length := by have := of_decide_eq_false hlt; omega
    have hvl : Nm.val ((Nm.nat p).take j) = p := by rw [hj, List.take_length, Nm.val_nat]
    rw [hvl] at st
    refine wp_exit ?_
    refine then_exit ?_
    refine then_exit ?_
    refine inBlock_exit ?_
    refine then_normal ?_
    refine wp_seq ?_
    refine wp_block ?_
    refine wp_seq ?_
    refine sym_region st [(29, Fact.eq (.bool true)), (30, Fact.eq (.bool true)), (31, Fact.eq (.int .u64 ((p : Nat) : Int))), (32, Fact.eq (.bool true)), (33, Fact.eq (.bool true)), (28, Fact.eq (.bool true))] [] 6 (by kernel_rfl) (by kernel_rfl) (by kernel_rfl) (Nat.le_of_ble_eq_true rfl) (by kernel_rfl) rfl rfl ?_ ?_
    · refine fcs ⟨Ob.new_ (ob_copy 0 29 (.inl rfl) rfl (.inl rfl) (by kernel_rfl) rfl) (by kernel_rfl), ?_⟩
      refine fcs ⟨Ob.new_ (ob_copy 29 30 (.inl rfl) rfl (.inl rfl) (by kernel_rfl) rfl) (by kernel_rfl), ?_⟩
      refine fcs ⟨Ob.new_ (ob_copy 6 31 (.inl rfl) rfl (.inr ⟨_, _, _, rfl, rfl, by kernel_rfl, by decide, rfl⟩) (by kernel_rfl) rfl) (by kernel_rfl), ?_⟩
      refine fcs ⟨Ob.new_ (ob_lec 31 32 .u64 45 _ ((p : Nat) : Int) 9223372036854775808 true (decide_eq_true (by omega)) rfl rfl (.inr ⟨_, _, _, rfl, rfl, by kernel_rfl, by decide, rfl⟩) (by kernel_rfl) rfl rfl) (by kernel_rfl), ?_⟩
      refine fcs ⟨Ob.new_ (ob_pick 30 32 33 _ rfl rfl (.inl rfl) (by kernel_rfl) (by kernel_rfl) rfl rfl) (by kernel_rfl), ?_⟩
      refine fcs ⟨Ob.new_ (ob_copy 33 28 (.inr rfl) rfl (.inl rfl) (by kernel_rfl) rfl) (by kernel_rfl), ?_⟩
      exact fnl
    intro a20 w20 st20 hbr20 hfr
    have hs20 := hbr20.size
    have hb := up hb hbr20
    have st : St 46 [(0, Fact.eq (.bool true)), (6, Fact.eq (.int .u64 ((p : Nat) : Int))), (28, Fact.eq (.bool true))] a20 w20 := st20.to (fcs ⟨st20.at_ 0, fcs ⟨st20.at_ 6, fcs ⟨st20.at_ 28, fnl⟩⟩⟩)
    clear st20 hbr20 hfr
    refine wpList_nil ?_
    refine then_normal ?_
    refine wp_cond_true (st.at_ 28) ?_
    refine wp_seq ?_
    refine sym_region st [(34, Fact.eq (.int .u64 ((p : Nat) : Int))), (35, Fact.eq (.int .u64 ((18446744073709551616 - (p : Int)) % 18446744073709551616))), (36, Fact.eq (.int .i64 (-(p : Int)))), (4, Fact.eq (.int .i64 (-(p : Int)))), (5, Fact.eq (.bool true))] [] 5 (by kernel_rfl) (by kernel_rfl) (by kernel_rfl) (Nat.le_of_ble_eq_true rfl) (by kernel_rfl) rfl rfl ?_ ?_
    · refine fcs ⟨Ob.new_ (ob_copy 6 34 (.inl rfl) rfl (.inl rfl) (by kernel_rfl) rfl) (by kernel_rfl), ?_⟩
      refine fcs ⟨Ob.new_ (ob_neg64 34 35 ((p : Nat) : Int) ((18446744073709551616 - (p : Int)) % 18446744073709551616) hn rfl rfl (.inl rfl) (by kernel_rfl) rfl rfl) (by kernel_rfl), ?_⟩
      refine fcs ⟨Ob.new_ (ob_convi64 35 36 ((18446744073709551616 - (p : Int)) % 18446744073709551616) (-(p : Int)) hc rfl rfl (.inl rfl) (by kernel_rfl) rfl rfl) (by kernel_rfl), ?_⟩
      refine fcs ⟨Ob.new_ (ob_copy 36 4 (.inr rfl) rfl (.inl rfl) (by kernel_rfl) rfl) (by kernel_rfl), ?_⟩
      refine fcs ⟨Ob.new_ (ob_const (.bool true) 5 (.inr rfl) rfl (.inl rfl) rfl) (by kernel_rfl), ?_⟩
      exact fnl
    intro a21 w21 st21 hbr21 hfr
    have hs21 := hbr21.size
    have hb := up hb hbr21
    have st : St 46 [(4, Fact.eq (.int .i64 (-(p : Int)))), (5, Fact.eq (.bool true))] a21 w21 := st21.to (fcs ⟨st21.at_ 4, fcs ⟨st21.at_ 5, fnl⟩⟩)
    clear st21 hbr21 hfr
    refine wpList_nil ?_
    refine then_normal ?_
    refine wp_ret ?_
    exact sym_ret2 rfl st.defers (resAt_tmp st 4) (resAt_tmp st 5) hb (fun v u h1 h2 => ⟨v, u, rfl, h1, h2⟩)
set_option maxRecDepth 100000 in
theorem s_neg0 (k p : Nat) (h : 9223372036854775808 < p) (hp : p < 18446744073709551616) : ∀ v0 v1 w, (Fact.eq (.bool true)).holds v0 w → (Fact.agg (Con.nn k p)).holds v1 w → Calls Tryd.prog 52 #[v0, v1] w (Ret (Fact.two (Fact.eq (.int .i64 0)) (Fact.eq (.bool false))) w) := by
  intro v0 v1 w hv0 hv1
  refine sym_calls 46 [(0, Fact.eq (.bool true)), (1, Fact.agg (Con.nn k p))] Tryd.func52 rfl rfl (Nat.le_of_ble_eq_true rfl) (fcs ⟨⟨Nat.le_of_ble_eq_true rfl, hv0⟩, fcs ⟨⟨Nat.le_of_ble_eq_true rfl, hv1⟩, fnl⟩⟩) fun a st => ?_
  have hb := Below.refl w.heap.size w
  refine wp_seq ?_
  refine sym_region st [(3, Fact.var' (Con.nn k p)), (4, Fact.eq (.int .i64 0)), (5, Fact.eq (.bool false))] [3] 3 (by kernel_rfl) (by kernel_rfl) (by kernel_rfl) (Nat.le_of_ble_eq_true rfl) (by kernel_rfl) rfl rfl ?_ ?_
  · refine fcs ⟨obn_box 24 1 3 _ (Con.nn k p) rfl rfl rfl (by kernel_rfl) rfl rfl, ?_⟩
    refine fcs ⟨Ob.new_ (ob_const (.int .i64 0) 4 (.inr rfl) rfl (.inl rfl) rfl) (by kernel_rfl), ?_⟩
    refine fcs ⟨Ob.new_ (ob_const (.bool false) 5 (.inr rfl) rfl (.inl rfl) rfl) (by kernel_rfl), ?_⟩
    exact fnl
  intro a1 w1 st1 hbr1 hfr
  have hs1 := hbr1.size
  have hb := up hb hbr1
  obtain ⟨b3, c3⟩ := (show (Fact.var' (Con.nn k p)).holds _ _ from st1.at_ 3)
  have g3 := hfr.ge (s := 3) rfl c3.1
  have st : St 46 [(0, Fact.eq (.bool true)), (3, Fact.cell b3 (Con.nn k p)), (4, Fact.eq (.int .i64 0)), (5, Fact.eq (.bool false))] a1 w1 := st1.to (fcs ⟨st1.at_ 0, fcs ⟨c3, fcs ⟨st1.at_ 4, fcs ⟨st1.at_ 5, fnl⟩⟩⟩⟩)
  clear st1 hbr1 hfr c3
  refine wpList_nil ?_
  refine then_normal ?_
  refine wp_seq ?_
  refine wp_seq ?_
  refine sym_region st [(9, Fact.agg (Con.nn k p)), (10, Fact.eq (.int .i64 (Nm.blen p : Int))), (11, Fact.eq (.bool false))] [] 3 (by kernel_rfl) (by kernel_rfl) (by kernel_rfl) (Nat.le_of_ble_eq_true rfl) (by kernel_rfl) rfl rfl ?_ ?_
  · refine fcs ⟨Ob.new_ (ob_read 24 3 9 (Con.nn k p) rfl rfl (.inl rfl) (by kernel_rfl) points_cell rfl row24 info24) (by kernel_rfl), ?_⟩
    refine fcs ⟨Ob.new_ (ob_call1 55 9 10 _ rfl rfl (.inl rfl) (by kernel_rfl) (by kernel_rfl) (n_bits k p _ rfl)) (by kernel_rfl), ?_⟩
    refine fcs ⟨Ob.new_ (ob_gtc 10 11 .i64 3 _ (Nm.blen p : Int) 64 false ((blen_64 p).trans (decide_eq_false (by omega))) rfl rfl (.inl rfl) (by kernel_rfl) rfl rfl) (by kernel_rfl), ?_⟩
    exact fnl
  intro a2 w2 st2 hbr2 hfr
  have hs2 := hbr2.size
  have hb := up hb hbr2
  have st : St 46 [(0, Fact.eq (.bool true)), (3, Fact.cell b3 (Con.nn k p)), (4, Fact.eq (.int .i64 0)), (5, Fact.eq (.bool false)), (11, Fact.eq (.bool false))] a2 w2 := st2.to (fcs ⟨st2.at_ 0, fcs ⟨st2.at_ 3, fcs ⟨st2.at_ 4, fcs ⟨st2.at_ 5, fcs ⟨st2.at_ 11, fnl⟩⟩⟩⟩⟩)
  clear st2 hbr2 hfr
  refine wpList_nil ?_
  refine then_normal ?_
  refine wp_cond_false (st.at_ 11) ?_
  refine wp_skip ?_
  refine then_normal ?_
  refine wp_seq ?_
  refine sym_region st [(6, Fact.eq (.int .u64 0))] [] 1 (by kernel_rfl) (by kernel_rfl) (by kernel_rfl) (Nat.le_of_ble_eq_true rfl) (by kernel_rfl) rfl rfl ?_ ?_
  · refine fcs ⟨Ob.new_ (ob_const (.int .u64 0) 6 (.inr rfl) rfl (.inl rfl) rfl) (by kernel_rfl), ?_⟩
    exact fnl
  intro a3 w3 st3 hbr3 hfr
  have hs3 := hbr3.size
  have hb := up hb hbr3
  have st : St 46 [(0, Fact.eq (.bool true)), (3, Fact.cell b3 (Con.nn k p)), (4, Fact.eq (.int .i64 0)), (5, Fact.eq (.bool false)), (6, Fact.eq (.int .u64 0))] a3 w3 := st3.to (fcs ⟨st3.at_ 0, fcs ⟨st3.at_ 3, fcs ⟨st3.at_ 4, fcs ⟨st3.at_ 5, fcs ⟨st3.at_ 6, fnl⟩⟩⟩⟩⟩)
  clear st3 hbr3 hfr
  refine wpList_nil ?_
  refine then_normal ?_
  refine wp_seq ?_
  refine wp_seq ?_
  refine sym_region st [(12, Fact.ptr (Con.nn k p)), (13, Fact.rown k p), (14, Fact.eq (.int .i64 ((Nm.nat p).length : Int))), (15, Fact.eq (.int .i64 0))] [] 4 (by kernel_rfl) (by kernel_rfl) (by kernel_rfl) (Nat.le_of_ble_eq_true rfl) (by kernel_rfl) rfl rfl ?_ ?_
  · refine fcs ⟨Ob.new_ (ob_addr 24 0 3 12 0 (Con.nn k p) (Con.nn k p) rfl rfl (.inl rfl) (by kernel_rfl) points_cell rfl (Con.Sub.refl _) field24_0) (by kernel_rfl), ?_⟩
    refine fcs ⟨Ob.new_ (ob_loadrow 12 13 k p rfl rfl (.inl rfl) (by kernel_rfl) points_ptr rfl) (by kernel_rfl), ?_⟩
    refine fcs ⟨Ob.new_ (ob_len 13 14 (Nm.nat p).length 22 rfl (by kernel_rfl) rfl (.inl rfl) (by kernel_rfl) len_rown rfl) (by kernel_rfl), ?_⟩
    refine fcs ⟨Ob.new_ (ob_const (.int .i64 0) 15 (.inl rfl) rfl (.inl rfl) rfl) (by kernel_rfl), ?_⟩
    exact fnl
  intro a4 w4 st4 hbr4 hfr
  have hs4 := hbr4.size
  have hb := up hb hbr4
  have st : St 46 [(0, Fact.eq (.bool true)), (4, Fact.eq (.int .i64 0)), (5, Fact.eq (.bool false)), (6, Fact.eq (.int .u64 0)), (13, Fact.rown k p), (14, Fact.eq (.int .i64 ((Nm.nat p).length : Int))), (15, Fact.eq (.int .i64 0))] a4 w4 := st4.to (fcs ⟨st4.at_ 0, fcs ⟨st4.at_ 4, fcs ⟨st4.at_ 5, fcs ⟨st4.at_ 6, fcs ⟨st4.at_ 13, fcs ⟨st4.at_ 14, fcs ⟨st4.at_ 15, fnl⟩⟩⟩⟩⟩⟩⟩)
  clear st4 hbr4 hfr
  refine wpList_nil ?_
  refine then_normal ?_
  refine wp_block ?_
  refine wp_loop_ghost (fun n a w0 => ∃ (j : Nat), (j ≤ (Nm.nat p).length) ∧ St 46 [(0, Fact.eq (.bool true)), (6, Fact.eq (.int .u64 ((Nm.val ((Nm.nat p).take j) : Nat) : Int))), (13, Fact.rown k p), (14, Fact.eq (.int .i64 ((Nm.nat p).length : Int))), (15, Fact.eq (.int .i64 (j : Int)))] a w0 ∧ Below w.heap.size w w0 ∧ (Nm.nat p).length - j = n) ((Nm.nat p).length - 0) ⟨0, Nat.zero_le _, st.to (fcs ⟨st.at_ 0, fcs ⟨st.at_ 6, fcs ⟨st.at_ 13, fcs ⟨st.at_ 14, fcs ⟨st.at_ 15, fnl⟩⟩⟩⟩⟩), hb, rfl⟩ ?_
  clear st hb
  rintro n a w5 ⟨j, hjl, st, hb, rfl⟩
  have hs0 := hb.size
  refine wp_seq ?_
  refine sym_region st [(16, Fact.eq (.bool (decide ((j : Int) < ((Nm.nat p).length : Int)))))] [] 1 (by kernel_rfl) (by kernel_rfl) (by kernel_rfl) (Nat.le_of_ble_eq_true rfl) (by kernel_rfl) rfl rfl ?_ ?_
  · refine fcs ⟨Ob.new_ (ob_lt2 15 14 16 .i64 _ _ (j : Int) ((Nm.nat p).length : Int) (decide ((j : Int) < ((Nm.nat p).length : Int))) rfl rfl rfl (.inl rfl) (by kernel_rfl) (by kernel_rfl) rfl rfl rfl) (by kernel_rfl), ?_⟩
    exact fnl
  intro a6 w6 st6 hbr6 hfr
  have hs6 := hbr6.size
  have hb := up hb hbr6
  have st : St 46 [(0, Fact.eq (.bool true)), (6, Fact.eq (.int .u64 ((Nm.val ((Nm.nat p).take j) : Nat) : Int))), (13, Fact.rown k p), (14, Fact.eq (.int .i64 ((Nm.nat p).length : Int))), (15, Fact.eq (.int .i64 (j : Int))), (16, Fact.eq (.bool (decide ((j : Int) < ((Nm.nat p).length : Int)))))] a6 w6 := st6.to (fcs ⟨st6.at_ 0, fcs ⟨st6.at_ 6, fcs ⟨st6.at_ 13, fcs ⟨st6.at_ 14, fcs ⟨st6.at_ 15, fcs ⟨st6.at_ 16, fnl⟩⟩⟩⟩⟩⟩)
  clear st6 hbr6 hfr
  refine wpList_nil ?_
  refine then_normal ?_
  refine wp_seq ?_
  refine wp_cond_split (st.at_ 16) (fun hlt => ?_) (fun hlt => ?_)
  · skip
    have hj : j < (Nm.nat p).length := by have := of_decide_eq_true hlt; omega
    have hdg := Nm.dig_nat p
    have hl2 := nat_len2 hp
    have hor := or_step hdg hl2 j hj
    have hz := hdg.at_ hj
    have hcv : IntKind.u64.wrap (((Nm.nat p)[j] : Nat) : Int) = (((Nm.nat p)[j] : Nat) : Int) := wrap64 hz
    have hm32 : IntKind.i64.wrap (32 * (j : Int)) = ((32 * j : Nat) : Int) := by rw [show ((32 * j : Nat) : Int) = 32 * (j : Int) from by omega]; exact IntWalk.i64_in _ (by omega)
    have hsh : IntKind.u64.wrap ((((Nm.nat p)[j] : Nat) : Int) * 2 ^ (((32 * j : Nat) : Int)).toNat) = (((Nm.nat p)[j] * 2 ^ (32 * j) : Nat) : Int) := by
      rw [Int.toNat_natCast, show (((Nm.nat p)[j] : Nat) : Int) * 2 ^ (32 * j) = (((Nm.nat p)[j] * 2 ^ (32 * j) : Nat) : Int) from by push_cast; rfl, IntKind.wrap_u64]
      have := hor.2.1
      omega
    refine wp_skip ?_
    refine then_normal ?_
    refine wp_seq ?_
    refine wp_block ?_
    refine wp_seq ?_
    refine sym_region st [(17, Fact.eq (.int .i64 (j : Int))), (18, Fact.dptr (Nm.nat p)[j]), (19, Fact.eq (.int .u32 (((Nm.nat p)[j] : Nat) : Int))), (7, Fact.eq (.int .i64 (j : Int))), (8, Fact.eq (.int .u32 (((Nm.nat p)[j] : Nat) : Int)))] [] 5 (by kernel_rfl) (by kernel_rfl) (by kernel_rfl) (Nat.le_of_ble_eq_true rfl) (by kernel_rfl) rfl rfl ?_ ?_
    · refine fcs ⟨Ob.new_ (ob_copy 15 17 (.inl rfl) rfl (.inl rfl) (by kernel_rfl) rfl) (by kernel_rfl), ?_⟩
      refine fcs ⟨Ob.new_ (ob_digptr 13 15 18 k p j _ rfl hj rfl rfl (.inl rfl) (by kernel_rfl) (by kernel_rfl) rfl rfl rfl) (by kernel_rfl), ?_⟩
      refine fcs ⟨Ob.new_ (ob_loaddig 18 19 (Nm.nat p)[j] rfl rfl (.inl rfl) (by kernel_rfl) rfl rfl) (by kernel_rfl), ?_⟩
      refine fcs ⟨Ob.new_ (ob_copy 17 7 (.inr rfl) rfl (.inl rfl) (by kernel_rfl) rfl) (by kernel_rfl), ?_⟩
      refine fcs ⟨Ob.new_ (ob_copy 19 8 (.inr rfl) rfl (.inl rfl) (by kernel_rfl) rfl) (by kernel_rfl), ?_⟩
      exact fnl
    intro a7 w7 st7 hbr7 hfr
    have hs7 := hbr7.size
    have hb := up hb hbr7
    have st : St 46 [(0, Fact.eq (.bool true)), (6, Fact.eq (.int .u64 ((Nm.val ((Nm.nat p).take j) : Nat) : Int))), (13, Fact.rown k p), (14, Fact.eq (.int .i64 ((Nm.nat p).length : Int))), (15, Fact.eq (.int .i64 (j : Int))), (7, Fact.eq (.int .i64 (j : Int))), (8, Fact.eq (.int .u32 (((Nm.nat p)[j] : Nat) : Int)))] a7 w7 := st7.to (fcs ⟨st7.at_ 0, fcs ⟨st7.at_ 6, fcs ⟨st7.at_ 13, fcs ⟨st7.at_ 14, fcs ⟨st7.at_ 15, fcs ⟨st7.at_ 7, fcs ⟨st7.at_ 8, fnl⟩⟩⟩⟩⟩⟩⟩)
    clear st7 hbr7 hfr
    refine wpList_nil ?_
    refine then_normal ?_
    refine wp_region_lit ?_
    refine sym_op st 20 (Fact.eq (.int .u64 ((Nm.val ((Nm.nat p).take j) : Nat) : Int))) rfl (Nat.le_of_ble_eq_true rfl) rfl rfl (by kernel_rfl) (ob_copy 6 20 (.inl rfl) rfl (.inl rfl) (by kernel_rfl) rfl) ?_
    clear st; intro a9 w9 hbr st; have hs9 := hbr.size; have hb := up hb hbr; clear hbr
    refine sym_op st 21 (Fact.eq (.int .u32 (((Nm.nat p)[j] : Nat) : Int))) rfl (Nat.le_of_ble_eq_true rfl) rfl rfl (by kernel_rfl) (ob_copy 8 21 (.inl rfl) rfl (.inl rfl) (by kernel_rfl) rfl) ?_
    clear st; intro a10 w10 hbr st; have hs10 := hbr.size; have hb := up hb hbr; clear hbr
    refine sym_op st 22 (Fact.eq (.int .u64 (((Nm.nat p)[j] : Nat) : Int))) rfl (Nat.le_of_ble_eq_true rfl) rfl rfl (by kernel_rfl) (ob_conv3264 21 22 (((Nm.nat p)[j] : Nat) : Int) (((Nm.nat p)[j] : Nat) : Int) hcv rfl rfl (.inl rfl) (by kernel_rfl) rfl rfl) ?_
    clear st; intro a11 w11 hbr st; have hs11 := hbr.size; have hb := up hb hbr; clear hbr
    refine sym_op st 23 (Fact.eq (.int .i64 (j : Int))) rfl (Nat.le_of_ble_eq_true rfl) rfl rfl (by kernel_rfl) (ob_copy 7 23 (.inl rfl) rfl (.inl rfl) (by kernel_rfl) rfl) ?_
    clear st; intro a12 w12 hbr st; have hs12 := hbr.size; have hb := up hb hbr; clear hbr
    refine sym_op st 24 (Fact.eq (.int .i64 ((32 * j : Nat) : Int))) rfl (Nat.le_of_ble_eq_true rfl) rfl rfl (by kernel_rfl) (ob_cmul 23 24 32 (j : Int) ((32 * j : Nat) : Int) _ _ hm32 rfl rfl (.inl rfl) (by kernel_rfl) rfl rfl) ?_
    clear st; intro a13 w13 hbr st; have hs13 := hbr.size; have hb := up hb hbr; clear hbr
    refine sym_op st 25 (Fact.eq (.int .u64 (((Nm.nat p)[j] * 2 ^ (32 * j) : Nat) : Int))) rfl (Nat.le_of_ble_eq_true rfl) rfl rfl (by kernel_rfl) (ob_shl 22 24 25 (((Nm.nat p)[j] : Nat) : Int) ((32 * j : Nat) : Int) (((Nm.nat p)[j] * 2 ^ (32 * j) : Nat) : Int) _ _ (by omega) (by omega) hsh rfl rfl (.inl rfl) (by kernel_rfl) (by kernel_rfl) rfl rfl rfl) ?_
    clear st; intro a14 w14 hbr st; have hs14 := hbr.size; have hb := up hb hbr; clear hbr
    refine sym_op st 26 (Fact.eq (.int .u64 ((Nm.val ((Nm.nat p).take (j + 1)) : Nat) : Int))) rfl (Nat.le_of_ble_eq_true rfl) rfl rfl (by kernel_rfl) (ob_or64 20 25 26 (Nm.val ((Nm.nat p).take j)) ((Nm.nat p)[j] * 2 ^ (32 * j)) (Nm.val ((Nm.nat p).take (j + 1))) _ _ hor.2.2 hor.2.1 hor.1 rfl rfl (.inl rfl) (by kernel_rfl) (by kernel_rfl) rfl rfl rfl) ?_
    clear st; intro a15 w15 hbr st; have hs15 := hbr.size; have hb := up hb hbr; clear hbr
    have st := st.to (ks' := [(0, Fact.eq (.bool true)), (13, Fact.rown k p), (14, Fact.eq (.int .i64 ((Nm.nat p).length : Int))), (15, Fact.eq (.int .i64 (j : Int))), (7, Fact.eq (.int .i64 (j : Int))), (8, Fact.eq (.int .u32 (((Nm.nat p)[j] : Nat) : Int))), (20, Fact.eq (.int .u64 ((Nm.val ((Nm.nat p).take j) : Nat) : Int))), (21, Fact.eq (.int .u32 (((Nm.nat p)[j] : Nat) : Int))), (22, Fact.eq (.int .u64 (((Nm.nat p)[j] : Nat) : Int))), (23, Fact.eq (.int .i64 (j : Int))), (24, Fact.eq (.int .i64 ((32 * j : Nat) : Int))), (25, Fact.eq (.int .u64 (((Nm.nat p)[j] * 2 ^ (32 * j) : Nat) : Int))), (26, Fact.eq (.int .u64 ((Nm.val ((Nm.nat p).take (j + 1)) : Nat) : Int)))]) (fcs ⟨st.at_ 0, fcs ⟨st.at_ 13, fcs ⟨st.at_ 14, fcs ⟨st.at_ 15, fcs ⟨st.at_ 7, fcs ⟨st.at_ 8, fcs ⟨st.at_ 20, fcs ⟨st.at_ 21, fcs ⟨st.at_ 22, fcs ⟨st.at_ 23, fcs ⟨st.at_ 24, fcs ⟨st.at_ 25, fcs ⟨st.at_ 26, fnl⟩⟩⟩⟩⟩⟩⟩⟩⟩⟩⟩⟩⟩)
    refine sym_op st 6 (Fact.eq (.int .u64 ((Nm.val ((Nm.nat p).take (j + 1)) : Nat) : Int))) rfl (Nat.le_of_ble_eq_true rfl) rfl rfl (by kernel_rfl) (ob_copy 26 6 (.inr rfl) rfl (.inl rfl) (by kernel_rfl) rfl) ?_
    clear st; intro a16 w16 hbr st; have hs16 := hbr.size; have hb := up hb hbr; clear hbr
    refine wpList_nil ?_
    refine inBlock_normal ?_
    refine then_normal ?_
    refine wp_region_lit ?_
    refine sym_op st 27 (Fact.eq (.int .i64 ((j + 1 : Nat) : Int))) rfl (Nat.le_of_ble_eq_true rfl) rfl rfl (by kernel_rfl) (ob_inc 15 27 _ _ j (by omega) rfl rfl (.inl rfl) (by kernel_rfl) rfl rfl) ?_
    clear st; intro a18 w18 hbr st; have hs18 := hbr.size; have hb := up hb hbr; clear hbr
    have st := st.to (ks' := [(0, Fact.eq (.bool true)), (13, Fact.rown k p), (14, Fact.eq (.int .i64 ((Nm.nat p).length : Int))), (6, Fact.eq (.int .u64 ((Nm.val ((Nm.nat p).take (j + 1)) : Nat) : Int))), (27, Fact.eq (.int .i64 ((j + 1 : Nat) : Int)))]) (fcs ⟨st.at_ 0, fcs ⟨st.at_ 13, fcs ⟨st.at_ 14, fcs ⟨st.at_ 6, fcs ⟨st.at_ 27, fnl⟩⟩⟩⟩⟩)
    refine sym_op st 15 (Fact.eq (.int .i64 ((j + 1 : Nat) : Int))) rfl (Nat.le_of_ble_eq_true rfl) rfl rfl (by kernel_rfl) (ob_copy 27 15 (.inl rfl) rfl (.inl rfl) (by kernel_rfl) rfl) ?_
    clear st; intro a19 w19 hbr st; have hs19 := hbr.size; have hb := up hb hbr; clear hbr
    refine wpList_nil ?_
    refine then_normal ⟨_, ?_, j + 1, hj, st.to (fcs ⟨st.at_ 0, fcs ⟨st.at_ 6, fcs ⟨st.at_ 13, fcs ⟨st.at_ 14, fcs ⟨st.at_ 15, fnl⟩⟩⟩⟩⟩), hb, rfl⟩
    · omega
  · skip
    have hj : j = (Nm.nat p).length := by have := of_decide_eq_false hlt; omega
    have hvl : Nm.val ((Nm.nat p).take j) = p := by rw [hj, List.take_length, Nm.val_nat]
    rw [hvl] at st
    refine wp_exit ?_
    refine then_exit ?_
    refine then_exit ?_
    refine inBlock_exit ?_
    refine then_normal ?_
    refine wp_seq ?_
    refine wp_block ?_
    refine wp_seq ?_
    refine sym_region st [(29, Fact.eq (.bool true)), (30, Fact.eq (.bool true)), (31, Fact.eq (.int .u64 ((p : Nat) : Int))), (32, Fact.eq (.bool false)), (33, Fact.eq (.bool false)), (28, Fact.eq (.bool false))] [] 6 (by kernel_rfl) (by kernel_rfl) (by kernel_rfl) (Nat.le_of_ble_eq_true rfl) (by kernel_rfl) rfl rfl ?_ ?_
    · refine fcs ⟨Ob.new_ (ob_copy 0 29 (.inl rfl) rfl (.inl rfl) (by kernel_rfl) rfl) (by kernel_rfl), ?_⟩
      refine fcs ⟨Ob.new_ (ob_copy 29 30 (.inl rfl) rfl (.inl rfl) (by kernel_rfl) rfl) (by kernel_rfl), ?_⟩
      refine fcs ⟨Ob.new_ (ob_copy 6 31 (.inl rfl) rfl (.inr ⟨_, _, _, rfl, rfl, by kernel_rfl, by decide, rfl⟩) (by kernel_rfl) rfl) (by kernel_rfl), ?_⟩
      refine fcs ⟨Ob.new_ (ob_lec 31 32 .u64 45 _ ((p : Nat) : Int) 9223372036854775808 false (decide_eq_false (by omega)) rfl rfl (.inr ⟨_, _, _, rfl, rfl, by kernel_rfl, by decide, rfl⟩) (by kernel_rfl) rfl rfl) (by kernel_rfl), ?_⟩
      refine fcs ⟨Ob.new_ (ob_pick 30 32 33 _ rfl rfl (.inl rfl) (by kernel_rfl) (by kernel_rfl) rfl rfl) (by kernel_rfl), ?_⟩
      refine fcs ⟨Ob.new_ (ob_copy 33 28 (.inr rfl) rfl (.inl rfl) (by kernel_rfl) rfl) (by kernel_rfl), ?_⟩
      exact fnl
    intro a20 w20 st20 hbr20 hfr
    have hs20 := hbr20.size
    have hb := up hb hbr20
    have st : St 46 [(0, Fact.eq (.bool true)), (6, Fact.eq (.int .u64 ((p : Nat) : Int))), (28, Fact.eq (.bool false))] a20 w20 := st20.to (fcs ⟨st20.at_ 0, fcs ⟨st20.at_ 6, fcs ⟨st20.at_ 28, fnl⟩⟩⟩)
    clear st20 hbr20 hfr
    refine wpList_nil ?_
    refine then_normal ?_
    refine wp_cond_false (st.at_ 28) ?_
    refine wp_seq ?_
    refine sym_region st [(38, Fact.eq (.bool true)), (39, Fact.eq (.bool false)), (40, Fact.eq (.bool false)), (41, Fact.eq undef), (42, Fact.eq undef), (43, Fact.eq (.bool false)), (37, Fact.eq (.bool false))] [] 7 (by kernel_rfl) (by kernel_rfl) (by kernel_rfl) (Nat.le_of_ble_eq_true rfl) (by kernel_rfl) rfl rfl ?_ ?_
    · refine fcs ⟨Ob.new_ (ob_copy 0 38 (.inl rfl) rfl (.inl rfl) (by kernel_rfl) rfl) (by kernel_rfl), ?_⟩
      refine fcs ⟨Ob.new_ (ob_not 38 39 true false rfl rfl rfl (.inl rfl) (by kernel_rfl) rfl rfl) (by kernel_rfl), ?_⟩
      refine fcs ⟨Ob.new_ (ob_copy 39 40 (.inl rfl) rfl (.inl rfl) (by kernel_rfl) rfl) (by kernel_rfl), ?_⟩
      refine fcs ⟨Ob.new_ (ob_skip 2 40 41 true rfl rfl (by kernel_rfl) (by decide) rfl rfl rfl) (by kernel_rfl), ?_⟩
      refine fcs ⟨Ob.new_ (ob_skip 2 40 42 true rfl rfl (by kernel_rfl) (by decide) rfl rfl rfl) (by kernel_rfl), ?_⟩
      refine fcs ⟨Ob.new_ (ob_pick_no 40 42 43 (.bool false) rfl rfl (.inl rfl) (by kernel_rfl) rfl rfl) (by kernel_rfl), ?_⟩
      refine fcs ⟨Ob.new_ (ob_copy 43 37 (.inr rfl) rfl (.inl rfl) (by kernel_rfl) rfl) (by kernel_rfl), ?_⟩
      exact fnl
    intro a21 w21 st21 hbr21 hfr
    have hs21 := hbr21.size
    have hb := up hb hbr21
    have st : St 46 [(6, Fact.eq (.int .u64 ((p : Nat) : Int))), (37, Fact.eq (.bool false))] a21 w21 := st21.to (fcs ⟨st21.at_ 6, fcs ⟨st21.at_ 37, fnl⟩⟩)
    clear st21 hbr21 hfr
    refine wpList_nil ?_
    refine then_normal ?_
    refine wp_cond_false (st.at_ 37) ?_
    refine wp_skip ?_
    refine inBlock_normal ?_
    refine then_normal ?_
    refine wp_seq ?_
    refine sym_region st [(4, Fact.eq (.int .i64 0)), (5, Fact.eq (.bool false))] [] 2 (by kernel_rfl) (by kernel_rfl) (by kernel_rfl) (Nat.le_of_ble_eq_true rfl) (by kernel_rfl) rfl rfl ?_ ?_
    · refine fcs ⟨Ob.new_ (ob_const (.int .i64 0) 4 (.inr rfl) rfl (.inl rfl) rfl) (by kernel_rfl), ?_⟩
      refine fcs ⟨Ob.new_ (ob_const (.bool false) 5 (.inr rfl) rfl (.inl rfl) rfl) (by kernel_rfl), ?_⟩
      exact fnl
    intro a22 w22 st22 hbr22 hfr
    have hs22 := hbr22.size
    have hb := up hb hbr22
    have st : St 46 [(4, Fact.eq (.int .i64 0)), (5, Fact.eq (.bool false))] a22 w22 := st22.to (fcs ⟨st22.at_ 4, fcs ⟨st22.at_ 5, fnl⟩⟩)
    clear st22 hbr22 hfr
    refine wpList_nil ?_
    refine then_normal ?_
    refine wp_ret ?_
    exact sym_ret2 rfl st.defers (resAt_tmp st 4) (resAt_tmp st 5) hb (fun v u h1 h2 => ⟨v, u, rfl, h1, h2⟩)
set_option maxRecDepth 100000 in
theorem s_pos (k p : Nat) (h : p < 9223372036854775808) : ∀ v0 v1 w, (Fact.eq (.bool false)).holds v0 w → (Fact.agg (Con.nn k p)).holds v1 w → Calls Tryd.prog 52 #[v0, v1] w (Ret (Fact.two (Fact.eq (.int .i64 (p : Int))) (Fact.eq (.bool true))) w) := by
  intro v0 v1 w hv0 hv1
  have hp : p < 18446744073709551616 := by omega
  have hc : IntKind.i64.wrap ((p : Nat) : Int) = (p : Int) := by rw [IntKind.wrap_i64]; omega
  refine sym_calls 46 [(0, Fact.eq (.bool false)), (1, Fact.agg (Con.nn k p))] Tryd.func52 rfl rfl (Nat.le_of_ble_eq_true rfl) (fcs ⟨⟨Nat.le_of_ble_eq_true rfl, hv0⟩, fcs ⟨⟨Nat.le_of_ble_eq_true rfl, hv1⟩, fnl⟩⟩) fun a st => ?_
  have hb := Below.refl w.heap.size w
  refine wp_seq ?_
  refine sym_region st [(3, Fact.var' (Con.nn k p)), (4, Fact.eq (.int .i64 0)), (5, Fact.eq (.bool false))] [3] 3 (by kernel_rfl) (by kernel_rfl) (by kernel_rfl) (Nat.le_of_ble_eq_true rfl) (by kernel_rfl) rfl rfl ?_ ?_
  · refine fcs ⟨obn_box 24 1 3 _ (Con.nn k p) rfl rfl rfl (by kernel_rfl) rfl rfl, ?_⟩
    refine fcs ⟨Ob.new_ (ob_const (.int .i64 0) 4 (.inr rfl) rfl (.inl rfl) rfl) (by kernel_rfl), ?_⟩
    refine fcs ⟨Ob.new_ (ob_const (.bool false) 5 (.inr rfl) rfl (.inl rfl) rfl) (by kernel_rfl), ?_⟩
    exact fnl
  intro a1 w1 st1 hbr1 hfr
  have hs1 := hbr1.size
  have hb := up hb hbr1
  obtain ⟨b3, c3⟩ := (show (Fact.var' (Con.nn k p)).holds _ _ from st1.at_ 3)
  have g3 := hfr.ge (s := 3) rfl c3.1
  have st : St 46 [(0, Fact.eq (.bool false)), (3, Fact.cell b3 (Con.nn k p)), (4, Fact.eq (.int .i64 0)), (5, Fact.eq (.bool false))] a1 w1 := st1.to (fcs ⟨st1.at_ 0, fcs ⟨c3, fcs ⟨st1.at_ 4, fcs ⟨st1.at_ 5, fnl⟩⟩⟩⟩)
  clear st1 hbr1 hfr c3
  refine wpList_nil ?_
  refine then_normal ?_
  refine wp_seq ?_
  refine wp_seq ?_
  refine sym_region st [(9, Fact.agg (Con.nn k p)), (10, Fact.eq (.int .i64 (Nm.blen p : Int))), (11, Fact.eq (.bool false))] [] 3 (by kernel_rfl) (by kernel_rfl) (by kernel_rfl) (Nat.le_of_ble_eq_true rfl) (by kernel_rfl) rfl rfl ?_ ?_
  · refine fcs ⟨Ob.new_ (ob_read 24 3 9 (Con.nn k p) rfl rfl (.inl rfl) (by kernel_rfl) points_cell rfl row24 info24) (by kernel_rfl), ?_⟩
    refine fcs ⟨Ob.new_ (ob_call1 55 9 10 _ rfl rfl (.inl rfl) (by kernel_rfl) (by kernel_rfl) (n_bits k p _ rfl)) (by kernel_rfl), ?_⟩
    refine fcs ⟨Ob.new_ (ob_gtc 10 11 .i64 3 _ (Nm.blen p : Int) 64 false ((blen_64 p).trans (decide_eq_false (by omega))) rfl rfl (.inl rfl) (by kernel_rfl) rfl rfl) (by kernel_rfl), ?_⟩
    exact fnl
  intro a2 w2 st2 hbr2 hfr
  have hs2 := hbr2.size
  have hb := up hb hbr2
  have st : St 46 [(0, Fact.eq (.bool false)), (3, Fact.cell b3 (Con.nn k p)), (4, Fact.eq (.int .i64 0)), (5, Fact.eq (.bool false)), (11, Fact.eq (.bool false))] a2 w2 := st2.to (fcs ⟨st2.at_ 0, fcs ⟨st2.at_ 3, fcs ⟨st2.at_ 4, fcs ⟨st2.at_ 5, fcs ⟨st2.at_ 11, fnl⟩⟩⟩⟩⟩)
  clear st2 hbr2 hfr
  refine wpList_nil ?_
  refine then_normal ?_
  refine wp_cond_false (st.at_ 11) ?_
  refine wp_skip ?_
  refine then_normal ?_
  refine wp_seq ?_
  refine sym_region st [(6, Fact.eq (.int .u64 0))] [] 1 (by kernel_rfl) (by kernel_rfl) (by kernel_rfl) (Nat.le_of_ble_eq_true rfl) (by kernel_rfl) rfl rfl ?_ ?_
  · refine fcs ⟨Ob.new_ (ob_const (.int .u64 0) 6 (.inr rfl) rfl (.inl rfl) rfl) (by kernel_rfl), ?_⟩
    exact fnl
  intro a3 w3 st3 hbr3 hfr
  have hs3 := hbr3.size
  have hb := up hb hbr3
  have st : St 46 [(0, Fact.eq (.bool false)), (3, Fact.cell b3 (Con.nn k p)), (4, Fact.eq (.int .i64 0)), (5, Fact.eq (.bool false)), (6, Fact.eq (.int .u64 0))] a3 w3 := st3.to (fcs ⟨st3.at_ 0, fcs ⟨st3.at_ 3, fcs ⟨st3.at_ 4, fcs ⟨st3.at_ 5, fcs ⟨st3.at_ 6, fnl⟩⟩⟩⟩⟩)
  clear st3 hbr3 hfr
  refine wpList_nil ?_
  refine then_normal ?_
  refine wp_seq ?_
  refine wp_seq ?_
  refine sym_region st [(12, Fact.ptr (Con.nn k p)), (13, Fact.rown k p), (14, Fact.eq (.int .i64 ((Nm.nat p).length : Int))), (15, Fact.eq (.int .i64 0))] [] 4 (by kernel_rfl) (by kernel_rfl) (by kernel_rfl) (Nat.le_of_ble_eq_true rfl) (by kernel_rfl) rfl rfl ?_ ?_
  · refine fcs ⟨Ob.new_ (ob_addr 24 0 3 12 0 (Con.nn k p) (Con.nn k p) rfl rfl (.inl rfl) (by kernel_rfl) points_cell rfl (Con.Sub.refl _) field24_0) (by kernel_rfl), ?_⟩
    refine fcs ⟨Ob.new_ (ob_loadrow 12 13 k p rfl rfl (.inl rfl) (by kernel_rfl) points_ptr rfl) (by kernel_rfl), ?_⟩
    refine fcs ⟨Ob.new_ (ob_len 13 14 (Nm.nat p).length 22 rfl (by kernel_rfl) rfl (.inl rfl) (by kernel_rfl) len_rown rfl) (by kernel_rfl), ?_⟩
    refine fcs ⟨Ob.new_ (ob_const (.int .i64 0) 15 (.inl rfl) rfl (.inl rfl) rfl) (by kernel_rfl), ?_⟩
    exact fnl
  intro a4 w4 st4 hbr4 hfr
  have hs4 := hbr4.size
  have hb := up hb hbr4
  have st : St 46 [(0, Fact.eq (.bool false)), (4, Fact.eq (.int .i64 0)), (5, Fact.eq (.bool false)), (6, Fact.eq (.int .u64 0)), (13, Fact.rown k p), (14, Fact.eq (.int .i64 ((Nm.nat p).length : Int))), (15, Fact.eq (.int .i64 0))] a4 w4 := st4.to (fcs ⟨st4.at_ 0, fcs ⟨st4.at_ 4, fcs ⟨st4.at_ 5, fcs ⟨st4.at_ 6, fcs ⟨st4.at_ 13, fcs ⟨st4.at_ 14, fcs ⟨st4.at_ 15, fnl⟩⟩⟩⟩⟩⟩⟩)
  clear st4 hbr4 hfr
  refine wpList_nil ?_
  refine then_normal ?_
  refine wp_block ?_
  refine wp_loop_ghost (fun n a w0 => ∃ (j : Nat), (j ≤ (Nm.nat p).length) ∧ St 46 [(0, Fact.eq (.bool false)), (6, Fact.eq (.int .u64 ((Nm.val ((Nm.nat p).take j) : Nat) : Int))), (13, Fact.rown k p), (14, Fact.eq (.int .i64 ((Nm.nat p).length : Int))), (15, Fact.eq (.int .i64 (j : Int)))] a w0 ∧ Below w.heap.size w w0 ∧ (Nm.nat p).length - j = n) ((Nm.nat p).length - 0) ⟨0, Nat.zero_le _, st.to (fcs ⟨st.at_ 0, fcs ⟨st.at_ 6, fcs ⟨st.at_ 13, fcs ⟨st.at_ 14, fcs ⟨st.at_ 15, fnl⟩⟩⟩⟩⟩), hb, rfl⟩ ?_
  clear st hb
  rintro n a w5 ⟨j, hjl, st, hb, rfl⟩
  have hs0 := hb.size
  refine wp_seq ?_
  refine sym_region st [(16, Fact.eq (.bool (decide ((j : Int) < ((Nm.nat p).length : Int)))))] [] 1 (by kernel_rfl) (by kernel_rfl) (by kernel_rfl) (Nat.le_of_ble_eq_true rfl) (by kernel_rfl) rfl rfl ?_ ?_
  · refine fcs ⟨Ob.new_ (ob_lt2 15 14 16 .i64 _ _ (j : Int) ((Nm.nat p).length : Int) (decide ((j : Int) < ((Nm.nat p).length : Int))) rfl rfl rfl (.inl rfl) (by kernel_rfl) (by kernel_rfl) rfl rfl rfl) (by kernel_rfl), ?_⟩
    exact fnl
  intro a6 w6 st6 hbr6 hfr
  have hs6 := hbr6.size
  have hb := up hb hbr6
  have st : St 46 [(0, Fact.eq (.bool false)), (6, Fact.eq (.int .u64 ((Nm.val ((Nm.nat p).take j) : Nat) : Int))), (13, Fact.rown k p), (14, Fact.eq (.int .i64 ((Nm.nat p).length : Int))), (15, Fact.eq (.int .i64 (j : Int))), (16, Fact.eq (.bool (decide ((j : Int) < ((Nm.nat p).length : Int)))))] a6 w6 := st6.to (fcs ⟨st6.at_ 0, fcs ⟨st6.at_ 6, fcs ⟨st6.at_ 13, fcs ⟨st6.at_ 14, fcs ⟨st6.at_ 15, fcs ⟨st6.at_ 16, fnl⟩⟩⟩⟩⟩⟩)
  clear st6 hbr6 hfr
  refine wpList_nil ?_
  refine then_normal ?_
  refine wp_seq ?_
  refine wp_cond_split (st.at_ 16) (fun hlt => ?_) (fun hlt => ?_)
  · skip
    have hj : j < (Nm.nat p).length := by have := of_decide_eq_true hlt; omega
    have hdg := Nm.dig_nat p
    have hl2 := nat_len2 hp
    have hor := or_step hdg hl2 j hj
    have hz := hdg.at_ hj
    have hcv : IntKind.u64.wrap (((Nm.nat p)[j] : Nat) : Int) = (((Nm.nat p)[j] : Nat) : Int) := wrap64 hz
    have hm32 : IntKind.i64.wrap (32 * (j : Int)) = ((32 * j : Nat) : Int) := by rw [show ((32 * j : Nat) : Int) = 32 * (j : Int) from by omega]; exact IntWalk.i64_in _ (by omega)
    have hsh : IntKind.u64.wrap ((((Nm.nat p)[j] : Nat) : Int) * 2 ^ (((32 * j : Nat) : Int)).toNat) = (((Nm.nat p)[j] * 2 ^ (32 * j) : Nat) : Int) := by
      rw [Int.toNat_natCast, show (((Nm.nat p)[j] : Nat) : Int) * 2 ^ (32 * j) = (((Nm.nat p)[j] * 2 ^ (32 * j) : Nat) : Int) from by push_cast; rfl, IntKind.wrap_u64]
      have := hor.2.1
      omega
    refine wp_skip ?_
    refine then_normal ?_
    refine wp_seq ?_
    refine wp_block ?_
    refine wp_seq ?_
    refine sym_region st [(17, Fact.eq (.int .i64 (j : Int))), (18, Fact.dptr (Nm.nat p)[j]), (19, Fact.eq (.int .u32 (((Nm.nat p)[j] : Nat) : Int))), (7, Fact.eq (.int .i64 (j : Int))), (8, Fact.eq (.int .u32 (((Nm.nat p)[j] : Nat) : Int)))] [] 5 (by kernel_rfl) (by kernel_rfl) (by kernel_rfl) (Nat.le_of_ble_eq_true rfl) (by kernel_rfl) rfl rfl ?_ ?_
    · refine fcs ⟨Ob.new_ (ob_copy 15 17 (.inl rfl) rfl (.inl rfl) (by kernel_rfl) rfl) (by kernel_rfl), ?_⟩
      refine fcs ⟨Ob.new_ (ob_digptr 13 15 18 k p j _ rfl hj rfl rfl (.inl rfl) (by kernel_rfl) (by kernel_rfl) rfl rfl rfl) (by kernel_rfl), ?_⟩
      refine fcs ⟨Ob.new_ (ob_loaddig 18 19 (Nm.nat p)[j] rfl rfl (.inl rfl) (by kernel_rfl) rfl rfl) (by kernel_rfl), ?_⟩
      refine fcs ⟨Ob.new_ (ob_copy 17 7 (.inr rfl) rfl (.inl rfl) (by kernel_rfl) rfl) (by kernel_rfl), ?_⟩
      refine fcs ⟨Ob.new_ (ob_copy 19 8 (.inr rfl) rfl (.inl rfl) (by kernel_rfl) rfl) (by kernel_rfl), ?_⟩
      exact fnl
    intro a7 w7 st7 hbr7 hfr
    have hs7 := hbr7.size
    have hb := up hb hbr7
    have st : St 46 [(0, Fact.eq (.bool false)), (6, Fact.eq (.int .u64 ((Nm.val ((Nm.nat p).take j) : Nat) : Int))), (13, Fact.rown k p), (14, Fact.eq (.int .i64 ((Nm.nat p).length : Int))), (15, Fact.eq (.int .i64 (j : Int))), (7, Fact.eq (.int .i64 (j : Int))), (8, Fact.eq (.int .u32 (((Nm.nat p)[j] : Nat) : Int)))] a7 w7 := st7.to (fcs ⟨st7.at_ 0, fcs ⟨st7.at_ 6, fcs ⟨st7.at_ 13, fcs ⟨st7.at_ 14, fcs ⟨st7.at_ 15, fcs ⟨st7.at_ 7, fcs ⟨st7.at_ 8, fnl⟩⟩⟩⟩⟩⟩⟩)
    clear st7 hbr7 hfr
    refine wpList_nil ?_
    refine then_normal ?_
    refine wp_region_lit ?_
    refine sym_op st 20 (Fact.eq (.int .u64 ((Nm.val ((Nm.nat p).take j) : Nat) : Int))) rfl (Nat.le_of_ble_eq_true rfl) rfl rfl (by kernel_rfl) (ob_copy 6 20 (.inl rfl) rfl (.inl rfl) (by kernel_rfl) rfl) ?_
    clear st; intro a9 w9 hbr st; have hs9 := hbr.size; have hb := up hb hbr; clear hbr
    refine sym_op st 21 (Fact.eq (.int .u32 (((Nm.nat p)[j] : Nat) : Int))) rfl (Nat.le_of_ble_eq_true rfl) rfl rfl (by kernel_rfl) (ob_copy 8 21 (.inl rfl) rfl (.inl rfl) (by kernel_rfl) rfl) ?_
    clear st; intro a10 w10 hbr st; have hs10 := hbr.size; have hb := up hb hbr; clear hbr
    refine sym_op st 22 (Fact.eq (.int .u64 (((Nm.nat p)[j] : Nat) : Int))) rfl (Nat.le_of_ble_eq_true rfl) rfl rfl (by kernel_rfl) (ob_conv3264 21 22 (((Nm.nat p)[j] : Nat) : Int) (((Nm.nat p)[j] : Nat) : Int) hcv rfl rfl (.inl rfl) (by kernel_rfl) rfl rfl) ?_
    clear st; intro a11 w11 hbr st; have hs11 := hbr.size; have hb := up hb hbr; clear hbr
    refine sym_op st 23 (Fact.eq (.int .i64 (j : Int))) rfl (Nat.le_of_ble_eq_true rfl) rfl rfl (by kernel_rfl) (ob_copy 7 23 (.inl rfl) rfl (.inl rfl) (by kernel_rfl) rfl) ?_
    clear st; intro a12 w12 hbr st; have hs12 := hbr.size; have hb := up hb hbr; clear hbr
    refine sym_op st 24 (Fact.eq (.int .i64 ((32 * j : Nat) : Int))) rfl (Nat.le_of_ble_eq_true rfl) rfl rfl (by kernel_rfl) (ob_cmul 23 24 32 (j : Int) ((32 * j : Nat) : Int) _ _ hm32 rfl rfl (.inl rfl) (by kernel_rfl) rfl rfl) ?_
    clear st; intro a13 w13 hbr st; have hs13 := hbr.size; have hb := up hb hbr; clear hbr
    refine sym_op st 25 (Fact.eq (.int .u64 (((Nm.nat p)[j] * 2 ^ (32 * j) : Nat) : Int))) rfl (Nat.le_of_ble_eq_true rfl) rfl rfl (by kernel_rfl) (ob_shl 22 24 25 (((Nm.nat p)[j] : Nat) : Int) ((32 * j : Nat) : Int) (((Nm.nat p)[j] * 2 ^ (32 * j) : Nat) : Int) _ _ (by omega) (by omega) hsh rfl rfl (.inl rfl) (by kernel_rfl) (by kernel_rfl) rfl rfl rfl) ?_
    clear st; intro a14 w14 hbr st; have hs14 := hbr.size; have hb := up hb hbr; clear hbr
    refine sym_op st 26 (Fact.eq (.int .u64 ((Nm.val ((Nm.nat p).take (j + 1)) : Nat) : Int))) rfl (Nat.le_of_ble_eq_true rfl) rfl rfl (by kernel_rfl) (ob_or64 20 25 26 (Nm.val ((Nm.nat p).take j)) ((Nm.nat p)[j] * 2 ^ (32 * j)) (Nm.val ((Nm.nat p).take (j + 1))) _ _ hor.2.2 hor.2.1 hor.1 rfl rfl (.inl rfl) (by kernel_rfl) (by kernel_rfl) rfl rfl rfl) ?_
    clear st; intro a15 w15 hbr st; have hs15 := hbr.size; have hb := up hb hbr; clear hbr
    have st := st.to (ks' := [(0, Fact.eq (.bool false)), (13, Fact.rown k p), (14, Fact.eq (.int .i64 ((Nm.nat p).length : Int))), (15, Fact.eq (.int .i64 (j : Int))), (7, Fact.eq (.int .i64 (j : Int))), (8, Fact.eq (.int .u32 (((Nm.nat p)[j] : Nat) : Int))), (20, Fact.eq (.int .u64 ((Nm.val ((Nm.nat p).take j) : Nat) : Int))), (21, Fact.eq (.int .u32 (((Nm.nat p)[j] : Nat) : Int))), (22, Fact.eq (.int .u64 (((Nm.nat p)[j] : Nat) : Int))), (23, Fact.eq (.int .i64 (j : Int))), (24, Fact.eq (.int .i64 ((32 * j : Nat) : Int))), (25, Fact.eq (.int .u64 (((Nm.nat p)[j] * 2 ^ (32 * j) : Nat) : Int))), (26, Fact.eq (.int .u64 ((Nm.val ((Nm.nat p).take (j + 1)) : Nat) : Int)))]) (fcs ⟨st.at_ 0, fcs ⟨st.at_ 13, fcs ⟨st.at_ 14, fcs ⟨st.at_ 15, fcs ⟨st.at_ 7, fcs ⟨st.at_ 8, fcs ⟨st.at_ 20, fcs ⟨st.at_ 21, fcs ⟨st.at_ 22, fcs ⟨st.at_ 23, fcs ⟨st.at_ 24, fcs ⟨st.at_ 25, fcs ⟨st.at_ 26, fnl⟩⟩⟩⟩⟩⟩⟩⟩⟩⟩⟩⟩⟩)
    refine sym_op st 6 (Fact.eq (.int .u64 ((Nm.val ((Nm.nat p).take (j + 1)) : Nat) : Int))) rfl (Nat.le_of_ble_eq_true rfl) rfl rfl (by kernel_rfl) (ob_copy 26 6 (.inr rfl) rfl (.inl rfl) (by kernel_rfl) rfl) ?_
    clear st; intro a16 w16 hbr st; have hs16 := hbr.size; have hb := up hb hbr; clear hbr
    refine wpList_nil ?_
    refine inBlock_normal ?_
    refine then_normal ?_
    refine wp_region_lit ?_
    refine sym_op st 27 (Fact.eq (.int .i64 ((j + 1 : Nat) : Int))) rfl (Nat.le_of_ble_eq_true rfl) rfl rfl (by kernel_rfl) (ob_inc 15 27 _ _ j (by omega) rfl rfl (.inl rfl) (by kernel_rfl) rfl rfl) ?_
    clear st; intro a18 w18 hbr st; have hs18 := hbr.size; have hb := up hb hbr; clear hbr
    have st := st.to (ks' := [(0, Fact.eq (.bool false)), (13, Fact.rown k p), (14, Fact.eq (.int .i64 ((Nm.nat p).length : Int))), (6, Fact.eq (.int .u64 ((Nm.val ((Nm.nat p).take (j + 1)) : Nat) : Int))), (27, Fact.eq (.int .i64 ((j + 1 : Nat) : Int)))]) (fcs ⟨st.at_ 0, fcs ⟨st.at_ 13, fcs ⟨st.at_ 14, fcs ⟨st.at_ 6, fcs ⟨st.at_ 27, fnl⟩⟩⟩⟩⟩)
    refine sym_op st 15 (Fact.eq (.int .i64 ((j + 1 : Nat) : Int))) rfl (Nat.le_of_ble_eq_true rfl) rfl rfl (by kernel_rfl) (ob_copy 27 15 (.inl rfl) rfl (.inl rfl) (by kernel_rfl) rfl) ?_
    clear st; intro a19 w19 hbr st; have hs19 := hbr.size; have hb := up hb hbr; clear hbr
    refine wpList_nil ?_
    refine then_normal ⟨_, ?_, j + 1, hj, st.to (fcs ⟨st.at_ 0, fcs ⟨st.at_ 6, fcs ⟨st.at_ 13, fcs ⟨st.at_ 14, fcs ⟨st.at_ 15, fnl⟩⟩⟩⟩⟩), hb, rfl⟩
    · omega
  · skip
    have hj : j = (Nm.nat p).length := by have := of_decide_eq_false hlt; omega
    have hvl : Nm.val ((Nm.nat p).take j) = p := by rw [hj, List.take_length, Nm.val_nat]
    rw [hvl] at st
    refine wp_exit ?_
    refine then_exit ?_
    refine then_exit ?_
    refine inBlock_exit ?_
    refine then_normal ?_
    refine wp_seq ?_
    refine wp_block ?_
    refine wp_seq ?_
    refine sym_region st [(29, Fact.eq (.bool false)), (30, Fact.eq (.bool false)), (31, Fact.eq undef), (32, Fact.eq undef), (33, Fact.eq (.bool false)), (28, Fact.eq (.bool false))] [] 6 (by kernel_rfl) (by kernel_rfl) (by kernel_rfl) (Nat.le_of_ble_eq_true rfl) (by kernel_rfl) rfl rfl ?_ ?_
    · refine fcs ⟨Ob.new_ (ob_copy 0 29 (.inl rfl) rfl (.inl rfl) (by kernel_rfl) rfl) (by kernel_rfl), ?_⟩
      refine fcs ⟨Ob.new_ (ob_copy 29 30 (.inl rfl) rfl (.inl rfl) (by kernel_rfl) rfl) (by kernel_rfl), ?_⟩
      refine fcs ⟨Ob.new_ (ob_skip 1 30 31 true rfl rfl (by kernel_rfl) (by decide) rfl rfl rfl) (by kernel_rfl), ?_⟩
      refine fcs ⟨Ob.new_ (ob_skip 1 30 32 true rfl rfl (by kernel_rfl) (by decide) rfl rfl rfl) (by kernel_rfl), ?_⟩
      refine fcs ⟨Ob.new_ (ob_pick_no 30 32 33 (.bool false) rfl rfl (.inl rfl) (by kernel_rfl) rfl rfl) (by kernel_rfl), ?_⟩
      refine fcs ⟨Ob.new_ (ob_copy 33 28 (.inr rfl) rfl (.inl rfl) (by kernel_rfl) rfl) (by kernel_rfl), ?_⟩
      exact fnl
    intro a20 w20 st20 hbr20 hfr
    have hs20 := hbr20.size
    have hb := up hb hbr20
    have st : St 46 [(0, Fact.eq (.bool false)), (6, Fact.eq (.int .u64 ((p : Nat) : Int))), (28, Fact.eq (.bool false))] a20 w20 := st20.to (fcs ⟨st20.at_ 0, fcs ⟨st20.at_ 6, fcs ⟨st20.at_ 28, fnl⟩⟩⟩)
    clear st20 hbr20 hfr
    refine wpList_nil ?_
    refine then_normal ?_
    refine wp_cond_false (st.at_ 28) ?_
    refine wp_seq ?_
    refine sym_region st [(38, Fact.eq (.bool false)), (39, Fact.eq (.bool true)), (40, Fact.eq (.bool true)), (41, Fact.eq (.int .u64 ((p : Nat) : Int))), (42, Fact.eq (.bool true)), (43, Fact.eq (.bool true)), (37, Fact.eq (.bool true))] [] 7 (by kernel_rfl) (by kernel_rfl) (by kernel_rfl) (Nat.le_of_ble_eq_true rfl) (by kernel_rfl) rfl rfl ?_ ?_
    · refine fcs ⟨Ob.new_ (ob_copy 0 38 (.inl rfl) rfl (.inl rfl) (by kernel_rfl) rfl) (by kernel_rfl), ?_⟩
      refine fcs ⟨Ob.new_ (ob_not 38 39 false true rfl rfl rfl (.inl rfl) (by kernel_rfl) rfl rfl) (by kernel_rfl), ?_⟩
      refine fcs ⟨Ob.new_ (ob_copy 39 40 (.inl rfl) rfl (.inl rfl) (by kernel_rfl) rfl) (by kernel_rfl), ?_⟩
      refine fcs ⟨Ob.new_ (ob_copy 6 41 (.inl rfl) rfl (.inr ⟨_, _, _, rfl, rfl, by kernel_rfl, by decide, rfl⟩) (by kernel_rfl) rfl) (by kernel_rfl), ?_⟩
      refine fcs ⟨Ob.new_ (ob_ltc 41 42 .u64 45 _ ((p : Nat) : Int) 9223372036854775808 true (decide_eq_true (by omega)) rfl rfl (.inr ⟨_, _, _, rfl, rfl, by kernel_rfl, by decide, rfl⟩) (by kernel_rfl) rfl rfl) (by kernel_rfl), ?_⟩
      refine fcs ⟨Ob.new_ (ob_pick 40 42 43 _ rfl rfl (.inl rfl) (by kernel_rfl) (by kernel_rfl) rfl rfl) (by kernel_rfl), ?_⟩
      refine fcs ⟨Ob.new_ (ob_copy 43 37 (.inr rfl) rfl (.inl rfl) (by kernel_rfl) rfl) (by kernel_rfl), ?_⟩
      exact fnl
    intro a21 w21 st21 hbr21 hfr
    have hs21 := hbr21.size
    have hb := up hb hbr21
    have st : St 46 [(6, Fact.eq (.int .u64 ((p : Nat) : Int))), (37, Fact.eq (.bool true))] a21 w21 := st21.to (fcs ⟨st21.at_ 6, fcs ⟨st21.at_ 37, fnl⟩⟩)
    clear st21 hbr21 hfr
    refine wpList_nil ?_
    refine then_normal ?_
    refine wp_cond_true (st.at_ 37) ?_
    refine wp_seq ?_
    refine sym_region st [(44, Fact.eq (.int .u64 ((p : Nat) : Int))), (45, Fact.eq (.int .i64 (p : Int))), (4, Fact.eq (.int .i64 (p : Int))), (5, Fact.eq (.bool true))] [] 4 (by kernel_rfl) (by kernel_rfl) (by kernel_rfl) (Nat.le_of_ble_eq_true rfl) (by kernel_rfl) rfl rfl ?_ ?_
    · refine fcs ⟨Ob.new_ (ob_copy 6 44 (.inl rfl) rfl (.inl rfl) (by kernel_rfl) rfl) (by kernel_rfl), ?_⟩
      refine fcs ⟨Ob.new_ (ob_convi64 44 45 ((p : Nat) : Int) (p : Int) hc rfl rfl (.inl rfl) (by kernel_rfl) rfl rfl) (by kernel_rfl), ?_⟩
      refine fcs ⟨Ob.new_ (ob_copy 45 4 (.inr rfl) rfl (.inl rfl) (by kernel_rfl) rfl) (by kernel_rfl), ?_⟩
      refine fcs ⟨Ob.new_ (ob_const (.bool true) 5 (.inr rfl) rfl (.inl rfl) rfl) (by kernel_rfl), ?_⟩
      exact fnl
    intro a22 w22 st22 hbr22 hfr
    have hs22 := hbr22.size
    have hb := up hb hbr22
    have st : St 46 [(4, Fact.eq (.int .i64 (p : Int))), (5, Fact.eq (.bool true))] a22 w22 := st22.to (fcs ⟨st22.at_ 4, fcs ⟨st22.at_ 5, fnl⟩⟩)
    clear st22 hbr22 hfr
    refine wpList_nil ?_
    refine then_normal ?_
    refine wp_ret ?_
    exact sym_ret2 rfl st.defers (resAt_tmp st 4) (resAt_tmp st 5) hb (fun v u h1 h2 => ⟨v, u, rfl, h1, h2⟩)
set_option maxRecDepth 100000 in
theorem s_pos0 (k p : Nat) (h : 9223372036854775808 ≤ p) (hp : p < 18446744073709551616) : ∀ v0 v1 w, (Fact.eq (.bool false)).holds v0 w → (Fact.agg (Con.nn k p)).holds v1 w → Calls Tryd.prog 52 #[v0, v1] w (Ret (Fact.two (Fact.eq (.int .i64 0)) (Fact.eq (.bool false))) w) := by
  intro v0 v1 w hv0 hv1
  refine sym_calls 46 [(0, Fact.eq (.bool false)), (1, Fact.agg (Con.nn k p))] Tryd.func52 rfl rfl (Nat.le_of_ble_eq_true rfl) (fcs ⟨⟨Nat.le_of_ble_eq_true rfl, hv0⟩, fcs ⟨⟨Nat.le_of_ble_eq_true rfl, hv1⟩, fnl⟩⟩) fun a st => ?_
  have hb := Below.refl w.heap.size w
  refine wp_seq ?_
  refine sym_region st [(3, Fact.var' (Con.nn k p)), (4, Fact.eq (.int .i64 0)), (5, Fact.eq (.bool false))] [3] 3 (by kernel_rfl) (by kernel_rfl) (by kernel_rfl) (Nat.le_of_ble_eq_true rfl) (by kernel_rfl) rfl rfl ?_ ?_
  · refine fcs ⟨obn_box 24 1 3 _ (Con.nn k p) rfl rfl rfl (by kernel_rfl) rfl rfl, ?_⟩
    refine fcs ⟨Ob.new_ (ob_const (.int .i64 0) 4 (.inr rfl) rfl (.inl rfl) rfl) (by kernel_rfl), ?_⟩
    refine fcs ⟨Ob.new_ (ob_const (.bool false) 5 (.inr rfl) rfl (.inl rfl) rfl) (by kernel_rfl), ?_⟩
    exact fnl
  intro a1 w1 st1 hbr1 hfr
  have hs1 := hbr1.size
  have hb := up hb hbr1
  obtain ⟨b3, c3⟩ := (show (Fact.var' (Con.nn k p)).holds _ _ from st1.at_ 3)
  have g3 := hfr.ge (s := 3) rfl c3.1
  have st : St 46 [(0, Fact.eq (.bool false)), (3, Fact.cell b3 (Con.nn k p)), (4, Fact.eq (.int .i64 0)), (5, Fact.eq (.bool false))] a1 w1 := st1.to (fcs ⟨st1.at_ 0, fcs ⟨c3, fcs ⟨st1.at_ 4, fcs ⟨st1.at_ 5, fnl⟩⟩⟩⟩)
  clear st1 hbr1 hfr c3
  refine wpList_nil ?_
  refine then_normal ?_
  refine wp_seq ?_
  refine wp_seq ?_
  refine sym_region st [(9, Fact.agg (Con.nn k p)), (10, Fact.eq (.int .i64 (Nm.blen p : Int))), (11, Fact.eq (.bool false))] [] 3 (by kernel_rfl) (by kernel_rfl) (by kernel_rfl) (Nat.le_of_ble_eq_true rfl) (by kernel_rfl) rfl rfl ?_ ?_
  · refine fcs ⟨Ob.new_ (ob_read 24 3 9 (Con.nn k p) rfl rfl (.inl rfl) (by kernel_rfl) points_cell rfl row24 info24) (by kernel_rfl), ?_⟩
    refine fcs ⟨Ob.new_ (ob_call1 55 9 10 _ rfl rfl (.inl rfl) (by kernel_rfl) (by kernel_rfl) (n_bits k p _ rfl)) (by kernel_rfl), ?_⟩
    refine fcs ⟨Ob.new_ (ob_gtc 10 11 .i64 3 _ (Nm.blen p : Int) 64 false ((blen_64 p).trans (decide_eq_false (by omega))) rfl rfl (.inl rfl) (by kernel_rfl) rfl rfl) (by kernel_rfl), ?_⟩
    exact fnl
  intro a2 w2 st2 hbr2 hfr
  have hs2 := hbr2.size
  have hb := up hb hbr2
  have st : St 46 [(0, Fact.eq (.bool false)), (3, Fact.cell b3 (Con.nn k p)), (4, Fact.eq (.int .i64 0)), (5, Fact.eq (.bool false)), (11, Fact.eq (.bool false))] a2 w2 := st2.to (fcs ⟨st2.at_ 0, fcs ⟨st2.at_ 3, fcs ⟨st2.at_ 4, fcs ⟨st2.at_ 5, fcs ⟨st2.at_ 11, fnl⟩⟩⟩⟩⟩)
  clear st2 hbr2 hfr
  refine wpList_nil ?_
  refine then_normal ?_
  refine wp_cond_false (st.at_ 11) ?_
  refine wp_skip ?_
  refine then_normal ?_
  refine wp_seq ?_
  refine sym_region st [(6, Fact.eq (.int .u64 0))] [] 1 (by kernel_rfl) (by kernel_rfl) (by kernel_rfl) (Nat.le_of_ble_eq_true rfl) (by kernel_rfl) rfl rfl ?_ ?_
  · refine fcs ⟨Ob.new_ (ob_const (.int .u64 0) 6 (.inr rfl) rfl (.inl rfl) rfl) (by kernel_rfl), ?_⟩
    exact fnl
  intro a3 w3 st3 hbr3 hfr
  have hs3 := hbr3.size
  have hb := up hb hbr3
  have st : St 46 [(0, Fact.eq (.bool false)), (3, Fact.cell b3 (Con.nn k p)), (4, Fact.eq (.int .i64 0)), (5, Fact.eq (.bool false)), (6, Fact.eq (.int .u64 0))] a3 w3 := st3.to (fcs ⟨st3.at_ 0, fcs ⟨st3.at_ 3, fcs ⟨st3.at_ 4, fcs ⟨st3.at_ 5, fcs ⟨st3.at_ 6, fnl⟩⟩⟩⟩⟩)
  clear st3 hbr3 hfr
  refine wpList_nil ?_
  refine then_normal ?_
  refine wp_seq ?_
  refine wp_seq ?_
  refine sym_region st [(12, Fact.ptr (Con.nn k p)), (13, Fact.rown k p), (14, Fact.eq (.int .i64 ((Nm.nat p).length : Int))), (15, Fact.eq (.int .i64 0))] [] 4 (by kernel_rfl) (by kernel_rfl) (by kernel_rfl) (Nat.le_of_ble_eq_true rfl) (by kernel_rfl) rfl rfl ?_ ?_
  · refine fcs ⟨Ob.new_ (ob_addr 24 0 3 12 0 (Con.nn k p) (Con.nn k p) rfl rfl (.inl rfl) (by kernel_rfl) points_cell rfl (Con.Sub.refl _) field24_0) (by kernel_rfl), ?_⟩
    refine fcs ⟨Ob.new_ (ob_loadrow 12 13 k p rfl rfl (.inl rfl) (by kernel_rfl) points_ptr rfl) (by kernel_rfl), ?_⟩
    refine fcs ⟨Ob.new_ (ob_len 13 14 (Nm.nat p).length 22 rfl (by kernel_rfl) rfl (.inl rfl) (by kernel_rfl) len_rown rfl) (by kernel_rfl), ?_⟩
    refine fcs ⟨Ob.new_ (ob_const (.int .i64 0) 15 (.inl rfl) rfl (.inl rfl) rfl) (by kernel_rfl), ?_⟩
    exact fnl
  intro a4 w4 st4 hbr4 hfr
  have hs4 := hbr4.size
  have hb := up hb hbr4
  have st : St 46 [(0, Fact.eq (.bool false)), (4, Fact.eq (.int .i64 0)), (5, Fact.eq (.bool false)), (6, Fact.eq (.int .u64 0)), (13, Fact.rown k p), (14, Fact.eq (.int .i64 ((Nm.nat p).length : Int))), (15, Fact.eq (.int .i64 0))] a4 w4 := st4.to (fcs ⟨st4.at_ 0, fcs ⟨st4.at_ 4, fcs ⟨st4.at_ 5, fcs ⟨st4.at_ 6, fcs ⟨st4.at_ 13, fcs ⟨st4.at_ 14, fcs ⟨st4.at_ 15, fnl⟩⟩⟩⟩⟩⟩⟩)
  clear st4 hbr4 hfr
  refine wpList_nil ?_
  refine then_normal ?_
  refine wp_block ?_
  refine wp_loop_ghost (fun n a w0 => ∃ (j : Nat), (j ≤ (Nm.nat p).length) ∧ St 46 [(0, Fact.eq (.bool false)), (6, Fact.eq (.int .u64 ((Nm.val ((Nm.nat p).take j) : Nat) : Int))), (13, Fact.rown k p), (14, Fact.eq (.int .i64 ((Nm.nat p).length : Int))), (15, Fact.eq (.int .i64 (j : Int)))] a w0 ∧ Below w.heap.size w w0 ∧ (Nm.nat p).length - j = n) ((Nm.nat p).length - 0) ⟨0, Nat.zero_le _, st.to (fcs ⟨st.at_ 0, fcs ⟨st.at_ 6, fcs ⟨st.at_ 13, fcs ⟨st.at_ 14, fcs ⟨st.at_ 15, fnl⟩⟩⟩⟩⟩), hb, rfl⟩ ?_
  clear st hb
  rintro n a w5 ⟨j, hjl, st, hb, rfl⟩
  have hs0 := hb.size
  refine wp_seq ?_
  refine sym_region st [(16, Fact.eq (.bool (decide ((j : Int) < ((Nm.nat p).length : Int)))))] [] 1 (by kernel_rfl) (by kernel_rfl) (by kernel_rfl) (Nat.le_of_ble_eq_true rfl) (by kernel_rfl) rfl rfl ?_ ?_
  · refine fcs ⟨Ob.new_ (ob_lt2 15 14 16 .i64 _ _ (j : Int) ((Nm.nat p).length : Int) (decide ((j : Int) < ((Nm.nat p).length : Int))) rfl rfl rfl (.inl rfl) (by kernel_rfl) (by kernel_rfl) rfl rfl rfl) (by kernel_rfl), ?_⟩
    exact fnl
  intro a6 w6 st6 hbr6 hfr
  have hs6 := hbr6.size
  have hb := up hb hbr6
  have st : St 46 [(0, Fact.eq (.bool false)), (6, Fact.eq (.int .u64 ((Nm.val ((Nm.nat p).take j) : Nat) : Int))), (13, Fact.rown k p), (14, Fact.eq (.int .i64 ((Nm.nat p).length : Int))), (15, Fact.eq (.int .i64 (j : Int))), (16, Fact.eq (.bool (decide ((j : Int) < ((Nm.nat p).length : Int)))))] a6 w6 := st6.to (fcs ⟨st6.at_ 0, fcs ⟨st6.at_ 6, fcs ⟨st6.at_ 13, fcs ⟨st6.at_ 14, fcs ⟨st6.at_ 15, fcs ⟨st6.at_ 16, fnl⟩⟩⟩⟩⟩⟩)
  clear st6 hbr6 hfr
  refine wpList_nil ?_
  refine then_normal ?_
  refine wp_seq ?_
  refine wp_cond_split (st.at_ 16) (fun hlt => ?_) (fun hlt => ?_)
  · skip
    have hj : j < (Nm.nat p).length := by have := of_decide_eq_true hlt; omega
    have hdg := Nm.dig_nat p
    have hl2 := nat_len2 hp
    have hor := or_step hdg hl2 j hj
    have hz := hdg.at_ hj
    have hcv : IntKind.u64.wrap (((Nm.nat p)[j] : Nat) : Int) = (((Nm.nat p)[j] : Nat) : Int) := wrap64 hz
    have hm32 : IntKind.i64.wrap (32 * (j : Int)) = ((32 * j : Nat) : Int) := by rw [show ((32 * j : Nat) : Int) = 32 * (j : Int) from by omega]; exact IntWalk.i64_in _ (by omega)
    have hsh : IntKind.u64.wrap ((((Nm.nat p)[j] : Nat) : Int) * 2 ^ (((32 * j : Nat) : Int)).toNat) = (((Nm.nat p)[j] * 2 ^ (32 * j) : Nat) : Int) := by
      rw [Int.toNat_natCast, show (((Nm.nat p)[j] : Nat) : Int) * 2 ^ (32 * j) = (((Nm.nat p)[j] * 2 ^ (32 * j) : Nat) : Int) from by push_cast; rfl, IntKind.wrap_u64]
      have := hor.2.1
      omega
    refine wp_skip ?_
    refine then_normal ?_
    refine wp_seq ?_
    refine wp_block ?_
    refine wp_seq ?_
    refine sym_region st [(17, Fact.eq (.int .i64 (j : Int))), (18, Fact.dptr (Nm.nat p)[j]), (19, Fact.eq (.int .u32 (((Nm.nat p)[j] : Nat) : Int))), (7, Fact.eq (.int .i64 (j : Int))), (8, Fact.eq (.int .u32 (((Nm.nat p)[j] : Nat) : Int)))] [] 5 (by kernel_rfl) (by kernel_rfl) (by kernel_rfl) (Nat.le_of_ble_eq_true rfl) (by kernel_rfl) rfl rfl ?_ ?_
    · refine fcs ⟨Ob.new_ (ob_copy 15 17 (.inl rfl) rfl (.inl rfl) (by kernel_rfl) rfl) (by kernel_rfl), ?_⟩
      refine fcs ⟨Ob.new_ (ob_digptr 13 15 18 k p j _ rfl hj rfl rfl (.inl rfl) (by kernel_rfl) (by kernel_rfl) rfl rfl rfl) (by kernel_rfl), ?_⟩
      refine fcs ⟨Ob.new_ (ob_loaddig 18 19 (Nm.nat p)[j] rfl rfl (.inl rfl) (by kernel_rfl) rfl rfl) (by kernel_rfl), ?_⟩
      refine fcs ⟨Ob.new_ (ob_copy 17 7 (.inr rfl) rfl (.inl rfl) (by kernel_rfl) rfl) (by kernel_rfl), ?_⟩
      refine fcs ⟨Ob.new_ (ob_copy 19 8 (.inr rfl) rfl (.inl rfl) (by kernel_rfl) rfl) (by kernel_rfl), ?_⟩
      exact fnl
    intro a7 w7 st7 hbr7 hfr
    have hs7 := hbr7.size
    have hb := up hb hbr7
    have st : St 46 [(0, Fact.eq (.bool false)), (6, Fact.eq (.int .u64 ((Nm.val ((Nm.nat p).take j) : Nat) : Int))), (13, Fact.rown k p), (14, Fact.eq (.int .i64 ((Nm.nat p).length : Int))), (15, Fact.eq (.int .i64 (j : Int))), (7, Fact.eq (.int .i64 (j : Int))), (8, Fact.eq (.int .u32 (((Nm.nat p)[j] : Nat) : Int)))] a7 w7 := st7.to (fcs ⟨st7.at_ 0, fcs ⟨st7.at_ 6, fcs ⟨st7.at_ 13, fcs ⟨st7.at_ 14, fcs ⟨st7.at_ 15, fcs ⟨st7.at_ 7, fcs ⟨st7.at_ 8, fnl⟩⟩⟩⟩⟩⟩⟩)
    clear st7 hbr7 hfr
    refine wpList_nil ?_
    refine then_normal ?_
    refine wp_region_lit ?_
    refine sym_op st 20 (Fact.eq (.int .u64 ((Nm.val ((Nm.nat p).take j) : Nat) : Int))) rfl (Nat.le_of_ble_eq_true rfl) rfl rfl (by kernel_rfl) (ob_copy 6 20 (.inl rfl) rfl (.inl rfl) (by kernel_rfl) rfl) ?_
    clear st; intro a9 w9 hbr st; have hs9 := hbr.size; have hb := up hb hbr; clear hbr
    refine sym_op st 21 (Fact.eq (.int .u32 (((Nm.nat p)[j] : Nat) : Int))) rfl (Nat.le_of_ble_eq_true rfl) rfl rfl (by kernel_rfl) (ob_copy 8 21 (.inl rfl) rfl (.inl rfl) (by kernel_rfl) rfl) ?_
    clear st; intro a10 w10 hbr st; have hs10 := hbr.size; have hb := up hb hbr; clear hbr
    refine sym_op st 22 (Fact.eq (.int .u64 (((Nm.nat p)[j] : Nat) : Int))) rfl (Nat.le_of_ble_eq_true rfl) rfl rfl (by kernel_rfl) (ob_conv3264 21 22 (((Nm.nat p)[j] : Nat) : Int) (((Nm.nat p)[j] : Nat) : Int) hcv rfl rfl (.inl rfl) (by kernel_rfl) rfl rfl) ?_
    clear st; intro a11 w11 hbr st; have hs11 := hbr.size; have hb := up hb hbr; clear hbr
    refine sym_op st 23 (Fact.eq (.int .i64 (j : Int))) rfl (Nat.le_of_ble_eq_true rfl) rfl rfl (by kernel_rfl) (ob_copy 7 23 (.inl rfl) rfl (.inl rfl) (by kernel_rfl) rfl) ?_
    clear st; intro a12 w12 hbr st; have hs12 := hbr.size; have hb := up hb hbr; clear hbr
    refine sym_op st 24 (Fact.eq (.int .i64 ((32 * j : Nat) : Int))) rfl (Nat.le_of_ble_eq_true rfl) rfl rfl (by kernel_rfl) (ob_cmul 23 24 32 (j : Int) ((32 * j : Nat) : Int) _ _ hm32 rfl rfl (.inl rfl) (by kernel_rfl) rfl rfl) ?_
    clear st; intro a13 w13 hbr st; have hs13 := hbr.size; have hb := up hb hbr; clear hbr
    refine sym_op st 25 (Fact.eq (.int .u64 (((Nm.nat p)[j] * 2 ^ (32 * j) : Nat) : Int))) rfl (Nat.le_of_ble_eq_true rfl) rfl rfl (by kernel_rfl) (ob_shl 22 24 25 (((Nm.nat p)[j] : Nat) : Int) ((32 * j : Nat) : Int) (((Nm.nat p)[j] * 2 ^ (32 * j) : Nat) : Int) _ _ (by omega) (by omega) hsh rfl rfl (.inl rfl) (by kernel_rfl) (by kernel_rfl) rfl rfl rfl) ?_
    clear st; intro a14 w14 hbr st; have hs14 := hbr.size; have hb := up hb hbr; clear hbr
    refine sym_op st 26 (Fact.eq (.int .u64 ((Nm.val ((Nm.nat p).take (j + 1)) : Nat) : Int))) rfl (Nat.le_of_ble_eq_true rfl) rfl rfl (by kernel_rfl) (ob_or64 20 25 26 (Nm.val ((Nm.nat p).take j)) ((Nm.nat p)[j] * 2 ^ (32 * j)) (Nm.val ((Nm.nat p).take (j + 1))) _ _ hor.2.2 hor.2.1 hor.1 rfl rfl (.inl rfl) (by kernel_rfl) (by kernel_rfl) rfl rfl rfl) ?_
    clear st; intro a15 w15 hbr st; have hs15 := hbr.size; have hb := up hb hbr; clear hbr
    have st := st.to (ks' := [(0, Fact.eq (.bool false)), (13, Fact.rown k p), (14, Fact.eq (.int .i64 ((Nm.nat p).length : Int))), (15, Fact.eq (.int .i64 (j : Int))), (7, Fact.eq (.int .i64 (j : Int))), (8, Fact.eq (.int .u32 (((Nm.nat p)[j] : Nat) : Int))), (20, Fact.eq (.int .u64 ((Nm.val ((Nm.nat p).take j) : Nat) : Int))), (21, Fact.eq (.int .u32 (((Nm.nat p)[j] : Nat) : Int))), (22, Fact.eq (.int .u64 (((Nm.nat p)[j] : Nat) : Int))), (23, Fact.eq (.int .i64 (j : Int))), (24, Fact.eq (.int .i64 ((32 * j : Nat) : Int))), (25, Fact.eq (.int .u64 (((Nm.nat p)[j] * 2 ^ (32 * j) : Nat) : Int))), (26, Fact.eq (.int .u64 ((Nm.val ((Nm.nat p).take (j + 1)) : Nat) : Int)))]) (fcs ⟨st.at_ 0, fcs ⟨st.at_ 13, fcs ⟨st.at_ 14, fcs ⟨st.at_ 15, fcs ⟨st.at_ 7, fcs ⟨st.at_ 8, fcs ⟨st.at_ 20, fcs ⟨st.at_ 21, fcs ⟨st.at_ 22, fcs ⟨st.at_ 23, fcs ⟨st.at_ 24, fcs ⟨st.at_ 25, fcs ⟨st.at_ 26, fnl⟩⟩⟩⟩⟩⟩⟩⟩⟩⟩⟩⟩⟩)
    refine sym_op st 6 (Fact.eq (.int .u64 ((Nm.val ((Nm.nat p).take (j + 1)) : Nat) : Int))) rfl (Nat.le_of_ble_eq_true rfl) rfl rfl (by kernel_rfl) (ob_copy 26 6 (.inr rfl) rfl (.inl rfl) (by kernel_rfl) rfl) ?_
    clear st; intro a16 w16 hbr st; have hs16 := hbr.size; have hb := up hb hbr; clear hbr
    refine wpList_nil ?_
    refine inBlock_normal ?_
    refine then_normal ?_
    refine wp_region_lit ?_
    refine sym_op st 27 (Fact.eq (.int .i64 ((j + 1 : Nat) : Int))) rfl (Nat.le_of_ble_eq_true rfl) rfl rfl (by kernel_rfl) (ob_inc 15 27 _ _ j (by omega) rfl rfl (.inl rfl) (by kernel_rfl) rfl rfl) ?_
    clear st; intro a18 w18 hbr st; have hs18 := hbr.size; have hb := up hb hbr; clear hbr
    have st := st.to (ks' := [(0, Fact.eq (.bool false)), (13, Fact.rown k p), (14, Fact.eq (.int .i64 ((Nm.nat p).length : Int))), (6, Fact.eq (.int .u64 ((Nm.val ((Nm.nat p).take (j + 1)) : Nat) : Int))), (27, Fact.eq (.int .i64 ((j + 1 : Nat) : Int)))]) (fcs ⟨st.at_ 0, fcs ⟨st.at_ 13, fcs ⟨st.at_ 14, fcs ⟨st.at_ 6, fcs ⟨st.at_ 27, fnl⟩⟩⟩⟩⟩)
    refine sym_op st 15 (Fact.eq (.int .i64 ((j + 1 : Nat) : Int))) rfl (Nat.le_of_ble_eq_true rfl) rfl rfl (by kernel_rfl) (ob_copy 27 15 (.inl rfl) rfl (.inl rfl) (by kernel_rfl) rfl) ?_
    clear st; intro a19 w19 hbr st; have hs19 := hbr.size; have hb := up hb hbr; clear hbr
    refine wpList_nil ?_
    refine then_normal ⟨_, ?_, j + 1, hj, st.to (fcs ⟨st.at_ 0, fcs ⟨st.at_ 6, fcs ⟨st.at_ 13, fcs ⟨st.at_ 14, fcs ⟨st.at_ 15, fnl⟩⟩⟩⟩⟩), hb, rfl⟩
    · omega
  · skip
    have hj : j = (Nm.nat p).length := by have := of_decide_eq_false hlt; omega
    have hvl : Nm.val ((Nm.nat p).take j) = p := by rw [hj, List.take_length, Nm.val_nat]
    rw [hvl] at st
    refine wp_exit ?_
    refine then_exit ?_
    refine then_exit ?_
    refine inBlock_exit ?_
    refine then_normal ?_
    refine wp_seq ?_
    refine wp_block ?_
    refine wp_seq ?_
    refine sym_region st [(29, Fact.eq (.bool false)), (30, Fact.eq (.bool false)), (31, Fact.eq undef), (32, Fact.eq undef), (33, Fact.eq (.bool false)), (28, Fact.eq (.bool false))] [] 6 (by kernel_rfl) (by kernel_rfl) (by kernel_rfl) (Nat.le_of_ble_eq_true rfl) (by kernel_rfl) rfl rfl ?_ ?_
    · refine fcs ⟨Ob.new_ (ob_copy 0 29 (.inl rfl) rfl (.inl rfl) (by kernel_rfl) rfl) (by kernel_rfl), ?_⟩
      refine fcs ⟨Ob.new_ (ob_copy 29 30 (.inl rfl) rfl (.inl rfl) (by kernel_rfl) rfl) (by kernel_rfl), ?_⟩
      refine fcs ⟨Ob.new_ (ob_skip 1 30 31 true rfl rfl (by kernel_rfl) (by decide) rfl rfl rfl) (by kernel_rfl), ?_⟩
      refine fcs ⟨Ob.new_ (ob_skip 1 30 32 true rfl rfl (by kernel_rfl) (by decide) rfl rfl rfl) (by kernel_rfl), ?_⟩
      refine fcs ⟨Ob.new_ (ob_pick_no 30 32 33 (.bool false) rfl rfl (.inl rfl) (by kernel_rfl) rfl rfl) (by kernel_rfl), ?_⟩
      refine fcs ⟨Ob.new_ (ob_copy 33 28 (.inr rfl) rfl (.inl rfl) (by kernel_rfl) rfl) (by kernel_rfl), ?_⟩
      exact fnl
    intro a20 w20 st20 hbr20 hfr
    have hs20 := hbr20.size
    have hb := up hb hbr20
    have st : St 46 [(0, Fact.eq (.bool false)), (6, Fact.eq (.int .u64 ((p : Nat) : Int))), (28, Fact.eq (.bool false))] a20 w20 := st20.to (fcs ⟨st20.at_ 0, fcs ⟨st20.at_ 6, fcs ⟨st20.at_ 28, fnl⟩⟩⟩)
    clear st20 hbr20 hfr
    refine wpList_nil ?_
    refine then_normal ?_
    refine wp_cond_false (st.at_ 28) ?_
    refine wp_seq ?_
    refine sym_region st [(38, Fact.eq (.bool false)), (39, Fact.eq (.bool true)), (40, Fact.eq (.bool true)), (41, Fact.eq (.int .u64 ((p : Nat) : Int))), (42, Fact.eq (.bool false)), (43, Fact.eq (.bool false)), (37, Fact.eq (.bool false))] [] 7 (by kernel_rfl) (by kernel_rfl) (by kernel_rfl) (Nat.le_of_ble_eq_true rfl) (by kernel_rfl) rfl rfl ?_ ?_
    · refine fcs ⟨Ob.new_ (ob_copy 0 38 (.inl rfl) rfl (.inl rfl) (by kernel_rfl) rfl) (by kernel_rfl), ?_⟩
      refine fcs ⟨Ob.new_ (ob_not 38 39 false true rfl rfl rfl (.inl rfl) (by kernel_rfl) rfl rfl) (by kernel_rfl), ?_⟩
      refine fcs ⟨Ob.new_ (ob_copy 39 40 (.inl rfl) rfl (.inl rfl) (by kernel_rfl) rfl) (by kernel_rfl), ?_⟩
      refine fcs ⟨Ob.new_ (ob_copy 6 41 (.inl rfl) rfl (.inr ⟨_, _, _, rfl, rfl, by kernel_rfl, by decide, rfl⟩) (by kernel_rfl) rfl) (by kernel_rfl), ?_⟩
      refine fcs ⟨Ob.new_ (ob_ltc 41 42 .u64 45 _ ((p : Nat) : Int) 9223372036854775808 false (decide_eq_false (by omega)) rfl rfl (.inr ⟨_, _, _, rfl, rfl, by kernel_rfl, by decide, rfl⟩) (by kernel_rfl) rfl rfl) (by kernel_rfl), ?_⟩
      refine fcs ⟨Ob.new_ (ob_pick 40 42 43 _ rfl rfl (.inl rfl) (by kernel_rfl) (by kernel_rfl) rfl rfl) (by kernel_rfl), ?_⟩
      refine fcs ⟨Ob.new_ (ob_copy 43 37 (.inr rfl) rfl (.inl rfl) (by kernel_rfl) rfl) (by kernel_rfl), ?_⟩
      exact fnl
    intro a21 w21 st21 hbr21 hfr
    have hs21 := hbr21.size
    have hb := up hb hbr21
    have st : St 46 [(6, Fact.eq (.int .u64 ((p : Nat) : Int))), (37, Fact.eq (.bool false))] a21 w21 := st21.to (fcs ⟨st21.at_ 6, fcs ⟨st21.at_ 37, fnl⟩⟩)
    clear st21 hbr21 hfr
    refine wpList_nil ?_
    refine then_normal ?_
    refine wp_cond_false (st.at_ 37) ?_
    refine wp_skip ?_
    refine inBlock_normal ?_
    refine then_normal ?_
    refine wp_seq ?_
    refine sym_region st [(4, Fact.eq (.int .i64 0)), (5, Fact.eq (.bool false))] [] 2 (by kernel_rfl) (by kernel_rfl) (by kernel_rfl) (Nat.le_of_ble_eq_true rfl) (by kernel_rfl) rfl rfl ?_ ?_
    · refine fcs ⟨Ob.new_ (ob_const (.int .i64 0) 4 (.inr rfl) rfl (.inl rfl) rfl) (by kernel_rfl), ?_⟩
      refine fcs ⟨Ob.new_ (ob_const (.bool false) 5 (.inr rfl) rfl (.inl rfl) rfl) (by kernel_rfl), ?_⟩
      exact fnl
    intro a22 w22 st22 hbr22 hfr
    have hs22 := hbr22.size
    have hb := up hb hbr22
    have st : St 46 [(4, Fact.eq (.int .i64 0)), (5, Fact.eq (.bool false))] a22 w22 := st22.to (fcs ⟨st22.at_ 4, fcs ⟨st22.at_ 5, fnl⟩⟩)
    clear st22 hbr22 hfr
    refine wpList_nil ?_
    refine then_normal ?_
    refine wp_ret ?_
    exact sym_ret2 rfl st.defers (resAt_tmp st 4) (resAt_tmp st 5) hb (fun v u h1 h2 => ⟨v, u, rfl, h1, h2⟩)
theorem q_signed (k : Nat) (s : Bool) (p : Nat) : ∀ v0 v1 w, (Fact.eq (.bool s)).holds v0 w → (Fact.agg (Con.nn k p)).holds v1 w → Calls Tryd.prog 52 #[v0, v1] w (Ret (Fact.two (Fact.eq (.int .i64 (asI (Rt.sg s p)))) (Fact.eq (.bool (fitsI (Rt.sg s p))))) w) := by
  intro v0 v1 w hv0 hv1
  by_cases hp : p < 18446744073709551616
  · cases s with
    | true =>
      by_cases h : p ≤ 9223372036854775808
      · have e : fitsI (Rt.sg true p) = true := by unfold fitsI; rw [Rt.sg_true]; exact decide_eq_true (by omega)
        rw [asI, if_pos e, e, Rt.sg_true]
        exact s_neg k p h v0 v1 w hv0 hv1
      · have e : fitsI (Rt.sg true p) = false := by unfold fitsI; rw [Rt.sg_true]; exact decide_eq_false (by omega)
        rw [asI, if_neg (by rw [e]; decide), e]
        exact s_neg0 k p (by omega) hp v0 v1 w hv0 hv1
    | false =>
      by_cases h : p < 9223372036854775808
      · have e : fitsI (Rt.sg false p) = true := by unfold fitsI; rw [Rt.sg_false]; exact decide_eq_true (by omega)
        rw [asI, if_pos e, e, Rt.sg_false]
        exact s_pos k p h v0 v1 w hv0 hv1
      · have e : fitsI (Rt.sg false p) = false := by unfold fitsI; rw [Rt.sg_false]; exact decide_eq_false (by omega)
        rw [asI, if_neg (by rw [e]; decide), e]
        exact s_pos0 k p (by omega) hp v0 v1 w hv0 hv1
  · have e := big_no (s := s) (p := p) (by omega)
    rw [asI, if_neg (by rw [e]; decide), e]
    exact s_big k s p (by omega) v0 v1 w hv0 hv1
end Go.Proofs.YtjfehdkfogdpgaaDoor
namespace Go.Proofs.YtjfehdkfogdpgaaDoor
open Go.RowKit
section
variable {ops : Array Oper} {Q : Exit → Act → World → Prop} {F : Nat → Fact} {base : List Nat} {N : Nat} {o : Oper}
end
namespace Rt
theorem floor_pos {x : Rat} (h : ng x = false) : x.floor = sg false (tp x / x.den) := by
  rw [floor_eq, ← sg_parts x, h, sg_false, sg_false]; simp
theorem floor_neg0 {x : Rat} (h : ng x = true) (hr : tp x % x.den = 0) : x.floor = sg true (tp x / x.den) := by
  rw [floor_eq, ← sg_parts x, h, sg_true, sg_true]
  have hd : (x.den : Int) ∣ (tp x : Int) := Int.ofNat_dvd.2 (Nat.dvd_of_mod_eq_zero hr)
  rw [Int.neg_ediv_of_dvd hd]; simp
theorem floor_neg1 {x : Rat} (h : ng x = true) (hr : tp x % x.den ≠ 0) : x.floor = sg true (tp x / x.den + 1) := by
  rw [floor_eq, ← sg_parts x, h, sg_true, sg_true]
  have hp : (0 : Int) < (x.den : Int) := by have := den_pos x; omega
  have hm := Nat.div_add_mod (tp x) x.den
  have hl := Nat.mod_lt (tp x) (den_pos x)
  refine ((Int.ediv_emod_unique (r := (x.den : Int) - ((tp x % x.den : Nat) : Int)) hp).2 ⟨?_, ?_, ?_⟩).1
  · have e : ((tp x : Nat) : Int) = (x.den : Int) * ((tp x / x.den : Nat) : Int) + ((tp x % x.den : Nat) : Int) := by
      rw [← Int.natCast_mul, ← Int.natCast_add, hm]
    generalize ((tp x % x.den : Nat) : Int) = r at *
    rw [show ((tp x / x.den + 1 : Nat) : Int) = ((tp x / x.den : Nat) : Int) + 1 from by omega]
    generalize ((tp x / x.den : Nat) : Int) = q at *
    rw [e, Int.mul_neg, Int.mul_add, Int.mul_one]
    generalize (x.den : Int) * q = t
    omega
  · omega
  · omega
end Rt
end Go.Proofs.YtjfehdkfogdpgaaDoor

/-
  Contracts of Cmp and Valid, and of the reference of fractions. Conditions: numbers of at most 300 digits together.
  Contracts of size and magnitude (the amount of an integer), and what an integer is as a fraction. Conditions: integers of 64 bits.
  Contracts of magnitude, Int and Ratio, and of copied. Conditions: integers of 64 bits.
  Fractions as they come in: a sign and two slices of digits that may have leading zeros. No conditions beyond those that each names.
  Contracts of Valid (both) at whatever sign and slices of digits, and of fit. Conditions: slices of at most 300 digits.
  Obligations of operations on words and on the digits of a number. No conditions beyond those that each names.
-/
import Derived.Laws.Bits64b
import Derived.Test.YtjfehdkfogdpgaaDoorOrC
namespace Go.Proofs.YtjfehdkfogdpgaaDoor
open Go.RowKit
theorem Con.tri_0 (k l : Nat) (s : Bool) (p q : Nat) : (Con.tri k l s p q).Sub 0 (Con.bool s) := (Con.Sub.refl _).left
theorem Con.tri_1 (k l : Nat) (s : Bool) (p q : Nat) : (Con.tri k l s p q).Sub 1 (Con.nn k p) := ((Con.Sub.refl _).left (D := Con.nn l q)).right (C := Con.bool s)
theorem Con.tri_2 (k l : Nat) (s : Bool) (p q : Nat) : (Con.tri k l s p q).Sub 2 (Con.nn l q) := ((Con.Sub.refl _).right (C := Con.nn k p)).right (C := Con.bool s)
theorem natlen_zero (p : Nat) : (((Nm.nat p).length : Int) == 0) = decide (p = 0) := by
  by_cases h : p = 0
  · subst h; rw [Nm.nat_zero]; rfl
  · have : (Nm.nat p).length ≠ 0 := fun e => h ((Nm.nat_nil_iff p).1 (List.eq_nil_of_length_eq_zero e))
    rw [decide_eq_false h, beq_eq_false_iff_ne]; omega
theorem q_compare (a b : Int) : ∀ v u w, (Fact.eq (.int .i64 a)).holds v w → (Fact.eq (.int .i64 b)).holds u w → Calls Tryd.prog 41 #[v, u] w (Ret (Fact.eq (.int .i64 (cmpI a b))) w) := by
  rintro v u w rfl rfl
  exact (compare_any a b w).mono fun _ _ ⟨he, hw⟩ => ⟨_, he, by subst hw; exact Below.refl _ _, rfl⟩
theorem sn_bd (x : Rat) : -1 ≤ Rt.sn x ∧ Rt.sn x ≤ 1 := by
  unfold Rt.sn
  split
  · omega
  · split <;> omega
theorem cp_of_sgn {x y : Rat} (h : (!(Rt.ng x == Rt.ng y && decide (Rt.tp x = 0) == decide (Rt.tp y = 0))) = true) : cmpI (Rt.sn x) (Rt.sn y) = Rt.cp x y := by
  have hne : Rt.sn x ≠ Rt.sn y := by
    rw [Rt.sn_eq, Rt.sn_eq]
    intro e
    have vx := Rt.vld x
    have vy := Rt.vld y
    by_cases hx : Rt.tp x = 0 <;> by_cases hy : Rt.tp y = 0 <;> cases hnx : Rt.ng x <;> cases hny : Rt.ng y <;> simp [hx, hy, hnx, hny] at h e
    · exact vy.zero hny hy
    · exact vx.zero hnx hx
  rw [Rt.cp_sn hne]
  have b1 := sn_bd x
  have b2 := sn_bd y
  unfold cmpI
  by_cases hl : Rt.sn x < Rt.sn y
  · rw [if_pos hl, if_pos hl]
  · rw [if_neg hl, if_neg hl, if_pos (by omega)]
theorem cp_of_ng {x y : Rat} (h : (!(Rt.ng x == Rt.ng y && decide (Rt.tp x = 0) == decide (Rt.tp y = 0))) = false) : Rt.ng x = Rt.ng y := Rt.same_ng (by simpa using h)
set_option maxRecDepth 100000 in
theorem q_cmpm (m : Nat) (x y : Rat) (hm : 2 * m + 1 ≤ 400) : ∀ v0 v1 w, (Fact.agg (Con.fr m x)).holds v0 w → (Fact.agg (Con.fr m y)).holds v1 w → Calls Tryd.prog 18 #[v0, v1] w (Ret (Fact.eq (.int .i64 (Rt.cp x y))) w) := by
  intro v0 v1 w hv0 hv1
  refine sym_calls 37 [(0, Fact.agg (Con.fr m x)), (1, Fact.agg (Con.fr m y))] Tryd.func18 rfl rfl (Nat.le_of_ble_eq_true rfl) (fcs ⟨⟨Nat.le_of_ble_eq_true rfl, hv0⟩, fcs ⟨⟨Nat.le_of_ble_eq_true rfl, hv1⟩, fnl⟩⟩) fun a st => ?_
  have hb := Below.refl w.heap.size w
  refine wp_seq ?_
  refine sym_region st [(2, Fact.var' (Con.fr m x)), (3, Fact.var' (Con.fr m y)), (4, Fact.eq (.int .i64 0))] [2, 3] 3 (by kernel_rfl) (by kernel_rfl) (by kernel_rfl) (Nat.le_of_ble_eq_true rfl) (by kernel_rfl) rfl rfl ?_ ?_
  · refine fcs ⟨obn_box 28 0 2 _ (Con.fr m x) rfl rfl rfl (by kernel_rfl) rfl rfl, ?_⟩
    refine fcs ⟨obn_box 28 1 3 _ (Con.fr m y) rfl rfl rfl (by kernel_rfl) rfl rfl, ?_⟩
    refine fcs ⟨Ob.new_ (ob_const (.int .i64 0) 4 (.inr rfl) rfl (.inl rfl) rfl) (by kernel_rfl), ?_⟩
    exact fnl
  intro a1 w1 st1 hbr1 hfr
  have hs1 := hbr1.size
  have hb := up hb hbr1
  obtain ⟨b2, c2⟩ := (show (Fact.var' (Con.fr m x)).holds _ _ from st1.at_ 2)
  have g2 := hfr.ge (s := 2) rfl c2.1
  obtain ⟨b3, c3⟩ := (show (Fact.var' (Con.fr m y)).holds _ _ from st1.at_ 3)
  have g3 := hfr.ge (s := 3) rfl c3.1
  have ne2_3 := hfr.apart (s := 2) (t := 3) rfl rfl (by decide) c2.1 c3.1
  have st : St 37 [(2, Fact.cell b2 (Con.fr m x)), (3, Fact.cell b3 (Con.fr m y)), (4, Fact.eq (.int .i64 0))] a1 w1 := st1.to (fcs ⟨c2, fcs ⟨c3, fcs ⟨st1.at_ 4, fnl⟩⟩⟩)
  clear st1 hbr1 hfr c2 c3
  refine wpList_nil ?_
  refine then_normal ?_
  refine wp_seq ?_
  refine wp_seq ?_
  refine sym_region st [(7, Fact.agg (Con.fr m x)), (8, Fact.agg (Con.sgn (Rt.ng x) (decide (Rt.tp x = 0)))), (9, Fact.agg (Con.fr m y)), (10, Fact.agg (Con.sgn (Rt.ng y) (decide (Rt.tp y = 0)))), (11, Fact.eq (.bool (!((Rt.ng x) == (Rt.ng y) && (decide (Rt.tp x = 0)) == (decide (Rt.tp y = 0))))))] [] 5 (by kernel_rfl) (by kernel_rfl) (by kernel_rfl) (Nat.le_of_ble_eq_true rfl) (by kernel_rfl) rfl rfl ?_ ?_
  · refine fcs ⟨Ob.new_ (ob_read 28 2 7 (Con.fr m x) rfl rfl (.inl rfl) (by kernel_rfl) points_cell rfl row26 info26) (by kernel_rfl), ?_⟩
    refine fcs ⟨Ob.new_ (ob_call1 40 7 8 _ rfl rfl (.inl rfl) (by kernel_rfl) (by kernel_rfl) (q_signOf m x)) (by kernel_rfl), ?_⟩
    refine fcs ⟨Ob.new_ (ob_read 28 3 9 (Con.fr m y) rfl rfl (.inl rfl) (by kernel_rfl) points_cell rfl row26 info26) (by kernel_rfl), ?_⟩
    refine fcs ⟨Ob.new_ (ob_call1 40 9 10 _ rfl rfl (.inl rfl) (by kernel_rfl) (by kernel_rfl) (q_signOf m y)) (by kernel_rfl), ?_⟩
    refine fcs ⟨Ob.new_ (ob_nes 8 10 11 _ (Rt.ng x) (decide (Rt.tp x = 0)) (Rt.ng y) (decide (Rt.tp y = 0)) (!((Rt.ng x) == (Rt.ng y) && (decide (Rt.tp x = 0)) == (decide (Rt.tp y = 0)))) rfl rfl rfl (.inl rfl) (by kernel_rfl) (by kernel_rfl) rfl rfl rfl) (by kernel_rfl), ?_⟩
    exact fnl
  intro a2 w2 st2 hbr2 hfr
  have hs2 := hbr2.size
  have hb := up hb hbr2
  have st : St 37 [(2, Fact.cell b2 (Con.fr m x)), (3, Fact.cell b3 (Con.fr m y)), (4, Fact.eq (.int .i64 0)), (11, Fact.eq (.bool (!((Rt.ng x) == (Rt.ng y) && (decide (Rt.tp x = 0)) == (decide (Rt.tp y = 0))))))] a2 w2 := st2.to (fcs ⟨st2.at_ 2, fcs ⟨st2.at_ 3, fcs ⟨st2.at_ 4, fcs ⟨st2.at_ 11, fnl⟩⟩⟩⟩)
  clear st2 hbr2 hfr
  refine wpList_nil ?_
  refine then_normal ?_
  refine wp_cond_split (st.at_ 11) (fun h11 => ?_) (fun h11 => ?_)
  · skip
    refine wp_seq ?_
    have st := st.to (ks' := [(2, Fact.cell b2 (Con.fr m x)), (3, Fact.cell b3 (Con.fr m y)), (11, Fact.eq (.bool (!((Rt.ng x) == (Rt.ng y) && (decide (Rt.tp x = 0)) == (decide (Rt.tp y = 0))))))]) (fcs ⟨st.at_ 2, fcs ⟨st.at_ 3, fcs ⟨st.at_ 11, fnl⟩⟩⟩)
    refine sym_region st [(12, Fact.agg (Con.fr m x)), (13, Fact.eq (.int .i64 (Rt.sn x))), (14, Fact.agg (Con.fr m y)), (15, Fact.eq (.int .i64 (Rt.sn y))), (16, Fact.eq (.int .i64 (cmpI (Rt.sn x) (Rt.sn y)))), (4, Fact.eq (.int .i64 (cmpI (Rt.sn x) (Rt.sn y))))] [] 6 (by kernel_rfl) (by kernel_rfl) (by kernel_rfl) (Nat.le_of_ble_eq_true rfl) (by kernel_rfl) rfl rfl ?_ ?_
    · refine fcs ⟨Ob.new_ (ob_read 28 2 12 (Con.fr m x) rfl rfl (.inl rfl) (by kernel_rfl) points_cell rfl row26 info26) (by kernel_rfl), ?_⟩
      refine fcs ⟨Ob.new_ (ob_call1 19 12 13 _ rfl rfl (.inl rfl) (by kernel_rfl) (by kernel_rfl) (q_sign m x)) (by kernel_rfl), ?_⟩
      refine fcs ⟨Ob.new_ (ob_read 28 3 14 (Con.fr m y) rfl rfl (.inl rfl) (by kernel_rfl) points_cell rfl row26 info26) (by kernel_rfl), ?_⟩
      refine fcs ⟨Ob.new_ (ob_call1 19 14 15 _ rfl rfl (.inl rfl) (by kernel_rfl) (by kernel_rfl) (q_sign m y)) (by kernel_rfl), ?_⟩
      refine fcs ⟨Ob.new_ (ob_call2 41 13 15 16 _ rfl rfl (.inl rfl) (by kernel_rfl) (by kernel_rfl) (by kernel_rfl) (q_compare (Rt.sn x) (Rt.sn y))) (by kernel_rfl), ?_⟩
      refine fcs ⟨Ob.new_ (ob_copy 16 4 (.inr rfl) rfl (.inl rfl) (by kernel_rfl) rfl) (by kernel_rfl), ?_⟩
      exact fnl
    intro a3 w3 st3 hbr3 hfr
    have hs3 := hbr3.size
    have hb := up hb hbr3
    have st : St 37 [(2, Fact.cell b2 (Con.fr m x)), (3, Fact.cell b3 (Con.fr m y)), (4, Fact.eq (.int .i64 (cmpI (Rt.sn x) (Rt.sn y))))] a3 w3 := st3.to (fcs ⟨st3.at_ 2, fcs ⟨st3.at_ 3, fcs ⟨st3.at_ 4, fnl⟩⟩⟩)
    clear st3 hbr3 hfr
    refine wpList_nil ?_
    refine then_normal ?_
    refine wp_ret ?_
    exact sym_ret1 rfl st.defers (resAt_tmp st 4) hb (fun v h => by rw [← cp_of_sgn h11]; exact h)
  · skip
    refine wp_skip ?_
    refine then_normal ?_
    refine wp_seq ?_
    refine sym_region st [(17, Fact.ptr (Con.nn m (Rt.tp x))), (18, Fact.agg (Con.nn m (Rt.tp x))), (19, Fact.ptr (Con.nn m (Rat.den y))), (20, Fact.agg (Con.nn m (Rat.den y))), (21, Fact.nats m [Rt.tp x, Rat.den y]), (22, Fact.agg (Con.nn (m + m) ((Rt.tp x) * (Rat.den y)))), (23, Fact.ptr (Con.nn m (Rt.tp y))), (24, Fact.agg (Con.nn m (Rt.tp y))), (25, Fact.ptr (Con.nn m (Rat.den x))), (26, Fact.agg (Con.nn m (Rat.den x))), (27, Fact.nats m [Rt.tp y, Rat.den x]), (28, Fact.agg (Con.nn (m + m) ((Rt.tp y) * (Rat.den x)))), (5, Fact.var' (Con.raw 1)), (6, Fact.var' (Con.raw 1))] [5, 6] 14 (by kernel_rfl) (by kernel_rfl) (by kernel_rfl) (Nat.le_of_ble_eq_true rfl) (by kernel_rfl) rfl rfl ?_ ?_
    · refine fcs ⟨Ob.new_ (ob_addr 28 1 2 17 1 (Con.fr m x) (Con.nn m (Rt.tp x)) rfl rfl (.inl rfl) (by kernel_rfl) points_cell rfl (Con.fr_tp m x) field26_1) (by kernel_rfl), ?_⟩
      refine fcs ⟨Ob.new_ (ob_read 24 17 18 (Con.nn m (Rt.tp x)) rfl rfl (.inl rfl) (by kernel_rfl) points_ptr rfl row24 info24) (by kernel_rfl), ?_⟩
      refine fcs ⟨Ob.new_ (ob_addr 28 2 3 19 2 (Con.fr m y) (Con.nn m (Rat.den y)) rfl rfl (.inl rfl) (by kernel_rfl) points_cell rfl (Con.fr_den m y) field26_2) (by kernel_rfl), ?_⟩
      refine fcs ⟨Ob.new_ (ob_read 24 19 20 (Con.nn m (Rat.den y)) rfl rfl (.inl rfl) (by kernel_rfl) points_ptr rfl row24 info24) (by kernel_rfl), ?_⟩
      refine fcs ⟨Ob.new_ (ob_nats2 18 20 21 m m m (Rt.tp x) (Rat.den y) (by omega) (by omega) rfl rfl (.inl rfl) (by kernel_rfl) (by kernel_rfl) rfl rfl rfl) (by kernel_rfl), ?_⟩
      refine fcs ⟨Ob.new_ (ob_call1 42 21 22 _ rfl rfl (.inl rfl) (by kernel_rfl) (by kernel_rfl) (q_product m (Rt.tp x) (Rat.den y) (by omega))) (by kernel_rfl), ?_⟩
      refine fcs ⟨Ob.new_ (ob_addr 28 1 3 23 1 (Con.fr m y) (Con.nn m (Rt.tp y)) rfl rfl (.inl rfl) (by kernel_rfl) points_cell rfl (Con.fr_tp m y) field26_1) (by kernel_rfl), ?_⟩
      refine fcs ⟨Ob.new_ (ob_read 24 23 24 (Con.nn m (Rt.tp y)) rfl rfl (.inl rfl) (by kernel_rfl) points_ptr rfl row24 info24) (by kernel_rfl), ?_⟩
      refine fcs ⟨Ob.new_ (ob_addr 28 2 2 25 2 (Con.fr m x) (Con.nn m (Rat.den x)) rfl rfl (.inl rfl) (by kernel_rfl) points_cell rfl (Con.fr_den m x) field26_2) (by kernel_rfl), ?_⟩
      refine fcs ⟨Ob.new_ (ob_read 24 25 26 (Con.nn m (Rat.den x)) rfl rfl (.inl rfl) (by kernel_rfl) points_ptr rfl row24 info24) (by kernel_rfl), ?_⟩
      refine fcs ⟨Ob.new_ (ob_nats2 24 26 27 m m m (Rt.tp y) (Rat.den x) (by omega) (by omega) rfl rfl (.inl rfl) (by kernel_rfl) (by kernel_rfl) rfl rfl rfl) (by kernel_rfl), ?_⟩
      refine fcs ⟨Ob.new_ (ob_call1 42 27 28 _ rfl rfl (.inl rfl) (by kernel_rfl) (by kernel_rfl) (q_product m (Rt.tp y) (Rat.den x) (by omega))) (by kernel_rfl), ?_⟩
      refine fcs ⟨obn_new 24 5 _ [.slice none 0 0] rfl rfl rfl rfl rfl alloc24, ?_⟩
      refine fcs ⟨obn_new 24 6 _ [.slice none 0 0] rfl rfl rfl rfl rfl alloc24, ?_⟩
      exact fnl
    intro a4 w4 st4 hbr4 hfr
    have hs4 := hbr4.size
    have hb := up hb hbr4
    obtain ⟨b5, c5⟩ := (show (Fact.var' (Con.raw 1)).holds _ _ from st4.at_ 5)
    have g5 := hfr.ge (s := 5) rfl c5.1
    obtain ⟨b6, c6⟩ := (show (Fact.var' (Con.raw 1)).holds _ _ from st4.at_ 6)
    have g6 := hfr.ge (s := 6) rfl c6.1
    have ne5_6 := hfr.apart (s := 5) (t := 6) rfl rfl (by decide) c5.1 c6.1
    have st : St 37 [(2, Fact.cell b2 (Con.fr m x)), (4, Fact.eq (.int .i64 0)), (22, Fact.agg (Con.nn (m + m) ((Rt.tp x) * (Rat.den y)))), (28, Fact.agg (Con.nn (m + m) ((Rt.tp y) * (Rat.den x)))), (5, Fact.cell b5 (Con.raw 1)), (6, Fact.cell b6 (Con.raw 1))] a4 w4 := st4.to (fcs ⟨st4.at_ 2, fcs ⟨st4.at_ 4, fcs ⟨st4.at_ 22, fcs ⟨st4.at_ 28, fcs ⟨c5, fcs ⟨c6, fnl⟩⟩⟩⟩⟩⟩)
    clear st4 hbr4 hfr c5 c6
    refine sym_store st 24 5 22 b5 (Con.raw 1) (Con.nn (m + m) ((Rt.tp x) * (Rat.den y))) [(2, Fact.cell b2 (Con.fr m x)), (4, Fact.eq (.int .i64 0)), (28, Fact.agg (Con.nn (m + m) ((Rt.tp y) * (Rat.den x)))), (5, Fact.cell b5 (Con.nn (m + m) ((Rt.tp x) * (Rat.den y)))), (6, Fact.cell b6 (Con.raw 1))] rfl rfl rfl rfl rfl rfl info24 ?_ ?_
    · exact fcs ⟨.inr ⟨rfl, safe_cell _ (by omega)⟩, fcs ⟨.inr ⟨rfl, safe_eq _ _⟩, fcs ⟨.inr ⟨rfl, safe_agg _ _⟩, fcs ⟨.inl rfl, fcs ⟨.inr ⟨rfl, safe_cell _ (by omega)⟩, fnl⟩⟩⟩⟩⟩
    clear st; intro w5 hB hsz5 st
    have hb := hB _ _ hb (by omega) (by omega)
    clear hB
    refine sym_store st 24 6 28 b6 (Con.raw 1) (Con.nn (m + m) ((Rt.tp y) * (Rat.den x))) [(2, Fact.cell b2 (Con.fr m x)), (4, Fact.eq (.int .i64 0)), (5, Fact.cell b5 (Con.nn (m + m) ((Rt.tp x) * (Rat.den y)))), (6, Fact.cell b6 (Con.nn (m + m) ((Rt.tp y) * (Rat.den x))))] rfl rfl rfl rfl rfl rfl info24 ?_ ?_
    · exact fcs ⟨.inr ⟨rfl, safe_cell _ (by omega)⟩, fcs ⟨.inr ⟨rfl, safe_eq _ _⟩, fcs ⟨.inr ⟨rfl, safe_cell _ (by omega)⟩, fcs ⟨.inl rfl, fnl⟩⟩⟩⟩
    clear st; intro w6 hB hsz6 st
    have hb := hB _ _ hb (by omega) (by omega)
    clear hB
    refine wpList_nil ?_
    refine then_normal ?_
    refine wp_seq ?_
    refine wp_seq ?_
    refine sym_region st [(29, Fact.ptr (Con.bool (Rt.ng x))), (30, Fact.eq (.bool (Rt.ng x)))] [] 2 (by kernel_rfl) (by kernel_rfl) (by kernel_rfl) (Nat.le_of_ble_eq_true rfl) (by kernel_rfl) rfl rfl ?_ ?_
    · refine fcs ⟨Ob.new_ (ob_addr 28 0 2 29 0 (Con.fr m x) (Con.bool (Rt.ng x)) rfl rfl (.inl rfl) (by kernel_rfl) points_cell rfl (Con.fr_ng m x) field26_0) (by kernel_rfl), ?_⟩
      refine fcs ⟨Ob.new_ (ob_readb 29 30 (Rt.ng x) (Rt.ng x) rfl rfl rfl (.inl rfl) (by kernel_rfl) points_ptr rfl) (by kernel_rfl), ?_⟩
      exact fnl
    intro a7 w7 st7 hbr7 hfr
    have hs7 := hbr7.size
    have hb := up hb hbr7
    have st : St 37 [(4, Fact.eq (.int .i64 0)), (5, Fact.cell b5 (Con.nn (m + m) ((Rt.tp x) * (Rat.den y)))), (6, Fact.cell b6 (Con.nn (m + m) ((Rt.tp y) * (Rat.den x)))), (30, Fact.eq (.bool (Rt.ng x)))] a7 w7 := st7.to (fcs ⟨st7.at_ 4, fcs ⟨st7.at_ 5, fcs ⟨st7.at_ 6, fcs ⟨st7.at_ 30, fnl⟩⟩⟩⟩)
    clear st7 hbr7 hfr
    refine wpList_nil ?_
    refine then_normal ?_
    refine wp_cond_split (st.at_ 30) (fun h30 => ?_) (fun h30 => ?_)
    · skip
      refine wp_seq ?_
      have st := st.to (ks' := [(5, Fact.cell b5 (Con.nn (m + m) ((Rt.tp x) * (Rat.den y)))), (6, Fact.cell b6 (Con.nn (m + m) ((Rt.tp y) * (Rat.den x)))), (30, Fact.eq (.bool (Rt.ng x)))]) (fcs ⟨st.at_ 5, fcs ⟨st.at_ 6, fcs ⟨st.at_ 30, fnl⟩⟩⟩)
      refine sym_region st [(31, Fact.agg (Con.nn (m + m) ((Rt.tp y) * (Rat.den x)))), (32, Fact.agg (Con.nn (m + m) ((Rt.tp x) * (Rat.den y)))), (33, Fact.eq (.int .i64 (cmpI ((Rt.tp y) * (Rat.den x)) ((Rt.tp x) * (Rat.den y))))), (4, Fact.eq (.int .i64 (cmpI ((Rt.tp y) * (Rat.den x)) ((Rt.tp x) * (Rat.den y)))))] [] 4 (by kernel_rfl) (by kernel_rfl) (by kernel_rfl) (Nat.le_of_ble_eq_true rfl) (by kernel_rfl) rfl rfl ?_ ?_
      · refine fcs ⟨Ob.new_ (ob_read 24 6 31 (Con.nn (m + m) ((Rt.tp y) * (Rat.den x))) rfl rfl (.inl rfl) (by kernel_rfl) points_cell rfl row24 info24) (by kernel_rfl), ?_⟩
        refine fcs ⟨Ob.new_ (ob_read 24 5 32 (Con.nn (m + m) ((Rt.tp x) * (Rat.den y))) rfl rfl (.inl rfl) (by kernel_rfl) points_cell rfl row24 info24) (by kernel_rfl), ?_⟩
        refine fcs ⟨Ob.new_ (ob_call2 43 31 32 33 _ rfl rfl (.inl rfl) (by kernel_rfl) (by kernel_rfl) (by kernel_rfl) (n_cmp (m + m) (m + m) ((Rt.tp y) * (Rat.den x)) ((Rt.tp x) * (Rat.den y)) _ rfl)) (by kernel_rfl), ?_⟩
        refine fcs ⟨Ob.new_ (ob_copy 33 4 (.inr rfl) rfl (.inl rfl) (by kernel_rfl) rfl) (by kernel_rfl), ?_⟩
        exact fnl
      intro a8 w8 st8 hbr8 hfr
      have hs8 := hbr8.size
      have hb := up hb hbr8
      have st : St 37 [(5, Fact.cell b5 (Con.nn (m + m) ((Rt.tp x) * (Rat.den y)))), (6, Fact.cell b6 (Con.nn (m + m) ((Rt.tp y) * (Rat.den x)))), (4, Fact.eq (.int .i64 (cmpI ((Rt.tp y) * (Rat.den x)) ((Rt.tp x) * (Rat.den y)))))] a8 w8 := st8.to (fcs ⟨st8.at_ 5, fcs ⟨st8.at_ 6, fcs ⟨st8.at_ 4, fnl⟩⟩⟩)
      clear st8 hbr8 hfr
      refine wpList_nil ?_
      refine then_normal ?_
      refine wp_ret ?_
      exact sym_ret1 rfl st.defers (resAt_tmp st 4) hb (fun v h => by rw [Rt.cp_same (cp_of_ng h11), if_pos h30, ← cmpI_cn]; exact h)
    · skip
      refine wp_skip ?_
      refine then_normal ?_
      refine wp_seq ?_
      have st := st.to (ks' := [(5, Fact.cell b5 (Con.nn (m + m) ((Rt.tp x) * (Rat.den y)))), (6, Fact.cell b6 (Con.nn (m + m) ((Rt.tp y) * (Rat.den x)))), (30, Fact.eq (.bool (Rt.ng x)))]) (fcs ⟨st.at_ 5, fcs ⟨st.at_ 6, fcs ⟨st.at_ 30, fnl⟩⟩⟩)
      refine sym_region st [(34, Fact.agg (Con.nn (m + m) ((Rt.tp x) * (Rat.den y)))), (35, Fact.agg (Con.nn (m + m) ((Rt.tp y) * (Rat.den x)))), (36, Fact.eq (.int .i64 (cmpI ((Rt.tp x) * (Rat.den y)) ((Rt.tp y) * (Rat.den x))))), (4, Fact.eq (.int .i64 (cmpI ((Rt.tp x) * (Rat.den y)) ((Rt.tp y) * (Rat.den x)))))] [] 4 (by kernel_rfl) (by kernel_rfl) (by kernel_rfl) (Nat.le_of_ble_eq_true rfl) (by kernel_rfl) rfl rfl ?_ ?_
      · refine fcs ⟨Ob.new_ (ob_read 24 5 34 (Con.nn (m + m) ((Rt.tp x) * (Rat.den y))) rfl rfl (.inl rfl) (by kernel_rfl) points_cell rfl row24 info24) (by kernel_rfl), ?_⟩
        refine fcs ⟨Ob.new_ (ob_read 24 6 35 (Con.nn (m + m) ((Rt.tp y) * (Rat.den x))) rfl rfl (.inl rfl) (by kernel_rfl) points_cell rfl row24 info24) (by kernel_rfl), ?_⟩
        refine fcs ⟨Ob.new_ (ob_call2 43 34 35 36 _ rfl rfl (.inl rfl) (by kernel_rfl) (by kernel_rfl) (by kernel_rfl) (n_cmp (m + m) (m + m) ((Rt.tp x) * (Rat.den y)) ((Rt.tp y) * (Rat.den x)) _ rfl)) (by kernel_rfl), ?_⟩
        refine fcs ⟨Ob.new_ (ob_copy 36 4 (.inr rfl) rfl (.inl rfl) (by kernel_rfl) rfl) (by kernel_rfl), ?_⟩
        exact fnl
      intro a9 w9 st9 hbr9 hfr
      have hs9 := hbr9.size
      have hb := up hb hbr9
      have st : St 37 [(4, Fact.eq (.int .i64 (cmpI ((Rt.tp x) * (Rat.den y)) ((Rt.tp y) * (Rat.den x)))))] a9 w9 := st9.to (fcs ⟨st9.at_ 4, fnl⟩)
      clear st9 hbr9 hfr
      refine wpList_nil ?_
      refine then_normal ?_
      refine wp_ret ?_
      exact sym_ret1 rfl st.defers (resAt_tmp st 4) hb (fun v h => by rw [Rt.cp_same (cp_of_ng h11), if_neg (by rw [h30]; decide), ← cmpI_cn]; exact h)
theorem q_cmp (k l : Nat) (x y : Rat) (hk : 2 * max k l + 1 ≤ 400) : ∀ v0 v1 w, (Fact.fr k x).holds v0 w → (Fact.fr l y).holds v1 w → Calls Tryd.prog 18 #[v0, v1] w (Ret (Fact.eq (.int .i64 (Rt.cp x y))) w) := by
  intro v0 v1 w hv0 hv1
  exact q_cmpm (max k l) x y (by omega) v0 v1 w (Fact.fr_up hv0 (Nat.le_max_left k l)) (Fact.fr_up hv1 (Nat.le_max_right k l))
set_option maxRecDepth 100000 in
theorem z_zero (k p : Nat) (b : Bool) (hbd : decide (p = 0) = b) : ∀ v0 w, (Fact.agg (Con.nn k p)).holds v0 w → Calls Tryd.prog 34 #[v0] w (Ret (Fact.eq (.bool b)) w) := by
  intro v0 w hv0
  refine sym_calls 7 [(0, Fact.agg (Con.nn k p))] Tryd.func34 rfl rfl (Nat.le_of_ble_eq_true rfl) (fcs ⟨⟨Nat.le_of_ble_eq_true rfl, hv0⟩, fnl⟩) fun a st => ?_
  have hb := Below.refl w.heap.size w
  refine wp_seq ?_
  refine sym_region st [(1, Fact.var' (Con.nn k p)), (2, Fact.eq (.bool false))] [1] 2 (by kernel_rfl) (by kernel_rfl) (by kernel_rfl) (Nat.le_of_ble_eq_true rfl) (by kernel_rfl) rfl rfl ?_ ?_
  · refine fcs ⟨obn_box 24 0 1 _ (Con.nn k p) rfl rfl rfl (by kernel_rfl) rfl rfl, ?_⟩
    refine fcs ⟨Ob.new_ (ob_const (.bool false) 2 (.inr rfl) rfl (.inl rfl) rfl) (by kernel_rfl), ?_⟩
    exact fnl
  intro a1 w1 st1 hbr1 hfr
  have hs1 := hbr1.size
  have hb := up hb hbr1
  obtain ⟨b1, c1⟩ := (show (Fact.var' (Con.nn k p)).holds _ _ from st1.at_ 1)
  have g1 := hfr.ge (s := 1) rfl c1.1
  have st : St 7 [(1, Fact.cell b1 (Con.nn k p)), (2, Fact.eq (.bool false))] a1 w1 := st1.to (fcs ⟨c1, fcs ⟨st1.at_ 2, fnl⟩⟩)
  clear st1 hbr1 hfr c1
  refine wpList_nil ?_
  refine then_normal ?_
  refine wp_seq ?_
  have st := st.to (ks' := [(1, Fact.cell b1 (Con.nn k p))]) (fcs ⟨st.at_ 1, fnl⟩)
  refine sym_region st [(3, Fact.ptr (Con.nn k p)), (4, Fact.rown k p), (5, Fact.eq (.int .i64 ((Nm.nat p).length : Int))), (6, Fact.eq (.bool b)), (2, Fact.eq (.bool b))] [] 5 (by kernel_rfl) (by kernel_rfl) (by kernel_rfl) (Nat.le_of_ble_eq_true rfl) (by kernel_rfl) rfl rfl ?_ ?_
  · refine fcs ⟨Ob.new_ (ob_addr 24 0 1 3 0 (Con.nn k p) (Con.nn k p) rfl rfl (.inl rfl) (by kernel_rfl) points_cell rfl (Con.Sub.refl _) field24_0) (by kernel_rfl), ?_⟩
    refine fcs ⟨Ob.new_ (ob_loadrow 3 4 k p rfl rfl (.inl rfl) (by kernel_rfl) points_ptr rfl) (by kernel_rfl), ?_⟩
    refine fcs ⟨Ob.new_ (ob_len 4 5 (Nm.nat p).length 22 rfl (by kernel_rfl) rfl (.inl rfl) (by kernel_rfl) len_rown rfl) (by kernel_rfl), ?_⟩
    refine fcs ⟨Ob.new_ (ob_eqc 5 6 .i64 3 _ ((Nm.nat p).length : Int) 0 b ((natlen_zero p).trans hbd) rfl rfl (.inl rfl) (by kernel_rfl) rfl rfl) (by kernel_rfl), ?_⟩
    refine fcs ⟨Ob.new_ (ob_copy 6 2 (.inr rfl) rfl (.inl rfl) (by kernel_rfl) rfl) (by kernel_rfl), ?_⟩
    exact fnl
  intro a2 w2 st2 hbr2 hfr
  have hs2 := hbr2.size
  have hb := up hb hbr2
  have st : St 7 [(2, Fact.eq (.bool b))] a2 w2 := st2.to (fcs ⟨st2.at_ 2, fnl⟩)
  clear st2 hbr2 hfr
  refine wpList_nil ?_
  refine then_normal ?_
  refine wp_ret ?_
  exact sym_ret1 rfl st.defers (resAt_tmp st 2) hb (fun _ h => h)
set_option maxRecDepth 100000 in
theorem z_same (k l : Nat) (x y : Rat) (b : Bool) (hbd : decide (x = y) = b) : ∀ v0 v1 w, (Fact.agg (Con.fr k x)).holds v0 w → (Fact.agg (Con.fr l y)).holds v1 w → Calls Tryd.prog 8 #[v0, v1] w (Ret (Fact.eq (.bool b)) w) := by
  intro v0 v1 w hv0 hv1
  cases h1 : (Rt.ng x == Rt.ng y) with
  | false =>
    refine sym_calls 24 [(0, Fact.agg (Con.fr k x)), (1, Fact.agg (Con.fr l y))] Tryd.func8 rfl rfl (Nat.le_of_ble_eq_true rfl) (fcs ⟨⟨Nat.le_of_ble_eq_true rfl, hv0⟩, fcs ⟨⟨Nat.le_of_ble_eq_true rfl, hv1⟩, fnl⟩⟩) fun a st => ?_
    have hb := Below.refl w.heap.size w
    refine wp_seq ?_
    refine sym_region st [(2, Fact.var' (Con.fr k x)), (3, Fact.var' (Con.fr l y)), (4, Fact.eq (.bool false))] [2, 3] 3 (by kernel_rfl) (by kernel_rfl) (by kernel_rfl) (Nat.le_of_ble_eq_true rfl) (by kernel_rfl) rfl rfl ?_ ?_
    · refine fcs ⟨obn_box 28 0 2 _ (Con.fr k x) rfl rfl rfl (by kernel_rfl) rfl rfl, ?_⟩
      refine fcs ⟨obn_box 28 1 3 _ (Con.fr l y) rfl rfl rfl (by kernel_rfl) rfl rfl, ?_⟩
      refine fcs ⟨Ob.new_ (ob_const (.bool false) 4 (.inr rfl) rfl (.inl rfl) rfl) (by kernel_rfl), ?_⟩
      exact fnl
    intro a1 w1 st1 hbr1 hfr
    have hs1 := hbr1.size
    have hb := up hb hbr1
    obtain ⟨b2, c2⟩ := (show (Fact.var' (Con.fr k x)).holds _ _ from st1.at_ 2)
    have g2 := hfr.ge (s := 2) rfl c2.1
    obtain ⟨b3, c3⟩ := (show (Fact.var' (Con.fr l y)).holds _ _ from st1.at_ 3)
    have g3 := hfr.ge (s := 3) rfl c3.1
    have ne2_3 := hfr.apart (s := 2) (t := 3) rfl rfl (by decide) c2.1 c3.1
    have st : St 24 [(2, Fact.cell b2 (Con.fr k x)), (3, Fact.cell b3 (Con.fr l y)), (4, Fact.eq (.bool false))] a1 w1 := st1.to (fcs ⟨c2, fcs ⟨c3, fcs ⟨st1.at_ 4, fnl⟩⟩⟩)
    clear st1 hbr1 hfr c2 c3
    refine wpList_nil ?_
    refine then_normal ?_
    refine wp_seq ?_
    have st := st.to (ks' := [(2, Fact.cell b2 (Con.fr k x)), (3, Fact.cell b3 (Con.fr l y))]) (fcs ⟨st.at_ 2, fcs ⟨st.at_ 3, fnl⟩⟩)
    refine sym_region st [(5, Fact.ptr (Con.bool (Rt.ng x))), (6, Fact.eq (.bool (Rt.ng x))), (7, Fact.ptr (Con.bool (Rt.ng y))), (8, Fact.eq (.bool (Rt.ng y))), (9, Fact.eq (.bool false)), (10, Fact.eq (.bool false)), (11, Fact.eq undef), (12, Fact.eq undef), (13, Fact.eq undef), (14, Fact.eq undef), (15, Fact.eq undef), (16, Fact.eq (.bool false)), (17, Fact.eq (.bool false)), (18, Fact.eq undef), (19, Fact.eq undef), (20, Fact.eq undef), (21, Fact.eq undef), (22, Fact.eq undef), (23, Fact.eq (.bool false)), (4, Fact.eq (.bool false))] [] 20 (by kernel_rfl) (by kernel_rfl) (by kernel_rfl) (Nat.le_of_ble_eq_true rfl) (by kernel_rfl) rfl rfl ?_ ?_
    · refine fcs ⟨Ob.new_ (ob_addr 28 0 2 5 0 (Con.fr k x) (Con.bool (Rt.ng x)) rfl rfl (.inl rfl) (by kernel_rfl) points_cell rfl (Con.fr_ng k x) field26_0) (by kernel_rfl), ?_⟩
      refine fcs ⟨Ob.new_ (ob_readb 5 6 (Rt.ng x) (Rt.ng x) rfl rfl rfl (.inl rfl) (by kernel_rfl) points_ptr rfl) (by kernel_rfl), ?_⟩
      refine fcs ⟨Ob.new_ (ob_addr 28 0 3 7 0 (Con.fr l y) (Con.bool (Rt.ng y)) rfl rfl (.inl rfl) (by kernel_rfl) points_cell rfl (Con.fr_ng l y) field26_0) (by kernel_rfl), ?_⟩
      refine fcs ⟨Ob.new_ (ob_readb 7 8 (Rt.ng y) (Rt.ng y) rfl rfl rfl (.inl rfl) (by kernel_rfl) points_ptr rfl) (by kernel_rfl), ?_⟩
      refine fcs ⟨Ob.new_ (ob_eqb 6 8 9 (Rt.ng x) (Rt.ng y) false h1 rfl rfl (.inl rfl) (by kernel_rfl) (by kernel_rfl) rfl rfl rfl) (by kernel_rfl), ?_⟩
      refine fcs ⟨Ob.new_ (ob_copy 9 10 (.inl rfl) rfl (.inl rfl) (by kernel_rfl) rfl) (by kernel_rfl), ?_⟩
      refine fcs ⟨Ob.new_ (ob_skip 5 10 11 true rfl rfl (by kernel_rfl) (by decide) rfl rfl rfl) (by kernel_rfl), ?_⟩
      refine fcs ⟨Ob.new_ (ob_skip 5 10 12 true rfl rfl (by kernel_rfl) (by decide) rfl rfl rfl) (by kernel_rfl), ?_⟩
      refine fcs ⟨Ob.new_ (ob_skip 5 10 13 true rfl rfl (by kernel_rfl) (by decide) rfl rfl rfl) (by kernel_rfl), ?_⟩
      refine fcs ⟨Ob.new_ (ob_skip 5 10 14 true rfl rfl (by kernel_rfl) (by decide) rfl rfl rfl) (by kernel_rfl), ?_⟩
      refine fcs ⟨Ob.new_ (ob_skip 5 10 15 true rfl rfl (by kernel_rfl) (by decide) rfl rfl rfl) (by kernel_rfl), ?_⟩
      refine fcs ⟨Ob.new_ (ob_pick_no 10 15 16 (.bool false) rfl rfl (.inl rfl) (by kernel_rfl) rfl rfl) (by kernel_rfl), ?_⟩
      refine fcs ⟨Ob.new_ (ob_copy 16 17 (.inl rfl) rfl (.inl rfl) (by kernel_rfl) rfl) (by kernel_rfl), ?_⟩
      refine fcs ⟨Ob.new_ (ob_skip 12 17 18 true rfl rfl (by kernel_rfl) (by decide) rfl rfl rfl) (by kernel_rfl), ?_⟩
      refine fcs ⟨Ob.new_ (ob_skip 12 17 19 true rfl rfl (by kernel_rfl) (by decide) rfl rfl rfl) (by kernel_rfl), ?_⟩
      refine fcs ⟨Ob.new_ (ob_skip 12 17 20 true rfl rfl (by kernel_rfl) (by decide) rfl rfl rfl) (by kernel_rfl), ?_⟩
      refine fcs ⟨Ob.new_ (ob_skip 12 17 21 true rfl rfl (by kernel_rfl) (by decide) rfl rfl rfl) (by kernel_rfl), ?_⟩
      refine fcs ⟨Ob.new_ (ob_skip 12 17 22 true rfl rfl (by kernel_rfl) (by decide) rfl rfl rfl) (by kernel_rfl), ?_⟩
      refine fcs ⟨Ob.new_ (ob_pick_no 17 22 23 (.bool false) rfl rfl (.inl rfl) (by kernel_rfl) rfl rfl) (by kernel_rfl), ?_⟩
      refine fcs ⟨Ob.new_ (ob_copy 23 4 (.inr rfl) rfl (.inl rfl) (by kernel_rfl) rfl) (by kernel_rfl), ?_⟩
      exact fnl
    intro a2 w2 st2 hbr2 hfr
    have hs2 := hbr2.size
    have hb := up hb hbr2
    have st : St 24 [(4, Fact.eq (.bool false))] a2 w2 := st2.to (fcs ⟨st2.at_ 4, fnl⟩)
    clear st2 hbr2 hfr
    refine wpList_nil ?_
    refine then_normal ?_
    refine wp_ret ?_
    exact sym_ret1 rfl st.defers (resAt_tmp st 4) hb (fun v h => by subst hbd; rw [decide_eq_false (fun e => by rw [e, beq_self_eq_true] at h1; cases h1)]; exact h)
  | true =>
  cases h2 : decide (Rt.tp x = Rt.tp y) with
  | false =>
    refine sym_calls 24 [(0, Fact.agg (Con.fr k x)), (1, Fact.agg (Con.fr l y))] Tryd.func8 rfl rfl (Nat.le_of_ble_eq_true rfl) (fcs ⟨⟨Nat.le_of_ble_eq_true rfl, hv0⟩, fcs ⟨⟨Nat.le_of_ble_eq_true rfl, hv1⟩, fnl⟩⟩) fun a st => ?_
    have hb := Below.refl w.heap.size w
    refine wp_seq ?_
    refine sym_region st [(2, Fact.var' (Con.fr k x)), (3, Fact.var' (Con.fr l y)), (4, Fact.eq (.bool false))] [2, 3] 3 (by kernel_rfl) (by kernel_rfl) (by kernel_rfl) (Nat.le_of_ble_eq_true rfl) (by kernel_rfl) rfl rfl ?_ ?_
    · refine fcs ⟨obn_box 28 0 2 _ (Con.fr k x) rfl rfl rfl (by kernel_rfl) rfl rfl, ?_⟩
      refine fcs ⟨obn_box 28 1 3 _ (Con.fr l y) rfl rfl rfl (by kernel_rfl) rfl rfl, ?_⟩
      refine fcs ⟨Ob.new_ (ob_const (.bool false) 4 (.inr rfl) rfl (.inl rfl) rfl) (by kernel_rfl), ?_⟩
      exact fnl
    intro a1 w1 st1 hbr1 hfr
    have hs1 := hbr1.size
    have hb := up hb hbr1
    obtain ⟨b2, c2⟩ := (show (Fact.var' (Con.fr k x)).holds _ _ from st1.at_ 2)
    have g2 := hfr.ge (s := 2) rfl c2.1
    obtain ⟨b3, c3⟩ := (show (Fact.var' (Con.fr l y)).holds _ _ from st1.at_ 3)
    have g3 := hfr.ge (s := 3) rfl c3.1
    have ne2_3 := hfr.apart (s := 2) (t := 3) rfl rfl (by decide) c2.1 c3.1
    have st : St 24 [(2, Fact.cell b2 (Con.fr k x)), (3, Fact.cell b3 (Con.fr l y)), (4, Fact.eq (.bool false))] a1 w1 := st1.to (fcs ⟨c2, fcs ⟨c3, fcs ⟨st1.at_ 4, fnl⟩⟩⟩)
    clear st1 hbr1 hfr c2 c3
    refine wpList_nil ?_
    refine then_normal ?_
    refine wp_seq ?_
    have st := st.to (ks' := [(2, Fact.cell b2 (Con.fr k x)), (3, Fact.cell b3 (Con.fr l y))]) (fcs ⟨st.at_ 2, fcs ⟨st.at_ 3, fnl⟩⟩)
    refine sym_region st [(5, Fact.ptr (Con.bool (Rt.ng x))), (6, Fact.eq (.bool (Rt.ng x))), (7, Fact.ptr (Con.bool (Rt.ng y))), (8, Fact.eq (.bool (Rt.ng y))), (9, Fact.eq (.bool true)), (10, Fact.eq (.bool true)), (11, Fact.ptr (Con.nn k (Rt.tp x))), (12, Fact.agg (Con.nn k (Rt.tp x))), (13, Fact.ptr (Con.nn l (Rt.tp y))), (14, Fact.agg (Con.nn l (Rt.tp y))), (15, Fact.eq (.bool false)), (16, Fact.eq (.bool false)), (17, Fact.eq (.bool false)), (18, Fact.eq undef), (19, Fact.eq undef), (20, Fact.eq undef), (21, Fact.eq undef), (22, Fact.eq undef), (23, Fact.eq (.bool false)), (4, Fact.eq (.bool false))] [] 20 (by kernel_rfl) (by kernel_rfl) (by kernel_rfl) (Nat.le_of_ble_eq_true rfl) (by kernel_rfl) rfl rfl ?_ ?_
    · refine fcs ⟨Ob.new_ (ob_addr 28 0 2 5 0 (Con.fr k x) (Con.bool (Rt.ng x)) rfl rfl (.inl rfl) (by kernel_rfl) points_cell rfl (Con.fr_ng k x) field26_0) (by kernel_rfl), ?_⟩
      refine fcs ⟨Ob.new_ (ob_readb 5 6 (Rt.ng x) (Rt.ng x) rfl rfl rfl (.inl rfl) (by kernel_rfl) points_ptr rfl) (by kernel_rfl), ?_⟩
      refine fcs ⟨Ob.new_ (ob_addr 28 0 3 7 0 (Con.fr l y) (Con.bool (Rt.ng y)) rfl rfl (.inl rfl) (by kernel_rfl) points_cell rfl (Con.fr_ng l y) field26_0) (by kernel_rfl), ?_⟩
      refine fcs ⟨Ob.new_ (ob_readb 7 8 (Rt.ng y) (Rt.ng y) rfl rfl rfl (.inl rfl) (by kernel_rfl) points_ptr rfl) (by kernel_rfl), ?_⟩
      refine fcs ⟨Ob.new_ (ob_eqb 6 8 9 (Rt.ng x) (Rt.ng y) true h1 rfl rfl (.inl rfl) (by kernel_rfl) (by kernel_rfl) rfl rfl rfl) (by kernel_rfl), ?_⟩
      refine fcs ⟨Ob.new_ (ob_copy 9 10 (.inl rfl) rfl (.inl rfl) (by kernel_rfl) rfl) (by kernel_rfl), ?_⟩
      refine fcs ⟨Ob.new_ (ob_addr 28 1 2 11 1 (Con.fr k x) (Con.nn k (Rt.tp x)) rfl rfl (.inr ⟨_, _, _, rfl, rfl, by kernel_rfl, by decide, rfl⟩) (by kernel_rfl) points_cell rfl (Con.fr_tp k x) field26_1) (by kernel_rfl), ?_⟩
      refine fcs ⟨Ob.new_ (ob_read 24 11 12 (Con.nn k (Rt.tp x)) rfl rfl (.inr ⟨_, _, _, rfl, rfl, by kernel_rfl, by decide, rfl⟩) (by kernel_rfl) points_ptr rfl row24 info24) (by kernel_rfl), ?_⟩
      refine fcs ⟨Ob.new_ (ob_addr 28 1 3 13 1 (Con.fr l y) (Con.nn l (Rt.tp y)) rfl rfl (.inr ⟨_, _, _, rfl, rfl, by kernel_rfl, by decide, rfl⟩) (by kernel_rfl) points_cell rfl (Con.fr_tp l y) field26_1) (by kernel_rfl), ?_⟩
      refine fcs ⟨Ob.new_ (ob_read 24 13 14 (Con.nn l (Rt.tp y)) rfl rfl (.inr ⟨_, _, _, rfl, rfl, by kernel_rfl, by decide, rfl⟩) (by kernel_rfl) points_ptr rfl row24 info24) (by kernel_rfl), ?_⟩
      refine fcs ⟨Ob.new_ (ob_call2 26 12 14 15 _ rfl rfl (.inr ⟨_, _, _, rfl, rfl, by kernel_rfl, by decide, rfl⟩) (by kernel_rfl) (by kernel_rfl) (by kernel_rfl) (r_same k l (Rt.tp x) (Rt.tp y) false h2)) (by kernel_rfl), ?_⟩
      refine fcs ⟨Ob.new_ (ob_pick 10 15 16 _ rfl rfl (.inl rfl) (by kernel_rfl) (by kernel_rfl) rfl rfl) (by kernel_rfl), ?_⟩
      refine fcs ⟨Ob.new_ (ob_copy 16 17 (.inl rfl) rfl (.inl rfl) (by kernel_rfl) rfl) (by kernel_rfl), ?_⟩
      refine fcs ⟨Ob.new_ (ob_skip 12 17 18 true rfl rfl (by kernel_rfl) (by decide) rfl rfl rfl) (by kernel_rfl), ?_⟩
      refine fcs ⟨Ob.new_ (ob_skip 12 17 19 true rfl rfl (by kernel_rfl) (by decide) rfl rfl rfl) (by kernel_rfl), ?_⟩
      refine fcs ⟨Ob.new_ (ob_skip 12 17 20 true rfl rfl (by kernel_rfl) (by decide) rfl rfl rfl) (by kernel_rfl), ?_⟩
      refine fcs ⟨Ob.new_ (ob_skip 12 17 21 true rfl rfl (by kernel_rfl) (by decide) rfl rfl rfl) (by kernel_rfl), ?_⟩
      refine fcs ⟨Ob.new_ (ob_skip 12 17 22 true rfl rfl (by kernel_rfl) (by decide) rfl rfl rfl) (by kernel_rfl), ?_⟩
      refine fcs ⟨Ob.new_ (ob_pick_no 17 22 23 (.bool false) rfl rfl (.inl rfl) (by kernel_rfl) rfl rfl) (by kernel_rfl), ?_⟩
      refine fcs ⟨Ob.new_ (ob_copy 23 4 (.inr rfl) rfl (.inl rfl) (by kernel_rfl) rfl) (by kernel_rfl), ?_⟩
      exact fnl
    intro a2 w2 st2 hbr2 hfr
    have hs2 := hbr2.size
    have hb := up hb hbr2
    have st : St 24 [(4, Fact.eq (.bool false))] a2 w2 := st2.to (fcs ⟨st2.at_ 4, fnl⟩)
    clear st2 hbr2 hfr
    refine wpList_nil ?_
    refine then_normal ?_
    refine wp_ret ?_
    exact sym_ret1 rfl st.defers (resAt_tmp st 4) hb (fun v h => by subst hbd; rw [decide_eq_false (fun e => of_decide_eq_false h2 (by rw [e]))]; exact h)
  | true =>
  cases h3 : decide (x.den = y.den) with
  | false =>
    refine sym_calls 24 [(0, Fact.agg (Con.fr k x)), (1, Fact.agg (Con.fr l y))] Tryd.func8 rfl rfl (Nat.le_of_ble_eq_true rfl) (fcs ⟨⟨Nat.le_of_ble_eq_true rfl, hv0⟩, fcs ⟨⟨Nat.le_of_ble_eq_true rfl, hv1⟩, fnl⟩⟩) fun a st => ?_
    have hb := Below.refl w.heap.size w
    refine wp_seq ?_
    refine sym_region st [(2, Fact.var' (Con.fr k x)), (3, Fact.var' (Con.fr l y)), (4, Fact.eq (.bool false))] [2, 3] 3 (by kernel_rfl) (by kernel_rfl) (by kernel_rfl) (Nat.le_of_ble_eq_true rfl) (by kernel_rfl) rfl rfl ?_ ?_
    · refine fcs ⟨obn_box 28 0 2 _ (Con.fr k x) rfl rfl rfl (by kernel_rfl) rfl rfl, ?_⟩
      refine fcs ⟨obn_box 28 1 3 _ (Con.fr l y) rfl rfl rfl (by kernel_rfl) rfl rfl, ?_⟩
      refine fcs ⟨Ob.new_ (ob_const (.bool false) 4 (.inr rfl) rfl (.inl rfl) rfl) (by kernel_rfl), ?_⟩
      exact fnl
    intro a1 w1 st1 hbr1 hfr
    have hs1 := hbr1.size
    have hb := up hb hbr1
    obtain ⟨b2, c2⟩ := (show (Fact.var' (Con.fr k x)).holds _ _ from st1.at_ 2)
    have g2 := hfr.ge (s := 2) rfl c2.1
    obtain ⟨b3, c3⟩ := (show (Fact.var' (Con.fr l y)).holds _ _ from st1.at_ 3)
    have g3 := hfr.ge (s := 3) rfl c3.1
    have ne2_3 := hfr.apart (s := 2) (t := 3) rfl rfl (by decide) c2.1 c3.1
    have st : St 24 [(2, Fact.cell b2 (Con.fr k x)), (3, Fact.cell b3 (Con.fr l y)), (4, Fact.eq (.bool false))] a1 w1 := st1.to (fcs ⟨c2, fcs ⟨c3, fcs ⟨st1.at_ 4, fnl⟩⟩⟩)
    clear st1 hbr1 hfr c2 c3
    refine wpList_nil ?_
    refine then_normal ?_
    refine wp_seq ?_
    have st := st.to (ks' := [(2, Fact.cell b2 (Con.fr k x)), (3, Fact.cell b3 (Con.fr l y))]) (fcs ⟨st.at_ 2, fcs ⟨st.at_ 3, fnl⟩⟩)
    refine sym_region st [(5, Fact.ptr (Con.bool (Rt.ng x))), (6, Fact.eq (.bool (Rt.ng x))), (7, Fact.ptr (Con.bool (Rt.ng y))), (8, Fact.eq (.bool (Rt.ng y))), (9, Fact.eq (.bool true)), (10, Fact.eq (.bool true)), (11, Fact.ptr (Con.nn k (Rt.tp x))), (12, Fact.agg (Con.nn k (Rt.tp x))), (13, Fact.ptr (Con.nn l (Rt.tp y))), (14, Fact.agg (Con.nn l (Rt.tp y))), (15, Fact.eq (.bool true)), (16, Fact.eq (.bool true)), (17, Fact.eq (.bool true)), (18, Fact.ptr (Con.nn k (Rat.den x))), (19, Fact.agg (Con.nn k (Rat.den x))), (20, Fact.ptr (Con.nn l (Rat.den y))), (21, Fact.agg (Con.nn l (Rat.den y))), (22, Fact.eq (.bool false)), (23, Fact.eq (.bool false)), (4, Fact.eq (.bool false))] [] 20 (by kernel_rfl) (by kernel_rfl) (by kernel_rfl) (Nat.le_of_ble_eq_true rfl) (by kernel_rfl) rfl rfl ?_ ?_
    · refine fcs ⟨Ob.new_ (ob_addr 28 0 2 5 0 (Con.fr k x) (Con.bool (Rt.ng x)) rfl rfl (.inl rfl) (by kernel_rfl) points_cell rfl (Con.fr_ng k x) field26_0) (by kernel_rfl), ?_⟩
      refine fcs ⟨Ob.new_ (ob_readb 5 6 (Rt.ng x) (Rt.ng x) rfl rfl rfl (.inl rfl) (by kernel_rfl) points_ptr rfl) (by kernel_rfl), ?_⟩
      refine fcs ⟨Ob.new_ (ob_addr 28 0 3 7 0 (Con.fr l y) (Con.bool (Rt.ng y)) rfl rfl (.inl rfl) (by kernel_rfl) points_cell rfl (Con.fr_ng l y) field26_0) (by kernel_rfl), ?_⟩
      refine fcs ⟨Ob.new_ (ob_readb 7 8 (Rt.ng y) (Rt.ng y) rfl rfl rfl (.inl rfl) (by kernel_rfl) points_ptr rfl) (by kernel_rfl), ?_⟩
      refine fcs ⟨Ob.new_ (ob_eqb 6 8 9 (Rt.ng x) (Rt.ng y) true h1 rfl rfl (.inl rfl) (by kernel_rfl) (by kernel_rfl) rfl rfl rfl) (by kernel_rfl), ?_⟩
      refine fcs ⟨Ob.new_ (ob_copy 9 10 (.inl rfl) rfl (.inl rfl) (by kernel_rfl) rfl) (by kernel_rfl), ?_⟩
      refine fcs ⟨Ob.new_ (ob_addr 28 1 2 11 1 (Con.fr k x) (Con.nn k (Rt.tp x)) rfl rfl (.inr ⟨_, _, _, rfl, rfl, by kernel_rfl, by decide, rfl⟩) (by kernel_rfl) points_cell rfl (Con.fr_tp k x) field26_1) (by kernel_rfl), ?_⟩
      refine fcs ⟨Ob.new_ (ob_read 24 11 12 (Con.nn k (Rt.tp x)) rfl rfl (.inr ⟨_, _, _, rfl, rfl, by kernel_rfl, by decide, rfl⟩) (by kernel_rfl) points_ptr rfl row24 info24) (by kernel_rfl), ?_⟩
      refine fcs ⟨Ob.new_ (ob_addr 28 1 3 13 1 (Con.fr l y) (Con.nn l (Rt.tp y)) rfl rfl (.inr ⟨_, _, _, rfl, rfl, by kernel_rfl, by decide, rfl⟩) (by kernel_rfl) points_cell rfl (Con.fr_tp l y) field26_1) (by kernel_rfl), ?_⟩
      refine fcs ⟨Ob.new_ (ob_read 24 13 14 (Con.nn l (Rt.tp y)) rfl rfl (.inr ⟨_, _, _, rfl, rfl, by kernel_rfl, by decide, rfl⟩) (by kernel_rfl) points_ptr rfl row24 info24) (by kernel_rfl), ?_⟩
      refine fcs ⟨Ob.new_ (ob_call2 26 12 14 15 _ rfl rfl (.inr ⟨_, _, _, rfl, rfl, by kernel_rfl, by decide, rfl⟩) (by kernel_rfl) (by kernel_rfl) (by kernel_rfl) (r_same k l (Rt.tp x) (Rt.tp y) true h2)) (by kernel_rfl), ?_⟩
      refine fcs ⟨Ob.new_ (ob_pick 10 15 16 _ rfl rfl (.inl rfl) (by kernel_rfl) (by kernel_rfl) rfl rfl) (by kernel_rfl), ?_⟩
      refine fcs ⟨Ob.new_ (ob_copy 16 17 (.inl rfl) rfl (.inl rfl) (by kernel_rfl) rfl) (by kernel_rfl), ?_⟩
      refine fcs ⟨Ob.new_ (ob_addr 28 2 2 18 2 (Con.fr k x) (Con.nn k (Rat.den x)) rfl rfl (.inr ⟨_, _, _, rfl, rfl, by kernel_rfl, by decide, rfl⟩) (by kernel_rfl) points_cell rfl (Con.fr_den k x) field26_2) (by kernel_rfl), ?_⟩
      refine fcs ⟨Ob.new_ (ob_read 24 18 19 (Con.nn k (Rat.den x)) rfl rfl (.inr ⟨_, _, _, rfl, rfl, by kernel_rfl, by decide, rfl⟩) (by kernel_rfl) points_ptr rfl row24 info24) (by kernel_rfl), ?_⟩
      refine fcs ⟨Ob.new_ (ob_addr 28 2 3 20 2 (Con.fr l y) (Con.nn l (Rat.den y)) rfl rfl (.inr ⟨_, _, _, rfl, rfl, by kernel_rfl, by decide, rfl⟩) (by kernel_rfl) points_cell rfl (Con.fr_den l y) field26_2) (by kernel_rfl), ?_⟩
      refine fcs ⟨Ob.new_ (ob_read 24 20 21 (Con.nn l (Rat.den y)) rfl rfl (.inr ⟨_, _, _, rfl, rfl, by kernel_rfl, by decide, rfl⟩) (by kernel_rfl) points_ptr rfl row24 info24) (by kernel_rfl), ?_⟩
      refine fcs ⟨Ob.new_ (ob_call2 26 19 21 22 _ rfl rfl (.inr ⟨_, _, _, rfl, rfl, by kernel_rfl, by decide, rfl⟩) (by kernel_rfl) (by kernel_rfl) (by kernel_rfl) (r_same k l (Rat.den x) (Rat.den y) false h3)) (by kernel_rfl), ?_⟩
      refine fcs ⟨Ob.new_ (ob_pick 17 22 23 _ rfl rfl (.inl rfl) (by kernel_rfl) (by kernel_rfl) rfl rfl) (by kernel_rfl), ?_⟩
      refine fcs ⟨Ob.new_ (ob_copy 23 4 (.inr rfl) rfl (.inl rfl) (by kernel_rfl) rfl) (by kernel_rfl), ?_⟩
      exact fnl
    intro a2 w2 st2 hbr2 hfr
    have hs2 := hbr2.size
    have hb := up hb hbr2
    have st : St 24 [(4, Fact.eq (.bool false))] a2 w2 := st2.to (fcs ⟨st2.at_ 4, fnl⟩)
    clear st2 hbr2 hfr
    refine wpList_nil ?_
    refine then_normal ?_
    refine wp_ret ?_
    exact sym_ret1 rfl st.defers (resAt_tmp st 4) hb (fun v h => by subst hbd; rw [decide_eq_false (fun e => of_decide_eq_false h3 (by rw [e]))]; exact h)
  | true =>
    refine sym_calls 24 [(0, Fact.agg (Con.fr k x)), (1, Fact.agg (Con.fr l y))] Tryd.func8 rfl rfl (Nat.le_of_ble_eq_true rfl) (fcs ⟨⟨Nat.le_of_ble_eq_true rfl, hv0⟩, fcs ⟨⟨Nat.le_of_ble_eq_true rfl, hv1⟩, fnl⟩⟩) fun a st => ?_
    have hb := Below.refl w.heap.size w
    refine wp_seq ?_
    refine sym_region st [(2, Fact.var' (Con.fr k x)), (3, Fact.var' (Con.fr l y)), (4, Fact.eq (.bool false))] [2, 3] 3 (by kernel_rfl) (by kernel_rfl) (by kernel_rfl) (Nat.le_of_ble_eq_true rfl) (by kernel_rfl) rfl rfl ?_ ?_
    · refine fcs ⟨obn_box 28 0 2 _ (Con.fr k x) rfl rfl rfl (by kernel_rfl) rfl rfl, ?_⟩
      refine fcs ⟨obn_box 28 1 3 _ (Con.fr l y) rfl rfl rfl (by kernel_rfl) rfl rfl, ?_⟩
      refine fcs ⟨Ob.new_ (ob_const (.bool false) 4 (.inr rfl) rfl (.inl rfl) rfl) (by kernel_rfl), ?_⟩
      exact fnl
    intro a1 w1 st1 hbr1 hfr
    have hs1 := hbr1.size
    have hb := up hb hbr1
    obtain ⟨b2, c2⟩ := (show (Fact.var' (Con.fr k x)).holds _ _ from st1.at_ 2)
    have g2 := hfr.ge (s := 2) rfl c2.1
    obtain ⟨b3, c3⟩ := (show (Fact.var' (Con.fr l y)).holds _ _ from st1.at_ 3)
    have g3 := hfr.ge (s := 3) rfl c3.1
    have ne2_3 := hfr.apart (s := 2) (t := 3) rfl rfl (by decide) c2.1 c3.1
    have st : St 24 [(2, Fact.cell b2 (Con.fr k x)), (3, Fact.cell b3 (Con.fr l y)), (4, Fact.eq (.bool false))] a1 w1 := st1.to (fcs ⟨c2, fcs ⟨c3, fcs ⟨st1.at_ 4, fnl⟩⟩⟩)
    clear st1 hbr1 hfr c2 c3
    refine wpList_nil ?_
    refine then_normal ?_
    refine wp_seq ?_
    have st := st.to (ks' := [(2, Fact.cell b2 (Con.fr k x)), (3, Fact.cell b3 (Con.fr l y))]) (fcs ⟨st.at_ 2, fcs ⟨st.at_ 3, fnl⟩⟩)
    refine sym_region st [(5, Fact.ptr (Con.bool (Rt.ng x))), (6, Fact.eq (.bool (Rt.ng x))), (7, Fact.ptr (Con.bool (Rt.ng y))), (8, Fact.eq (.bool (Rt.ng y))), (9, Fact.eq (.bool true)), (10, Fact.eq (.bool true)), (11, Fact.ptr (Con.nn k (Rt.tp x))), (12, Fact.agg (Con.nn k (Rt.tp x))), (13, Fact.ptr (Con.nn l (Rt.tp y))), (14, Fact.agg (Con.nn l (Rt.tp y))), (15, Fact.eq (.bool true)), (16, Fact.eq (.bool true)), (17, Fact.eq (.bool true)), (18, Fact.ptr (Con.nn k (Rat.den x))), (19, Fact.agg (Con.nn k (Rat.den x))), (20, Fact.ptr (Con.nn l (Rat.den y))), (21, Fact.agg (Con.nn l (Rat.den y))), (22, Fact.eq (.bool true)), (23, Fact.eq (.bool true)), (4, Fact.eq (.bool true))] [] 20 (by kernel_rfl) (by kernel_rfl) (by kernel_rfl) (Nat.le_of_ble_eq_true rfl) (by kernel_rfl) rfl rfl ?_ ?_
    · refine fcs ⟨Ob.new_ (ob_addr 28 0 2 5 0 (Con.fr k x) (Con.bool (Rt.ng x)) rfl rfl (.inl rfl) (by kernel_rfl) points_cell rfl (Con.fr_ng k x) field26_0) (by kernel_rfl), ?_⟩
      refine fcs ⟨Ob.new_ (ob_readb 5 6 (Rt.ng x) (Rt.ng x) rfl rfl rfl (.inl rfl) (by kernel_rfl) points_ptr rfl) (by kernel_rfl), ?_⟩
      refine fcs ⟨Ob.new_ (ob_addr 28 0 3 7 0 (Con.fr l y) (Con.bool (Rt.ng y)) rfl rfl (.inl rfl) (by kernel_rfl) points_cell rfl (Con.fr_ng l y) field26_0) (by kernel_rfl), ?_⟩
      refine fcs ⟨Ob.new_ (ob_readb 7 8 (Rt.ng y) (Rt.ng y) rfl rfl rfl (.inl rfl) (by kernel_rfl) points_ptr rfl) (by kernel_rfl), ?_⟩
      refine fcs ⟨Ob.new_ (ob_eqb 6 8 9 (Rt.ng x) (Rt.ng y) true h1 rfl rfl (.inl rfl) (by kernel_rfl) (by kernel_rfl) rfl rfl rfl) (by kernel_rfl), ?_⟩
      refine fcs ⟨Ob.new_ (ob_copy 9 10 (.inl rfl) rfl (.inl rfl) (by kernel_rfl) rfl) (by kernel_rfl), ?_⟩
      refine fcs ⟨Ob.new_ (ob_addr 28 1 2 11 1 (Con.fr k x) (Con.nn k (Rt.tp x)) rfl rfl (.inr ⟨_, _, _, rfl, rfl, by kernel_rfl, by decide, rfl⟩) (by kernel_rfl) points_cell rfl (Con.fr_tp k x) field26_1) (by kernel_rfl), ?_⟩
      refine fcs ⟨Ob.new_ (ob_read 24 11 12 (Con.nn k (Rt.tp x)) rfl rfl (.inr ⟨_, _, _, rfl, rfl, by kernel_rfl, by decide, rfl⟩) (by kernel_rfl) points_ptr rfl row24 info24) (by kernel_rfl), ?_⟩
      refine fcs ⟨Ob.new_ (ob_addr 28 1 3 13 1 (Con.fr l y) (Con.nn l (Rt.tp y)) rfl rfl (.inr ⟨_, _, _, rfl, rfl, by kernel_rfl, by decide, rfl⟩) (by kernel_rfl) points_cell rfl (Con.fr_tp l y) field26_1) (by kernel_rfl), ?_⟩
      refine fcs ⟨Ob.new_ (ob_read 24 13 14 (Con.nn l (Rt.tp y)) rfl rfl (.inr ⟨_, _, _, rfl, rfl, by kernel_rfl, by decide, rfl⟩) (by kernel_rfl) points_ptr rfl row24 info24) (by kernel_rfl), ?_⟩
      refine fcs ⟨Ob.new_ (ob_call2 26 12 14 15 _ rfl rfl (.inr ⟨_, _, _, rfl, rfl, by kernel_rfl, by decide, rfl⟩) (by kernel_rfl) (by kernel_rfl) (by kernel_rfl) (r_same k l (Rt.tp x) (Rt.tp y) true h2)) (by kernel_rfl), ?_⟩
      refine fcs ⟨Ob.new_ (ob_pick 10 15 16 _ rfl rfl (.inl rfl) (by kernel_rfl) (by kernel_rfl) rfl rfl) (by kernel_rfl), ?_⟩
      refine fcs ⟨Ob.new_ (ob_copy 16 17 (.inl rfl) rfl (.inl rfl) (by kernel_rfl) rfl) (by kernel_rfl), ?_⟩
      refine fcs ⟨Ob.new_ (ob_addr 28 2 2 18 2 (Con.fr k x) (Con.nn k (Rat.den x)) rfl rfl (.inr ⟨_, _, _, rfl, rfl, by kernel_rfl, by decide, rfl⟩) (by kernel_rfl) points_cell rfl (Con.fr_den k x) field26_2) (by kernel_rfl), ?_⟩
      refine fcs ⟨Ob.new_ (ob_read 24 18 19 (Con.nn k (Rat.den x)) rfl rfl (.inr ⟨_, _, _, rfl, rfl, by kernel_rfl, by decide, rfl⟩) (by kernel_rfl) points_ptr rfl row24 info24) (by kernel_rfl), ?_⟩
      refine fcs ⟨Ob.new_ (ob_addr 28 2 3 20 2 (Con.fr l y) (Con.nn l (Rat.den y)) rfl rfl (.inr ⟨_, _, _, rfl, rfl, by kernel_rfl, by decide, rfl⟩) (by kernel_rfl) points_cell rfl (Con.fr_den l y) field26_2) (by kernel_rfl), ?_⟩
      refine fcs ⟨Ob.new_ (ob_read 24 20 21 (Con.nn l (Rat.den y)) rfl rfl (.inr ⟨_, _, _, rfl, rfl, by kernel_rfl, by decide, rfl⟩) (by kernel_rfl) points_ptr rfl row24 info24) (by kernel_rfl), ?_⟩
      refine fcs ⟨Ob.new_ (ob_call2 26 19 21 22 _ rfl rfl (.inr ⟨_, _, _, rfl, rfl, by kernel_rfl, by decide, rfl⟩) (by kernel_rfl) (by kernel_rfl) (by kernel_rfl) (r_same k l (Rat.den x) (Rat.den y) true h3)) (by kernel_rfl), ?_⟩
      refine fcs ⟨Ob.new_ (ob_pick 17 22 23 _ rfl rfl (.inl rfl) (by kernel_rfl) (by kernel_rfl) rfl rfl) (by kernel_rfl), ?_⟩
      refine fcs ⟨Ob.new_ (ob_copy 23 4 (.inr rfl) rfl (.inl rfl) (by kernel_rfl) rfl) (by kernel_rfl), ?_⟩
      exact fnl
    intro a2 w2 st2 hbr2 hfr
    have hs2 := hbr2.size
    have hb := up hb hbr2
    have st : St 24 [(4, Fact.eq (.bool true))] a2 w2 := st2.to (fcs ⟨st2.at_ 4, fnl⟩)
    clear st2 hbr2 hfr
    refine wpList_nil ?_
    refine then_normal ?_
    refine wp_ret ?_
    exact sym_ret1 rfl st.defers (resAt_tmp st 4) hb (fun v h => by subst hbd; rw [decide_eq_true (Rt.ext' (eq_of_beq h1) (of_decide_eq_true h2) (of_decide_eq_true h3))]; exact h)
set_option maxRecDepth 100000 in
theorem z_valid (k : Nat) (x : Rat) (hk : k ≤ 300) : ∀ v0 w, (Fact.agg (Con.fr k x)).holds v0 w → Calls Tryd.prog 15 #[v0] w (Ret (Fact.eq (.bool true)) w) := by
  intro v0 w hv0
  cases hng : Rt.ng x with
  | false =>
    refine sym_calls 34 [(0, Fact.agg (Con.fr k x))] Tryd.func15 rfl rfl (Nat.le_of_ble_eq_true rfl) (fcs ⟨⟨Nat.le_of_ble_eq_true rfl, hv0⟩, fnl⟩) fun a st => ?_
    have hb := Below.refl w.heap.size w
    refine wp_seq ?_
    refine sym_region st [(1, Fact.var' (Con.fr k x)), (2, Fact.eq (.bool false))] [1] 2 (by kernel_rfl) (by kernel_rfl) (by kernel_rfl) (Nat.le_of_ble_eq_true rfl) (by kernel_rfl) rfl rfl ?_ ?_
    · refine fcs ⟨obn_box 28 0 1 _ (Con.fr k x) rfl rfl rfl (by kernel_rfl) rfl rfl, ?_⟩
      refine fcs ⟨Ob.new_ (ob_const (.bool false) 2 (.inr rfl) rfl (.inl rfl) rfl) (by kernel_rfl), ?_⟩
      exact fnl
    intro a1 w1 st1 hbr1 hfr
    have hs1 := hbr1.size
    have hb := up hb hbr1
    obtain ⟨b1, c1⟩ := (show (Fact.var' (Con.fr k x)).holds _ _ from st1.at_ 1)
    have g1 := hfr.ge (s := 1) rfl c1.1
    have st : St 34 [(1, Fact.cell b1 (Con.fr k x)), (2, Fact.eq (.bool false))] a1 w1 := st1.to (fcs ⟨c1, fcs ⟨st1.at_ 2, fnl⟩⟩)
    clear st1 hbr1 hfr c1
    refine wpList_nil ?_
    refine then_normal ?_
    refine wp_seq ?_
    refine wp_seq ?_
    refine sym_region st [(3, Fact.ptr (Con.nn k (Rt.tp x))), (4, Fact.agg (Con.nn k (Rt.tp x))), (5, Fact.eq (.bool true)), (6, Fact.eq (.bool false)), (7, Fact.eq (.bool false)), (8, Fact.ptr (Con.nn k (Rat.den x))), (9, Fact.agg (Con.nn k (Rat.den x))), (10, Fact.eq (.bool true)), (11, Fact.eq (.bool false)), (12, Fact.eq (.bool false)), (13, Fact.eq (.bool false)), (14, Fact.ptr (Con.nn k (Rat.den x))), (15, Fact.agg (Con.nn k (Rat.den x))), (16, Fact.eq (.bool false)), (17, Fact.eq (.bool false)), (18, Fact.eq (.bool false)), (19, Fact.ptr (Con.bool (Rt.ng x))), (20, Fact.eq (.bool false)), (21, Fact.eq (.bool false)), (22, Fact.eq undef), (23, Fact.eq undef), (24, Fact.eq undef), (25, Fact.eq (.bool false)), (26, Fact.eq (.bool false))] [] 24 (by kernel_rfl) (by kernel_rfl) (by kernel_rfl) (Nat.le_of_ble_eq_true rfl) (by kernel_rfl) rfl rfl ?_ ?_
    · refine fcs ⟨Ob.new_ (ob_addr 28 1 1 3 1 (Con.fr k x) (Con.nn k (Rt.tp x)) rfl rfl (.inl rfl) (by kernel_rfl) points_cell rfl (Con.fr_tp k x) field26_1) (by kernel_rfl), ?_⟩
      refine fcs ⟨Ob.new_ (ob_read 24 3 4 (Con.nn k (Rt.tp x)) rfl rfl (.inl rfl) (by kernel_rfl) points_ptr rfl row24 info24) (by kernel_rfl), ?_⟩
      refine fcs ⟨Ob.new_ (ob_call1 11 4 5 _ rfl rfl (.inl rfl) (by kernel_rfl) (by kernel_rfl) (r_valid k (Rt.tp x))) (by kernel_rfl), ?_⟩
      refine fcs ⟨Ob.new_ (ob_not 5 6 true false rfl rfl rfl (.inl rfl) (by kernel_rfl) rfl rfl) (by kernel_rfl), ?_⟩
      refine fcs ⟨Ob.new_ (ob_copy 6 7 (.inl rfl) rfl (.inl rfl) (by kernel_rfl) rfl) (by kernel_rfl), ?_⟩
      refine fcs ⟨Ob.new_ (ob_addr 28 2 1 8 2 (Con.fr k x) (Con.nn k (Rat.den x)) rfl rfl (.inr ⟨_, _, _, rfl, rfl, by kernel_rfl, by decide, rfl⟩) (by kernel_rfl) points_cell rfl (Con.fr_den k x) field26_2) (by kernel_rfl), ?_⟩
      refine fcs ⟨Ob.new_ (ob_read 24 8 9 (Con.nn k (Rat.den x)) rfl rfl (.inr ⟨_, _, _, rfl, rfl, by kernel_rfl, by decide, rfl⟩) (by kernel_rfl) points_ptr rfl row24 info24) (by kernel_rfl), ?_⟩
      refine fcs ⟨Ob.new_ (ob_call1 11 9 10 _ rfl rfl (.inr ⟨_, _, _, rfl, rfl, by kernel_rfl, by decide, rfl⟩) (by kernel_rfl) (by kernel_rfl) (r_valid k (Rat.den x))) (by kernel_rfl), ?_⟩
      refine fcs ⟨Ob.new_ (ob_not 10 11 true false rfl rfl rfl (.inr ⟨_, _, _, rfl, rfl, by kernel_rfl, by decide, rfl⟩) (by kernel_rfl) rfl rfl) (by kernel_rfl), ?_⟩
      refine fcs ⟨Ob.new_ (ob_pick_else 7 11 12 (.bool true) rfl rfl (.inl rfl) (by kernel_rfl) (by kernel_rfl) rfl rfl) (by kernel_rfl), ?_⟩
      refine fcs ⟨Ob.new_ (ob_copy 12 13 (.inl rfl) rfl (.inl rfl) (by kernel_rfl) rfl) (by kernel_rfl), ?_⟩
      refine fcs ⟨Ob.new_ (ob_addr 28 2 1 14 2 (Con.fr k x) (Con.nn k (Rat.den x)) rfl rfl (.inr ⟨_, _, _, rfl, rfl, by kernel_rfl, by decide, rfl⟩) (by kernel_rfl) points_cell rfl (Con.fr_den k x) field26_2) (by kernel_rfl), ?_⟩
      refine fcs ⟨Ob.new_ (ob_read 24 14 15 (Con.nn k (Rat.den x)) rfl rfl (.inr ⟨_, _, _, rfl, rfl, by kernel_rfl, by decide, rfl⟩) (by kernel_rfl) points_ptr rfl row24 info24) (by kernel_rfl), ?_⟩
      refine fcs ⟨Ob.new_ (ob_call1 34 15 16 _ rfl rfl (.inr ⟨_, _, _, rfl, rfl, by kernel_rfl, by decide, rfl⟩) (by kernel_rfl) (by kernel_rfl) (z_zero k (Rat.den x) false (decide_eq_false x.den_nz))) (by kernel_rfl), ?_⟩
      refine fcs ⟨Ob.new_ (ob_pick_else 13 16 17 (.bool true) rfl rfl (.inl rfl) (by kernel_rfl) (by kernel_rfl) rfl rfl) (by kernel_rfl), ?_⟩
      refine fcs ⟨Ob.new_ (ob_copy 17 18 (.inl rfl) rfl (.inl rfl) (by kernel_rfl) rfl) (by kernel_rfl), ?_⟩
      refine fcs ⟨Ob.new_ (ob_addr 28 0 1 19 0 (Con.fr k x) (Con.bool (Rt.ng x)) rfl rfl (.inr ⟨_, _, _, rfl, rfl, by kernel_rfl, by decide, rfl⟩) (by kernel_rfl) points_cell rfl (Con.fr_ng k x) field26_0) (by kernel_rfl), ?_⟩
      refine fcs ⟨Ob.new_ (ob_readb 19 20 (Rt.ng x) false hng rfl rfl (.inr ⟨_, _, _, rfl, rfl, by kernel_rfl, by decide, rfl⟩) (by kernel_rfl) points_ptr rfl) (by kernel_rfl), ?_⟩
      refine fcs ⟨Ob.new_ (ob_copy 20 21 (.inl rfl) rfl (.inr ⟨_, _, _, rfl, rfl, by kernel_rfl, by decide, rfl⟩) (by kernel_rfl) rfl) (by kernel_rfl), ?_⟩
      refine fcs ⟨Ob.new_ (ob_skip 18 21 22 true rfl rfl (by kernel_rfl) (by decide) rfl rfl rfl) (by kernel_rfl), ?_⟩
      refine fcs ⟨Ob.new_ (ob_skip 18 21 23 true rfl rfl (by kernel_rfl) (by decide) rfl rfl rfl) (by kernel_rfl), ?_⟩
      refine fcs ⟨Ob.new_ (ob_skip 18 21 24 true rfl rfl (by kernel_rfl) (by decide) rfl rfl rfl) (by kernel_rfl), ?_⟩
      refine fcs ⟨Ob.new_ (ob_pick_no 21 24 25 (.bool false) rfl rfl (.inr ⟨_, _, _, rfl, rfl, by kernel_rfl, by decide, rfl⟩) (by kernel_rfl) rfl rfl) (by kernel_rfl), ?_⟩
      refine fcs ⟨Ob.new_ (ob_pick_else 18 25 26 (.bool true) rfl rfl (.inl rfl) (by kernel_rfl) (by kernel_rfl) rfl rfl) (by kernel_rfl), ?_⟩
      exact fnl
    intro a2 w2 st2 hbr2 hfr
    have hs2 := hbr2.size
    have hb := up hb hbr2
    have st : St 34 [(1, Fact.cell b1 (Con.fr k x)), (2, Fact.eq (.bool false)), (26, Fact.eq (.bool false))] a2 w2 := st2.to (fcs ⟨st2.at_ 1, fcs ⟨st2.at_ 2, fcs ⟨st2.at_ 26, fnl⟩⟩⟩)
    clear st2 hbr2 hfr
    refine wpList_nil ?_
    refine then_normal ?_
    refine wp_cond_false (st.at_ 26) ?_
    refine wp_skip ?_
    refine then_normal ?_
    refine wp_seq ?_
    have st := st.to (ks' := [(1, Fact.cell b1 (Con.fr k x)), (26, Fact.eq (.bool false))]) (fcs ⟨st.at_ 1, fcs ⟨st.at_ 26, fnl⟩⟩)
    refine sym_region st [(27, Fact.ptr (Con.nn k (Rt.tp x))), (28, Fact.agg (Con.nn k (Rt.tp x))), (29, Fact.ptr (Con.nn k (Rat.den x))), (30, Fact.agg (Con.nn k (Rat.den x))), (31, Fact.agg (Con.nn k (Nat.gcd (Rt.tp x) (Rat.den x)))), (32, Fact.agg (Con.nn 1 1)), (33, Fact.eq (.bool true)), (2, Fact.eq (.bool true))] [] 8 (by kernel_rfl) (by kernel_rfl) (by kernel_rfl) (Nat.le_of_ble_eq_true rfl) (by kernel_rfl) rfl rfl ?_ ?_
    · refine fcs ⟨Ob.new_ (ob_addr 28 1 1 27 1 (Con.fr k x) (Con.nn k (Rt.tp x)) rfl rfl (.inl rfl) (by kernel_rfl) points_cell rfl (Con.fr_tp k x) field26_1) (by kernel_rfl), ?_⟩
      refine fcs ⟨Ob.new_ (ob_read 24 27 28 (Con.nn k (Rt.tp x)) rfl rfl (.inl rfl) (by kernel_rfl) points_ptr rfl row24 info24) (by kernel_rfl), ?_⟩
      refine fcs ⟨Ob.new_ (ob_addr 28 2 1 29 2 (Con.fr k x) (Con.nn k (Rat.den x)) rfl rfl (.inl rfl) (by kernel_rfl) points_cell rfl (Con.fr_den k x) field26_2) (by kernel_rfl), ?_⟩
      refine fcs ⟨Ob.new_ (ob_read 24 29 30 (Con.nn k (Rat.den x)) rfl rfl (.inl rfl) (by kernel_rfl) points_ptr rfl row24 info24) (by kernel_rfl), ?_⟩
      refine fcs ⟨Ob.new_ (ob_call2 35 28 30 31 _ rfl rfl (.inl rfl) (by kernel_rfl) (by kernel_rfl) (by kernel_rfl) (r_gcd k k (Rt.tp x) (Rat.den x) x.den_nz (by omega) (by omega))) (by kernel_rfl), ?_⟩
      refine fcs ⟨Ob.new_ (ob_callc 24 _ 32 _ rfl rfl (.inl rfl) (by kernel_rfl) (r_ofc 1 1 (by decide) (by unfold Nm.Sz; decide))) (by kernel_rfl), ?_⟩
      refine fcs ⟨Ob.new_ (ob_call2 26 31 32 33 _ rfl rfl (.inl rfl) (by kernel_rfl) (by kernel_rfl) (by kernel_rfl) (r_same k 1 (Nat.gcd (Rt.tp x) (Rat.den x)) 1 true (decide_eq_true (Rt.vld x).low))) (by kernel_rfl), ?_⟩
      refine fcs ⟨Ob.new_ (ob_copy 33 2 (.inr rfl) rfl (.inl rfl) (by kernel_rfl) rfl) (by kernel_rfl), ?_⟩
      exact fnl
    intro a3 w3 st3 hbr3 hfr
    have hs3 := hbr3.size
    have hb := up hb hbr3
    have st : St 34 [(2, Fact.eq (.bool true))] a3 w3 := st3.to (fcs ⟨st3.at_ 2, fnl⟩)
    clear st3 hbr3 hfr
    refine wpList_nil ?_
    refine then_normal ?_
    refine wp_ret ?_
    exact sym_ret1 rfl st.defers (resAt_tmp st 2) hb (fun _ h => h)
  | true =>
    refine sym_calls 34 [(0, Fact.agg (Con.fr k x))] Tryd.func15 rfl rfl (Nat.le_of_ble_eq_true rfl) (fcs ⟨⟨Nat.le_of_ble_eq_true rfl, hv0⟩, fnl⟩) fun a st => ?_
    have hb := Below.refl w.heap.size w
    refine wp_seq ?_
    refine sym_region st [(1, Fact.var' (Con.fr k x)), (2, Fact.eq (.bool false))] [1] 2 (by kernel_rfl) (by kernel_rfl) (by kernel_rfl) (Nat.le_of_ble_eq_true rfl) (by kernel_rfl) rfl rfl ?_ ?_
    · refine fcs ⟨obn_box 28 0 1 _ (Con.fr k x) rfl rfl rfl (by kernel_rfl) rfl rfl, ?_⟩
      refine fcs ⟨Ob.new_ (ob_const (.bool false) 2 (.inr rfl) rfl (.inl rfl) rfl) (by kernel_rfl), ?_⟩
      exact fnl
    intro a1 w1 st1 hbr1 hfr
    have hs1 := hbr1.size
    have hb := up hb hbr1
    obtain ⟨b1, c1⟩ := (show (Fact.var' (Con.fr k x)).holds _ _ from st1.at_ 1)
    have g1 := hfr.ge (s := 1) rfl c1.1
    have st : St 34 [(1, Fact.cell b1 (Con.fr k x)), (2, Fact.eq (.bool false))] a1 w1 := st1.to (fcs ⟨c1, fcs ⟨st1.at_ 2, fnl⟩⟩)
    clear st1 hbr1 hfr c1
    refine wpList_nil ?_
    refine then_normal ?_
    refine wp_seq ?_
    refine wp_seq ?_
    refine sym_region st [(3, Fact.ptr (Con.nn k (Rt.tp x))), (4, Fact.agg (Con.nn k (Rt.tp x))), (5, Fact.eq (.bool true)), (6, Fact.eq (.bool false)), (7, Fact.eq (.bool false)), (8, Fact.ptr (Con.nn k (Rat.den x))), (9, Fact.agg (Con.nn k (Rat.den x))), (10, Fact.eq (.bool true)), (11, Fact.eq (.bool false)), (12, Fact.eq (.bool false)), (13, Fact.eq (.bool false)), (14, Fact.ptr (Con.nn k (Rat.den x))), (15, Fact.agg (Con.nn k (Rat.den x))), (16, Fact.eq (.bool false)), (17, Fact.eq (.bool false)), (18, Fact.eq (.bool false)), (19, Fact.ptr (Con.bool (Rt.ng x))), (20, Fact.eq (.bool true)), (21, Fact.eq (.bool true)), (22, Fact.ptr (Con.nn k (Rt.tp x))), (23, Fact.agg (Con.nn k (Rt.tp x))), (24, Fact.eq (.bool false)), (25, Fact.eq (.bool false)), (26, Fact.eq (.bool false))] [] 24 (by kernel_rfl) (by kernel_rfl) (by kernel_rfl) (Nat.le_of_ble_eq_true rfl) (by kernel_rfl) rfl rfl ?_ ?_
    · refine fcs ⟨Ob.new_ (ob_addr 28 1 1 3 1 (Con.fr k x) (Con.nn k (Rt.tp x)) rfl rfl (.inl rfl) (by kernel_rfl) points_cell rfl (Con.fr_tp k x) field26_1) (by kernel_rfl), ?_⟩
      refine fcs ⟨Ob.new_ (ob_read 24 3 4 (Con.nn k (Rt.tp x)) rfl rfl (.inl rfl) (by kernel_rfl) points_ptr rfl row24 info24) (by kernel_rfl), ?_⟩
      refine fcs ⟨Ob.new_ (ob_call1 11 4 5 _ rfl rfl (.inl rfl) (by kernel_rfl) (by kernel_rfl) (r_valid k (Rt.tp x))) (by kernel_rfl), ?_⟩
      refine fcs ⟨Ob.new_ (ob_not 5 6 true false rfl rfl rfl (.inl rfl) (by kernel_rfl) rfl rfl) (by kernel_rfl), ?_⟩
      refine fcs ⟨Ob.new_ (ob_copy 6 7 (.inl rfl) rfl (.inl rfl) (by kernel_rfl) rfl) (by kernel_rfl), ?_⟩
      refine fcs ⟨Ob.new_ (ob_addr 28 2 1 8 2 (Con.fr k x) (Con.nn k (Rat.den x)) rfl rfl (.inr ⟨_, _, _, rfl, rfl, by kernel_rfl, by decide, rfl⟩) (by kernel_rfl) points_cell rfl (Con.fr_den k x) field26_2) (by kernel_rfl), ?_⟩
      refine fcs ⟨Ob.new_ (ob_read 24 8 9 (Con.nn k (Rat.den x)) rfl rfl (.inr ⟨_, _, _, rfl, rfl, by kernel_rfl, by decide, rfl⟩) (by kernel_rfl) points_ptr rfl row24 info24) (by kernel_rfl), ?_⟩
      refine fcs ⟨Ob.new_ (ob_call1 11 9 10 _ rfl rfl (.inr ⟨_, _, _, rfl, rfl, by kernel_rfl, by decide, rfl⟩) (by kernel_rfl) (by kernel_rfl) (r_valid k (Rat.den x))) (by kernel_rfl), ?_⟩
      refine fcs ⟨Ob.new_ (ob_not 10 11 true false rfl rfl rfl (.inr ⟨_, _, _, rfl, rfl, by kernel_rfl, by decide, rfl⟩) (by kernel_rfl) rfl rfl) (by kernel_rfl), ?_⟩
      refine fcs ⟨Ob.new_ (ob_pick_else 7 11 12 (.bool true) rfl rfl (.inl rfl) (by kernel_rfl) (by kernel_rfl) rfl rfl) (by kernel_rfl), ?_⟩
      refine fcs ⟨Ob.new_ (ob_copy 12 13 (.inl rfl) rfl (.inl rfl) (by kernel_rfl) rfl) (by kernel_rfl), ?_⟩
      refine fcs ⟨Ob.new_ (ob_addr 28 2 1 14 2 (Con.fr k x) (Con.nn k (Rat.den x)) rfl rfl (.inr ⟨_, _, _, rfl, rfl, by kernel_rfl, by decide, rfl⟩) (by kernel_rfl) points_cell rfl (Con.fr_den k x) field26_2) (by kernel_rfl), ?_⟩
      refine fcs ⟨Ob.new_ (ob_read 24 14 15 (Con.nn k (Rat.den x)) rfl rfl (.inr ⟨_, _, _, rfl, rfl, by kernel_rfl, by decide, rfl⟩) (by kernel_rfl) points_ptr rfl row24 info24) (by kernel_rfl), ?_⟩
      refine fcs ⟨Ob.new_ (ob_call1 34 15 16 _ rfl rfl (.inr ⟨_, _, _, rfl, rfl, by kernel_rfl, by decide, rfl⟩) (by kernel_rfl) (by kernel_rfl) (z_zero k (Rat.den x) false (decide_eq_false x.den_nz))) (by kernel_rfl), ?_⟩
      refine fcs ⟨Ob.new_ (ob_pick_else 13 16 17 (.bool true) rfl rfl (.inl rfl) (by kernel_rfl) (by kernel_rfl) rfl rfl) (by kernel_rfl), ?_⟩
      refine fcs ⟨Ob.new_ (ob_copy 17 18 (.inl rfl) rfl (.inl rfl) (by kernel_rfl) rfl) (by kernel_rfl), ?_⟩
      refine fcs ⟨Ob.new_ (ob_addr 28 0 1 19 0 (Con.fr k x) (Con.bool (Rt.ng x)) rfl rfl (.inr ⟨_, _, _, rfl, rfl, by kernel_rfl, by decide, rfl⟩) (by kernel_rfl) points_cell rfl (Con.fr_ng k x) field26_0) (by kernel_rfl), ?_⟩
      refine fcs ⟨Ob.new_ (ob_readb 19 20 (Rt.ng x) true hng rfl rfl (.inr ⟨_, _, _, rfl, rfl, by kernel_rfl, by decide, rfl⟩) (by kernel_rfl) points_ptr rfl) (by kernel_rfl), ?_⟩
      refine fcs ⟨Ob.new_ (ob_copy 20 21 (.inl rfl) rfl (.inr ⟨_, _, _, rfl, rfl, by kernel_rfl, by decide, rfl⟩) (by kernel_rfl) rfl) (by kernel_rfl), ?_⟩
      refine fcs ⟨Ob.new_ (ob_addr 28 1 1 22 1 (Con.fr k x) (Con.nn k (Rt.tp x)) rfl rfl (.inr ⟨_, _, _, rfl, rfl, by kernel_rfl, by decide, rfl⟩) (by kernel_rfl) points_cell rfl (Con.fr_tp k x) field26_1) (by kernel_rfl), ?_⟩
      refine fcs ⟨Ob.new_ (ob_read 24 22 23 (Con.nn k (Rt.tp x)) rfl rfl (.inr ⟨_, _, _, rfl, rfl, by kernel_rfl, by decide, rfl⟩) (by kernel_rfl) points_ptr rfl row24 info24) (by kernel_rfl), ?_⟩
      refine fcs ⟨Ob.new_ (ob_call1 34 23 24 _ rfl rfl (.inr ⟨_, _, _, rfl, rfl, by kernel_rfl, by decide, rfl⟩) (by kernel_rfl) (by kernel_rfl) (z_zero k (Rt.tp x) false (decide_eq_false ((Rt.vld x).zero hng)))) (by kernel_rfl), ?_⟩
      refine fcs ⟨Ob.new_ (ob_pick 21 24 25 _ rfl rfl (.inr ⟨_, _, _, rfl, rfl, by kernel_rfl, by decide, rfl⟩) (by kernel_rfl) (by kernel_rfl) rfl rfl) (by kernel_rfl), ?_⟩
      refine fcs ⟨Ob.new_ (ob_pick_else 18 25 26 (.bool true) rfl rfl (.inl rfl) (by kernel_rfl) (by kernel_rfl) rfl rfl) (by kernel_rfl), ?_⟩
      exact fnl
    intro a2 w2 st2 hbr2 hfr
    have hs2 := hbr2.size
    have hb := up hb hbr2
    have st : St 34 [(1, Fact.cell b1 (Con.fr k x)), (2, Fact.eq (.bool false)), (26, Fact.eq (.bool false))] a2 w2 := st2.to (fcs ⟨st2.at_ 1, fcs ⟨st2.at_ 2, fcs ⟨st2.at_ 26, fnl⟩⟩⟩)
    clear st2 hbr2 hfr
    refine wpList_nil ?_
    refine then_normal ?_
    refine wp_cond_false (st.at_ 26) ?_
    refine wp_skip ?_
    refine then_normal ?_
    refine wp_seq ?_
    have st := st.to (ks' := [(1, Fact.cell b1 (Con.fr k x)), (26, Fact.eq (.bool false))]) (fcs ⟨st.at_ 1, fcs ⟨st.at_ 26, fnl⟩⟩)
    refine sym_region st [(27, Fact.ptr (Con.nn k (Rt.tp x))), (28, Fact.agg (Con.nn k (Rt.tp x))), (29, Fact.ptr (Con.nn k (Rat.den x))), (30, Fact.agg (Con.nn k (Rat.den x))), (31, Fact.agg (Con.nn k (Nat.gcd (Rt.tp x) (Rat.den x)))), (32, Fact.agg (Con.nn 1 1)), (33, Fact.eq (.bool true)), (2, Fact.eq (.bool true))] [] 8 (by kernel_rfl) (by kernel_rfl) (by kernel_rfl) (Nat.le_of_ble_eq_true rfl) (by kernel_rfl) rfl rfl ?_ ?_
    · refine fcs ⟨Ob.new_ (ob_addr 28 1 1 27 1 (Con.fr k x) (Con.nn k (Rt.tp x)) rfl rfl (.inl rfl) (by kernel_rfl) points_cell rfl (Con.fr_tp k x) field26_1) (by kernel_rfl), ?_⟩
      refine fcs ⟨Ob.new_ (ob_read 24 27 28 (Con.nn k (Rt.tp x)) rfl rfl (.inl rfl) (by kernel_rfl) points_ptr rfl row24 info24) (by kernel_rfl), ?_⟩
      refine fcs ⟨Ob.new_ (ob_addr 28 2 1 29 2 (Con.fr k x) (Con.nn k (Rat.den x)) rfl rfl (.inl rfl) (by kernel_rfl) points_cell rfl (Con.fr_den k x) field26_2) (by kernel_rfl), ?_⟩
      refine fcs ⟨Ob.new_ (ob_read 24 29 30 (Con.nn k (Rat.den x)) rfl rfl (.inl rfl) (by kernel_rfl) points_ptr rfl row24 info24) (by kernel_rfl), ?_⟩
      refine fcs ⟨Ob.new_ (ob_call2 35 28 30 31 _ rfl rfl (.inl rfl) (by kernel_rfl) (by kernel_rfl) (by kernel_rfl) (r_gcd k k (Rt.tp x) (Rat.den x) x.den_nz (by omega) (by omega))) (by kernel_rfl), ?_⟩
      refine fcs ⟨Ob.new_ (ob_callc 24 _ 32 _ rfl rfl (.inl rfl) (by kernel_rfl) (r_ofc 1 1 (by decide) (by unfold Nm.Sz; decide))) (by kernel_rfl), ?_⟩
      refine fcs ⟨Ob.new_ (ob_call2 26 31 32 33 _ rfl rfl (.inl rfl) (by kernel_rfl) (by kernel_rfl) (by kernel_rfl) (r_same k 1 (Nat.gcd (Rt.tp x) (Rat.den x)) 1 true (decide_eq_true (Rt.vld x).low))) (by kernel_rfl), ?_⟩
      refine fcs ⟨Ob.new_ (ob_copy 33 2 (.inr rfl) rfl (.inl rfl) (by kernel_rfl) rfl) (by kernel_rfl), ?_⟩
      exact fnl
    intro a3 w3 st3 hbr3 hfr
    have hs3 := hbr3.size
    have hb := up hb hbr3
    have st : St 34 [(2, Fact.eq (.bool true))] a3 w3 := st3.to (fcs ⟨st3.at_ 2, fnl⟩)
    clear st3 hbr3 hfr
    refine wpList_nil ?_
    refine then_normal ?_
    refine wp_ret ?_
    exact sym_ret1 rfl st.defers (resAt_tmp st 2) hb (fun _ h => h)
end Go.Proofs.YtjfehdkfogdpgaaDoor
namespace Go.Proofs.YtjfehdkfogdpgaaDoor
open Go.RowKit
theorem amt_lt {n : Int} (h : -9223372036854775808 ≤ n ∧ n ≤ 9223372036854775807) : n.natAbs < 18446744073709551616 := by omega
section
variable {ops : Array Oper} {Q : Exit → Act → World → Prop} {F : Nat → Fact} {base : List Nat} {N : Nat} {o : Oper}
theorem ob_conv64 (t d : Nat) (z r : Int) (hr : IntKind.u64.wrap z = r) (ho : o.op = .convert 2 45 (.tmp t)) (hd : o.dst = some d) (hg : GuardOk ops F base N o) (hk : known ops base o t = true) (hv : F t = Fact.eq (.int .i64 z)) (hF : F d = Fact.eq (.int .u64 r)) : Ob ops Q F base N o :=
  ob_one t d _ _ hd hg hk hv hF fun a w h1 => by
    subst hr
    simp [execOp, ho, h1]
    go_simp
theorem ob_neg64 (t d : Nat) (z r : Int) (hr : IntKind.u64.wrap (-z) = r) (ho : o.op = .unOp .neg 45 (.tmp t)) (hd : o.dst = some d) (hg : GuardOk ops F base N o) (hk : known ops base o t = true) (hv : F t = Fact.eq (.int .u64 z)) (hF : F d = Fact.eq (.int .u64 r)) : Ob ops Q F base N o :=
  ob_one t d _ _ hd hg hk hv hF fun a w h1 => by
    subst hr
    simp [execOp, ho, h1]
    go_simp
end
end Go.Proofs.YtjfehdkfogdpgaaDoor
namespace Go.Proofs.YtjfehdkfogdpgaaDoor
open Go.RowKit
set_option maxRecDepth 100000 in
theorem q_magnitude (n : Int) (h : -9223372036854775808 ≤ n ∧ n ≤ 9223372036854775807) : ∀ v0 w, (Fact.eq (.int .i64 n)).holds v0 w → Calls Tryd.prog 23 #[v0] w (Ret (Fact.nn 2 (Int.natAbs n)) w) := by
  intro v0 w hv0
  cases hn : decide (n < 0) with
  | false =>
    have h0 : 0 ≤ n := by have := of_decide_eq_false hn; omega
    have hc : IntKind.u64.wrap n = ((Int.natAbs n : Nat) : Int) := by rw [IntKind.wrap_u64]; omega
    refine sym_calls 12 [(0, Fact.eq (.int .i64 n))] Tryd.func23 rfl rfl (Nat.le_of_ble_eq_true rfl) (fcs ⟨⟨Nat.le_of_ble_eq_true rfl, hv0⟩, fnl⟩) fun a st => ?_
    have hb := Below.refl w.heap.size w
    refine wp_seq ?_
    refine sym_region st [(2, Fact.var' (Con.raw 1))] [2] 1 (by kernel_rfl) (by kernel_rfl) (by kernel_rfl) (Nat.le_of_ble_eq_true rfl) (by kernel_rfl) rfl rfl ?_ ?_
    · refine fcs ⟨obn_new 24 2 _ [.slice none 0 0] rfl rfl rfl rfl rfl alloc24, ?_⟩
      exact fnl
    intro a1 w1 st1 hbr1 hfr
    have hs1 := hbr1.size
    have hb := up hb hbr1
    obtain ⟨b2, c2⟩ := (show (Fact.var' (Con.raw 1)).holds _ _ from st1.at_ 2)
    have g2 := hfr.ge (s := 2) rfl c2.1
    have st : St 12 [(0, Fact.eq (.int .i64 n)), (2, Fact.cell b2 (Con.raw 1))] a1 w1 := st1.to (fcs ⟨st1.at_ 0, fcs ⟨c2, fnl⟩⟩)
    clear st1 hbr1 hfr c2
    refine wpList_nil ?_
    refine then_normal ?_
    refine wp_seq ?_
    refine wp_seq ?_
    refine sym_region st [(3, Fact.eq (.int .i64 n)), (4, Fact.eq (.bool false))] [] 2 (by kernel_rfl) (by kernel_rfl) (by kernel_rfl) (Nat.le_of_ble_eq_true rfl) (by kernel_rfl) rfl rfl ?_ ?_
    · refine fcs ⟨Ob.new_ (ob_copy 0 3 (.inl rfl) rfl (.inl rfl) (by kernel_rfl) rfl) (by kernel_rfl), ?_⟩
      refine fcs ⟨Ob.new_ (ob_ltc 3 4 .i64 2 _ n 0 false hn rfl rfl (.inl rfl) (by kernel_rfl) rfl rfl) (by kernel_rfl), ?_⟩
      exact fnl
    intro a2 w2 st2 hbr2 hfr
    have hs2 := hbr2.size
    have hb := up hb hbr2
    have st : St 12 [(0, Fact.eq (.int .i64 n)), (2, Fact.cell b2 (Con.raw 1)), (4, Fact.eq (.bool false))] a2 w2 := st2.to (fcs ⟨st2.at_ 0, fcs ⟨st2.at_ 2, fcs ⟨st2.at_ 4, fnl⟩⟩⟩)
    clear st2 hbr2 hfr
    refine wpList_nil ?_
    refine then_normal ?_
    refine wp_cond_false (st.at_ 4) ?_
    refine wp_skip ?_
    refine then_normal ?_
    refine wp_seq ?_
    refine sym_region st [(9, Fact.eq (.int .i64 n)), (10, Fact.eq (.int .u64 ((Int.natAbs n : Nat) : Int))), (11, Fact.agg (Con.nn 2 (Int.natAbs n)))] [] 3 (by kernel_rfl) (by kernel_rfl) (by kernel_rfl) (Nat.le_of_ble_eq_true rfl) (by kernel_rfl) rfl rfl ?_ ?_
    · refine fcs ⟨Ob.new_ (ob_copy 0 9 (.inl rfl) rfl (.inl rfl) (by kernel_rfl) rfl) (by kernel_rfl), ?_⟩
      refine fcs ⟨Ob.new_ (ob_conv64 9 10 n ((Int.natAbs n : Nat) : Int) hc rfl rfl (.inl rfl) (by kernel_rfl) rfl rfl) (by kernel_rfl), ?_⟩
      refine fcs ⟨Ob.new_ (ob_call1 27 10 11 _ rfl rfl (.inl rfl) (by kernel_rfl) (by kernel_rfl) (n_ofv 2 (Int.natAbs n) (amt_lt h) (of_sz (amt_lt h)) (by decide))) (by kernel_rfl), ?_⟩
      exact fnl
    intro a3 w3 st3 hbr3 hfr
    have hs3 := hbr3.size
    have hb := up hb hbr3
    have st : St 12 [(2, Fact.cell b2 (Con.raw 1)), (11, Fact.agg (Con.nn 2 (Int.natAbs n)))] a3 w3 := st3.to (fcs ⟨st3.at_ 2, fcs ⟨st3.at_ 11, fnl⟩⟩)
    clear st3 hbr3 hfr
    refine sym_store st 24 2 11 b2 (Con.raw 1) (Con.nn 2 (Int.natAbs n)) [(2, Fact.cell b2 (Con.nn 2 (Int.natAbs n)))] rfl rfl rfl rfl rfl rfl info24 ?_ ?_
    · exact fcs ⟨.inl rfl, fnl⟩
    clear st; intro w4 hB hsz4 st
    have hb := hB _ _ hb (by omega) (by omega)
    clear hB
    refine wpList_nil ?_
    refine then_normal ?_
    refine wp_ret ?_
    exact sym_ret1 rfl st.defers (resAt_cell st 2 b2 24 (Con.nn 2 (Int.natAbs n)) rfl row24 info24) hb (fun _ h => h)
  | true =>
    have h0 : n < 0 := of_decide_eq_true hn
    have hc : IntKind.u64.wrap n = n + 18446744073709551616 := by rw [IntKind.wrap_u64]; omega
    have hg : IntKind.u64.wrap (-(n + 18446744073709551616)) = ((Int.natAbs n : Nat) : Int) := by rw [IntKind.wrap_u64]; omega
    refine sym_calls 12 [(0, Fact.eq (.int .i64 n))] Tryd.func23 rfl rfl (Nat.le_of_ble_eq_true rfl) (fcs ⟨⟨Nat.le_of_ble_eq_true rfl, hv0⟩, fnl⟩) fun a st => ?_
    have hb := Below.refl w.heap.size w
    refine wp_seq ?_
    refine sym_region st [(2, Fact.var' (Con.raw 1))] [2] 1 (by kernel_rfl) (by kernel_rfl) (by kernel_rfl) (Nat.le_of_ble_eq_true rfl) (by kernel_rfl) rfl rfl ?_ ?_
    · refine fcs ⟨obn_new 24 2 _ [.slice none 0 0] rfl rfl rfl rfl rfl alloc24, ?_⟩
      exact fnl
    intro a1 w1 st1 hbr1 hfr
    have hs1 := hbr1.size
    have hb := up hb hbr1
    obtain ⟨b2, c2⟩ := (show (Fact.var' (Con.raw 1)).holds _ _ from st1.at_ 2)
    have g2 := hfr.ge (s := 2) rfl c2.1
    have st : St 12 [(0, Fact.eq (.int .i64 n)), (2, Fact.cell b2 (Con.raw 1))] a1 w1 := st1.to (fcs ⟨st1.at_ 0, fcs ⟨c2, fnl⟩⟩)
    clear st1 hbr1 hfr c2
    refine wpList_nil ?_
    refine then_normal ?_
    refine wp_seq ?_
    refine wp_seq ?_
    refine sym_region st [(3, Fact.eq (.int .i64 n)), (4, Fact.eq (.bool true))] [] 2 (by kernel_rfl) (by kernel_rfl) (by kernel_rfl) (Nat.le_of_ble_eq_true rfl) (by kernel_rfl) rfl rfl ?_ ?_
    · refine fcs ⟨Ob.new_ (ob_copy 0 3 (.inl rfl) rfl (.inl rfl) (by kernel_rfl) rfl) (by kernel_rfl), ?_⟩
      refine fcs ⟨Ob.new_ (ob_ltc 3 4 .i64 2 _ n 0 true hn rfl rfl (.inl rfl) (by kernel_rfl) rfl rfl) (by kernel_rfl), ?_⟩
      exact fnl
    intro a2 w2 st2 hbr2 hfr
    have hs2 := hbr2.size
    have hb := up hb hbr2
    have st : St 12 [(0, Fact.eq (.int .i64 n)), (2, Fact.cell b2 (Con.raw 1)), (4, Fact.eq (.bool true))] a2 w2 := st2.to (fcs ⟨st2.at_ 0, fcs ⟨st2.at_ 2, fcs ⟨st2.at_ 4, fnl⟩⟩⟩)
    clear st2 hbr2 hfr
    refine wpList_nil ?_
    refine then_normal ?_
    refine wp_cond_true (st.at_ 4) ?_
    refine wp_seq ?_
    refine sym_region st [(5, Fact.eq (.int .i64 n)), (6, Fact.eq (.int .u64 (n + 18446744073709551616))), (7, Fact.eq (.int .u64 ((Int.natAbs n : Nat) : Int))), (8, Fact.agg (Con.nn 2 (Int.natAbs n)))] [] 4 (by kernel_rfl) (by kernel_rfl) (by kernel_rfl) (Nat.le_of_ble_eq_true rfl) (by kernel_rfl) rfl rfl ?_ ?_
    · refine fcs ⟨Ob.new_ (ob_copy 0 5 (.inl rfl) rfl (.inl rfl) (by kernel_rfl) rfl) (by kernel_rfl), ?_⟩
      refine fcs ⟨Ob.new_ (ob_conv64 5 6 n (n + 18446744073709551616) hc rfl rfl (.inl rfl) (by kernel_rfl) rfl rfl) (by kernel_rfl), ?_⟩
      refine fcs ⟨Ob.new_ (ob_neg64 6 7 (n + 18446744073709551616) ((Int.natAbs n : Nat) : Int) hg rfl rfl (.inl rfl) (by kernel_rfl) rfl rfl) (by kernel_rfl), ?_⟩
      refine fcs ⟨Ob.new_ (ob_call1 27 7 8 _ rfl rfl (.inl rfl) (by kernel_rfl) (by kernel_rfl) (n_ofv 2 (Int.natAbs n) (amt_lt h) (of_sz (amt_lt h)) (by decide))) (by kernel_rfl), ?_⟩
      exact fnl
    intro a3 w3 st3 hbr3 hfr
    have hs3 := hbr3.size
    have hb := up hb hbr3
    have st : St 12 [(0, Fact.eq (.int .i64 n)), (2, Fact.cell b2 (Con.raw 1)), (8, Fact.agg (Con.nn 2 (Int.natAbs n)))] a3 w3 := st3.to (fcs ⟨st3.at_ 0, fcs ⟨st3.at_ 2, fcs ⟨st3.at_ 8, fnl⟩⟩⟩)
    clear st3 hbr3 hfr
    refine sym_store st 24 2 8 b2 (Con.raw 1) (Con.nn 2 (Int.natAbs n)) [(0, Fact.eq (.int .i64 n)), (2, Fact.cell b2 (Con.nn 2 (Int.natAbs n)))] rfl rfl rfl rfl rfl rfl info24 ?_ ?_
    · exact fcs ⟨.inr ⟨rfl, safe_eq _ _⟩, fcs ⟨.inl rfl, fnl⟩⟩
    clear st; intro w4 hB hsz4 st
    have hb := hB _ _ hb (by omega) (by omega)
    clear hB
    refine wpList_nil ?_
    refine then_normal ?_
    refine wp_ret ?_
    exact sym_ret1 rfl st.defers (resAt_cell st 2 b2 24 (Con.nn 2 (Int.natAbs n)) rfl row24 info24) hb (fun _ h => h)
set_option maxRecDepth 100000 in
theorem q_ratio_of (n m : Int) (h : -9223372036854775808 ≤ n ∧ n ≤ 9223372036854775807) (h2 : -9223372036854775808 ≤ m ∧ m ≤ 9223372036854775807) (hm : Int.natAbs m ≠ 0) : ∀ v0 v1 w, (Fact.eq (.int .i64 n)).holds v0 w → (Fact.eq (.int .i64 m)).holds v1 w → Calls Tryd.prog 6 #[v0, v1] w (Ret (Fact.two (Fact.fr 2 (Rt.of ((decide (n < 0)) != (decide (m < 0))) (Int.natAbs n) (Int.natAbs m))) (Fact.eq (.int .i64 0))) w) := by
  intro v0 v1 w hv0 hv1
  refine sym_calls 18 [(0, Fact.eq (.int .i64 n)), (1, Fact.eq (.int .i64 m))] Tryd.func6 rfl rfl (Nat.le_of_ble_eq_true rfl) (fcs ⟨⟨Nat.le_of_ble_eq_true rfl, hv0⟩, fcs ⟨⟨Nat.le_of_ble_eq_true rfl, hv1⟩, fnl⟩⟩) fun a st => ?_
  have hb := Below.refl w.heap.size w
  refine wp_seq ?_
  refine sym_region st [(4, Fact.var' (Con.raw 3)), (5, Fact.eq (.int .i64 0))] [4] 2 (by kernel_rfl) (by kernel_rfl) (by kernel_rfl) (Nat.le_of_ble_eq_true rfl) (by kernel_rfl) rfl rfl ?_ ?_
  · refine fcs ⟨obn_new 28 4 _ [.bool false, .slice none 0 0, .slice none 0 0] rfl rfl rfl rfl rfl alloc26, ?_⟩
    refine fcs ⟨Ob.new_ (ob_const (.int .i64 0) 5 (.inr rfl) rfl (.inl rfl) rfl) (by kernel_rfl), ?_⟩
    exact fnl
  intro a1 w1 st1 hbr1 hfr
  have hs1 := hbr1.size
  have hb := up hb hbr1
  obtain ⟨b4, c4⟩ := (show (Fact.var' (Con.raw 3)).holds _ _ from st1.at_ 4)
  have g4 := hfr.ge (s := 4) rfl c4.1
  have st : St 18 [(0, Fact.eq (.int .i64 n)), (1, Fact.eq (.int .i64 m)), (4, Fact.cell b4 (Con.raw 3)), (5, Fact.eq (.int .i64 0))] a1 w1 := st1.to (fcs ⟨st1.at_ 0, fcs ⟨st1.at_ 1, fcs ⟨c4, fcs ⟨st1.at_ 5, fnl⟩⟩⟩⟩)
  clear st1 hbr1 hfr c4
  refine wpList_nil ?_
  refine then_normal ?_
  refine wp_seq ?_
  have st := st.to (ks' := [(0, Fact.eq (.int .i64 n)), (1, Fact.eq (.int .i64 m)), (4, Fact.cell b4 (Con.raw 3))]) (fcs ⟨st.at_ 0, fcs ⟨st.at_ 1, fcs ⟨st.at_ 4, fnl⟩⟩⟩)
  refine sym_region st [(6, Fact.eq (.int .i64 n)), (7, Fact.eq (.bool (decide (n < 0)))), (8, Fact.eq (.int .i64 m)), (9, Fact.eq (.bool (decide (m < 0)))), (10, Fact.eq (.bool ((decide (n < 0)) != (decide (m < 0))))), (11, Fact.eq (.int .i64 n)), (12, Fact.agg (Con.nn 2 (Int.natAbs n))), (13, Fact.eq (.int .i64 m)), (14, Fact.agg (Con.nn 2 (Int.natAbs m))), (15, Fact.two (Fact.agg (Con.fr 2 (Rt.of ((decide (n < 0)) != (decide (m < 0))) (Int.natAbs n) (Int.natAbs m)))) (Fact.eq (.int .i64 0))), (16, Fact.agg (Con.fr 2 (Rt.of ((decide (n < 0)) != (decide (m < 0))) (Int.natAbs n) (Int.natAbs m)))), (17, Fact.eq (.int .i64 0))] [] 12 (by kernel_rfl) (by kernel_rfl) (by kernel_rfl) (Nat.le_of_ble_eq_true rfl) (by kernel_rfl) rfl rfl ?_ ?_
  · refine fcs ⟨Ob.new_ (ob_copy 0 6 (.inl rfl) rfl (.inl rfl) (by kernel_rfl) rfl) (by kernel_rfl), ?_⟩
    refine fcs ⟨Ob.new_ (ob_ltc 6 7 .i64 2 _ n 0 (decide (n < 0)) rfl rfl rfl (.inl rfl) (by kernel_rfl) rfl rfl) (by kernel_rfl), ?_⟩
    refine fcs ⟨Ob.new_ (ob_copy 1 8 (.inl rfl) rfl (.inl rfl) (by kernel_rfl) rfl) (by kernel_rfl), ?_⟩
    refine fcs ⟨Ob.new_ (ob_ltc 8 9 .i64 2 _ m 0 (decide (m < 0)) rfl rfl rfl (.inl rfl) (by kernel_rfl) rfl rfl) (by kernel_rfl), ?_⟩
    refine fcs ⟨Ob.new_ (ob_neb 7 9 10 (decide (n < 0)) (decide (m < 0)) ((decide (n < 0)) != (decide (m < 0))) rfl rfl rfl (.inl rfl) (by kernel_rfl) (by kernel_rfl) rfl rfl rfl) (by kernel_rfl), ?_⟩
    refine fcs ⟨Ob.new_ (ob_copy 0 11 (.inl rfl) rfl (.inl rfl) (by kernel_rfl) rfl) (by kernel_rfl), ?_⟩
    refine fcs ⟨Ob.new_ (ob_call1 23 11 12 _ rfl rfl (.inl rfl) (by kernel_rfl) (by kernel_rfl) (q_magnitude n h)) (by kernel_rfl), ?_⟩
    refine fcs ⟨Ob.new_ (ob_copy 1 13 (.inl rfl) rfl (.inl rfl) (by kernel_rfl) rfl) (by kernel_rfl), ?_⟩
    refine fcs ⟨Ob.new_ (ob_call1 23 13 14 _ rfl rfl (.inl rfl) (by kernel_rfl) (by kernel_rfl) (q_magnitude m h2)) (by kernel_rfl), ?_⟩
    refine fcs ⟨Ob.new_ (ob_call3 13 10 12 14 15 _ rfl rfl (.inl rfl) (by kernel_rfl) (by kernel_rfl) (by kernel_rfl) (by kernel_rfl) (q_make 2 2 2 ((decide (n < 0)) != (decide (m < 0))) (Int.natAbs n) (Int.natAbs m) hm (by omega) (by omega) (by omega))) (by kernel_rfl), ?_⟩
    refine fcs ⟨Ob.new_ (ob_fst 15 16 (Fact.agg (Con.fr 2 (Rt.of ((decide (n < 0)) != (decide (m < 0))) (Int.natAbs n) (Int.natAbs m)))) (Fact.eq (.int .i64 0)) rfl rfl (.inl rfl) (by kernel_rfl) rfl rfl) (by kernel_rfl), ?_⟩
    refine fcs ⟨Ob.new_ (ob_snd 15 17 (Fact.agg (Con.fr 2 (Rt.of ((decide (n < 0)) != (decide (m < 0))) (Int.natAbs n) (Int.natAbs m)))) (Fact.eq (.int .i64 0)) rfl rfl (.inl rfl) (by kernel_rfl) rfl rfl) (by kernel_rfl), ?_⟩
    exact fnl
  intro a2 w2 st2 hbr2 hfr
  have hs2 := hbr2.size
  have hb := up hb hbr2
  have st : St 18 [(4, Fact.cell b4 (Con.raw 3)), (16, Fact.agg (Con.fr 2 (Rt.of ((decide (n < 0)) != (decide (m < 0))) (Int.natAbs n) (Int.natAbs m)))), (17, Fact.eq (.int .i64 0))] a2 w2 := st2.to (fcs ⟨st2.at_ 4, fcs ⟨st2.at_ 16, fcs ⟨st2.at_ 17, fnl⟩⟩⟩)
  clear st2 hbr2 hfr
  refine sym_store st 28 4 16 b4 (Con.raw 3) (Con.fr 2 (Rt.of ((decide (n < 0)) != (decide (m < 0))) (Int.natAbs n) (Int.natAbs m))) [(4, Fact.cell b4 (Con.fr 2 (Rt.of ((decide (n < 0)) != (decide (m < 0))) (Int.natAbs n) (Int.natAbs m)))), (17, Fact.eq (.int .i64 0))] rfl rfl rfl rfl rfl rfl info26 ?_ ?_
  · exact fcs ⟨.inl rfl, fcs ⟨.inr ⟨rfl, safe_eq _ _⟩, fnl⟩⟩
  clear st; intro w3 hB hsz3 st
  have hb := hB _ _ hb (by omega) (by omega)
  clear hB
  refine sym_op st 5 (Fact.eq (.int .i64 0)) rfl (Nat.le_of_ble_eq_true rfl) rfl rfl (by kernel_rfl) (ob_copy 17 5 (.inr rfl) rfl (.inl rfl) (by kernel_rfl) rfl) ?_
  clear st; intro a4 w4 hbr st; have hs4 := hbr.size; have hb := up hb hbr; clear hbr
  refine wpList_nil ?_
  refine then_normal ?_
  refine wp_ret ?_
  exact sym_ret2 rfl st.defers (resAt_cell st 4 b4 28 (Con.fr 2 (Rt.of ((decide (n < 0)) != (decide (m < 0))) (Int.natAbs n) (Int.natAbs m))) rfl row26 info26) (resAt_tmp st 5) hb (fun v u h1 h2 => ⟨v, u, rfl, h1, h2⟩)
set_option maxRecDepth 100000 in
theorem q_ratio0 (n m : Int) (h : -9223372036854775808 ≤ n ∧ n ≤ 9223372036854775807) (h2 : -9223372036854775808 ≤ m ∧ m ≤ 9223372036854775807) (hm : Int.natAbs m = 0) : ∀ v0 v1 w, (Fact.eq (.int .i64 n)).holds v0 w → (Fact.eq (.int .i64 m)).holds v1 w → Calls Tryd.prog 6 #[v0, v1] w (Ret (Fact.two (Fact.agg (Con.tri 1 1 false 0 0)) (Fact.eq (.int .i64 8))) w) := by
  intro v0 v1 w hv0 hv1
  refine sym_calls 18 [(0, Fact.eq (.int .i64 n)), (1, Fact.eq (.int .i64 m))] Tryd.func6 rfl rfl (Nat.le_of_ble_eq_true rfl) (fcs ⟨⟨Nat.le_of_ble_eq_true rfl, hv0⟩, fcs ⟨⟨Nat.le_of_ble_eq_true rfl, hv1⟩, fnl⟩⟩) fun a st => ?_
  have hb := Below.refl w.heap.size w
  refine wp_seq ?_
  refine sym_region st [(4, Fact.var' (Con.raw 3)), (5, Fact.eq (.int .i64 0))] [4] 2 (by kernel_rfl) (by kernel_rfl) (by kernel_rfl) (Nat.le_of_ble_eq_true rfl) (by kernel_rfl) rfl rfl ?_ ?_
  · refine fcs ⟨obn_new 28 4 _ [.bool false, .slice none 0 0, .slice none 0 0] rfl rfl rfl rfl rfl alloc26, ?_⟩
    refine fcs ⟨Ob.new_ (ob_const (.int .i64 0) 5 (.inr rfl) rfl (.inl rfl) rfl) (by kernel_rfl), ?_⟩
    exact fnl
  intro a1 w1 st1 hbr1 hfr
  have hs1 := hbr1.size
  have hb := up hb hbr1
  obtain ⟨b4, c4⟩ := (show (Fact.var' (Con.raw 3)).holds _ _ from st1.at_ 4)
  have g4 := hfr.ge (s := 4) rfl c4.1
  have st : St 18 [(0, Fact.eq (.int .i64 n)), (1, Fact.eq (.int .i64 m)), (4, Fact.cell b4 (Con.raw 3)), (5, Fact.eq (.int .i64 0))] a1 w1 := st1.to (fcs ⟨st1.at_ 0, fcs ⟨st1.at_ 1, fcs ⟨c4, fcs ⟨st1.at_ 5, fnl⟩⟩⟩⟩)
  clear st1 hbr1 hfr c4
  refine wpList_nil ?_
  refine then_normal ?_
  refine wp_seq ?_
  have st := st.to (ks' := [(0, Fact.eq (.int .i64 n)), (1, Fact.eq (.int .i64 m)), (4, Fact.cell b4 (Con.raw 3))]) (fcs ⟨st.at_ 0, fcs ⟨st.at_ 1, fcs ⟨st.at_ 4, fnl⟩⟩⟩)
  refine sym_region st [(6, Fact.eq (.int .i64 n)), (7, Fact.eq (.bool (decide (n < 0)))), (8, Fact.eq (.int .i64 m)), (9, Fact.eq (.bool (decide (m < 0)))), (10, Fact.eq (.bool ((decide (n < 0)) != (decide (m < 0))))), (11, Fact.eq (.int .i64 n)), (12, Fact.agg (Con.nn 2 (Int.natAbs n))), (13, Fact.eq (.int .i64 m)), (14, Fact.agg (Con.nn 2 (Int.natAbs m))), (15, Fact.two (Fact.agg (Con.tri 1 1 false 0 0)) (Fact.eq (.int .i64 8))), (16, Fact.agg (Con.tri 1 1 false 0 0)), (17, Fact.eq (.int .i64 8))] [] 12 (by kernel_rfl) (by kernel_rfl) (by kernel_rfl) (Nat.le_of_ble_eq_true rfl) (by kernel_rfl) rfl rfl ?_ ?_
  · refine fcs ⟨Ob.new_ (ob_copy 0 6 (.inl rfl) rfl (.inl rfl) (by kernel_rfl) rfl) (by kernel_rfl), ?_⟩
    refine fcs ⟨Ob.new_ (ob_ltc 6 7 .i64 2 _ n 0 (decide (n < 0)) rfl rfl rfl (.inl rfl) (by kernel_rfl) rfl rfl) (by kernel_rfl), ?_⟩
    refine fcs ⟨Ob.new_ (ob_copy 1 8 (.inl rfl) rfl (.inl rfl) (by kernel_rfl) rfl) (by kernel_rfl), ?_⟩
    refine fcs ⟨Ob.new_ (ob_ltc 8 9 .i64 2 _ m 0 (decide (m < 0)) rfl rfl rfl (.inl rfl) (by kernel_rfl) rfl rfl) (by kernel_rfl), ?_⟩
    refine fcs ⟨Ob.new_ (ob_neb 7 9 10 (decide (n < 0)) (decide (m < 0)) ((decide (n < 0)) != (decide (m < 0))) rfl rfl rfl (.inl rfl) (by kernel_rfl) (by kernel_rfl) rfl rfl rfl) (by kernel_rfl), ?_⟩
    refine fcs ⟨Ob.new_ (ob_copy 0 11 (.inl rfl) rfl (.inl rfl) (by kernel_rfl) rfl) (by kernel_rfl), ?_⟩
    refine fcs ⟨Ob.new_ (ob_call1 23 11 12 _ rfl rfl (.inl rfl) (by kernel_rfl) (by kernel_rfl) (q_magnitude n h)) (by kernel_rfl), ?_⟩
    refine fcs ⟨Ob.new_ (ob_copy 1 13 (.inl rfl) rfl (.inl rfl) (by kernel_rfl) rfl) (by kernel_rfl), ?_⟩
    refine fcs ⟨Ob.new_ (ob_call1 23 13 14 _ rfl rfl (.inl rfl) (by kernel_rfl) (by kernel_rfl) (q_magnitude m h2)) (by kernel_rfl), ?_⟩
    refine fcs ⟨Ob.new_ (ob_call3 13 10 12 14 15 _ rfl rfl (.inl rfl) (by kernel_rfl) (by kernel_rfl) (by kernel_rfl) (by kernel_rfl) (q_make0 2 2 ((decide (n < 0)) != (decide (m < 0))) (Int.natAbs n) (Int.natAbs m) hm)) (by kernel_rfl), ?_⟩
    refine fcs ⟨Ob.new_ (ob_fst 15 16 (Fact.agg (Con.tri 1 1 false 0 0)) (Fact.eq (.int .i64 8)) rfl rfl (.inl rfl) (by kernel_rfl) rfl rfl) (by kernel_rfl), ?_⟩
    refine fcs ⟨Ob.new_ (ob_snd 15 17 (Fact.agg (Con.tri 1 1 false 0 0)) (Fact.eq (.int .i64 8)) rfl rfl (.inl rfl) (by kernel_rfl) rfl rfl) (by kernel_rfl), ?_⟩
    exact fnl
  intro a2 w2 st2 hbr2 hfr
  have hs2 := hbr2.size
  have hb := up hb hbr2
  have st : St 18 [(4, Fact.cell b4 (Con.raw 3)), (16, Fact.agg (Con.tri 1 1 false 0 0)), (17, Fact.eq (.int .i64 8))] a2 w2 := st2.to (fcs ⟨st2.at_ 4, fcs ⟨st2.at_ 16, fcs ⟨st2.at_ 17, fnl⟩⟩⟩)
  clear st2 hbr2 hfr
  refine sym_store st 28 4 16 b4 (Con.raw 3) (Con.tri 1 1 false 0 0) [(4, Fact.cell b4 (Con.tri 1 1 false 0 0)), (17, Fact.eq (.int .i64 8))] rfl rfl rfl rfl rfl rfl info26 ?_ ?_
  · exact fcs ⟨.inl rfl, fcs ⟨.inr ⟨rfl, safe_eq _ _⟩, fnl⟩⟩
  clear st; intro w3 hB hsz3 st
  have hb := hB _ _ hb (by omega) (by omega)
  clear hB
  refine sym_op st 5 (Fact.eq (.int .i64 8)) rfl (Nat.le_of_ble_eq_true rfl) rfl rfl (by kernel_rfl) (ob_copy 17 5 (.inr rfl) rfl (.inl rfl) (by kernel_rfl) rfl) ?_
  clear st; intro a4 w4 hbr st; have hs4 := hbr.size; have hb := up hb hbr; clear hbr
  refine wpList_nil ?_
  refine then_normal ?_
  refine wp_ret ?_
  exact sym_ret2 rfl st.defers (resAt_cell st 4 b4 28 (Con.tri 1 1 false 0 0) rfl row26 info26) (resAt_tmp st 5) hb (fun v u h1 h2 => ⟨v, u, rfl, h1, h2⟩)
end Go.Proofs.YtjfehdkfogdpgaaDoor
namespace Go.Proofs.YtjfehdkfogdpgaaDoor
open Go.RowKit
def Con.any_ (zs : List Nat) : Con := ⟨1, fun w cs => ∃ A c, cs = [.slice A zs.length c] ∧ Rd w A zs ∧ zs.length ≤ c ∧ Nm.Dig zs,
  fun _ _ ⟨_, _, h, _⟩ => by rw [h]; rfl, fun _ _ ⟨_, _, e, _⟩ v hv => by rw [e] at hv; rw [List.mem_singleton.1 hv]; exact ⟨rfl, rfl⟩, fun _ _ _ ⟨A, c, h, hn, hz⟩ hb => ⟨A, c, h, hn.below hb, hz⟩, fun _ _ _ ⟨A, c, h, hn, hz⟩ hs => ⟨A, c, h, hn.soft hs, hz⟩⟩
def Con.dg (zs : List Nat) : Con := ⟨1, fun w cs => ∃ A c, cs = [.slice A zs.length c] ∧ Num w A zs.length c zs,
  fun _ _ ⟨_, _, h, _⟩ => by rw [h]; rfl, fun _ _ ⟨_, _, e, _⟩ v hv => by rw [e] at hv; rw [List.mem_singleton.1 hv]; exact ⟨rfl, rfl⟩, fun _ _ _ ⟨A, c, h, hn⟩ hb => ⟨A, c, h, hn.below hb⟩, fun _ _ _ ⟨A, c, h, hn⟩ hs => ⟨A, c, h, hn.soft hs⟩⟩
def Con.pre (s : Bool) (xs ys : List Nat) : Con := (Con.bool s).app ((Con.any_ xs).app (Con.any_ ys))
def Con.few (s : Bool) (xs ys : List Nat) : Con := (Con.bool s).app ((Con.dg xs).app (Con.dg ys))
theorem Con.few_1 (s : Bool) (xs ys : List Nat) : (Con.few s xs ys).Sub 1 (Con.dg xs) := ((Con.Sub.refl _).left (D := Con.dg ys)).right (C := Con.bool s)
theorem Con.few_2 (s : Bool) (xs ys : List Nat) : (Con.few s xs ys).Sub 2 (Con.dg ys) := ((Con.Sub.refl _).right (C := Con.dg xs)).right (C := Con.bool s)
theorem Con.pre_1 (s : Bool) (xs ys : List Nat) : (Con.pre s xs ys).Sub 1 (Con.any_ xs) := ((Con.Sub.refl _).left (D := Con.any_ ys)).right (C := Con.bool s)
theorem Con.pre_2 (s : Bool) (xs ys : List Nat) : (Con.pre s xs ys).Sub 2 (Con.any_ ys) := ((Con.Sub.refl _).right (C := Con.any_ xs)).right (C := Con.bool s)
theorem Fact.pre_few {s : Bool} {xs ys : List Nat} {v : Value} {w : World} (h : (Fact.agg (Con.pre s xs ys)).holds v w) (hx : xs.length ≤ 400) (hy : ys.length ≤ 400) : (Fact.agg (Con.few s xs ys)).holds v w := by
  obtain ⟨cs, h1, a, b, h2, h3, c, d, h4, ⟨A, e, h5, h6, h7, h8⟩, ⟨B, f, k5, k6, k7, k8⟩⟩ := h
  exact ⟨cs, h1, a, b, h2, h3, c, d, h4, ⟨A, e, h5, h6, rfl, h7, h8, hx⟩, ⟨B, f, k5, k6, rfl, k7, k8, hy⟩⟩
theorem Fact.few_tri {s : Bool} {xs ys : List Nat} {v : Value} {w : World} {k l : Nat} (h : (Fact.agg (Con.few s xs ys)).holds v w) (hx : Nm.tlen xs = xs.length) (hy : Nm.tlen ys = ys.length) (hk : xs.length ≤ k) (hl : ys.length ≤ l) : (Fact.agg (Con.tri k l s (Nm.val xs) (Nm.val ys))).holds v w := by
  obtain ⟨cs, h1, a, b, h2, h3, c, d, h4, ⟨A, e, h5, h6⟩, ⟨B, f, k5, k6⟩⟩ := h
  have ex := Nm.eq_nat h6.dig hx
  have ey := Nm.eq_nat k6.dig hy
  have zx : Nm.Sz k (Nm.val xs) := Nat.lt_of_lt_of_le (Nm.val_lt h6.dig) (Nat.pow_le_pow_right (by omega) hk)
  have zy : Nm.Sz l (Nm.val ys) := Nat.lt_of_lt_of_le (Nm.val_lt k6.dig) (Nat.pow_le_pow_right (by omega) hl)
  refine ⟨cs, h1, a, b, h2, h3, c, d, h4, ⟨A, e, ?_, ?_, zx⟩, ⟨B, f, ?_, ?_, zy⟩⟩
  · rw [← ex]; exact h5
  · rw [← ex]; exact h6
  · rw [← ey]; exact k5
  · rw [← ey]; exact k6
def vldB (s : Bool) (xs ys : List Nat) : Bool := decide (Nm.tlen xs = xs.length) && (decide (Nm.tlen ys = ys.length) && (!decide (ys.length = 0) && (!(s && decide (xs.length = 0)) && decide (Nat.gcd (Nm.val xs) (Nm.val ys) = 1))))
def fitB (s : Bool) (xs ys : List Nat) : Bool := decide (xs.length ≤ 12) && (decide (ys.length ≤ 12) && vldB s xs ys)
theorem len_val {zs : List Nat} (hd : Nm.Dig zs) (ht : Nm.tlen zs = zs.length) : zs.length = 0 ↔ Nm.val zs = 0 := by
  have e := Nm.eq_nat hd ht
  constructor
  · intro h
    rw [List.eq_nil_of_length_eq_zero h]; rfl
  · intro h
    rw [e, h, Nm.nat_zero]; rfl
theorem vldB_vld {s : Bool} {xs ys : List Nat} (h : vldB s xs ys = true) (hx : Nm.Dig xs) (hy : Nm.Dig ys) : Nm.tlen xs = xs.length ∧ Nm.tlen ys = ys.length ∧ Rt.Vld s (Nm.val xs) (Nm.val ys) := by
  simp only [vldB, Bool.and_eq_true, decide_eq_true_eq, Bool.not_eq_true', decide_eq_false_iff_not, Bool.and_eq_false_iff] at h
  obtain ⟨h1, h2, h3, h4, h5⟩ := h
  refine ⟨h1, h2, fun e => h3 ((len_val hy h2).2 e), h5, fun hs e => ?_⟩
  rcases h4 with h4 | h4
  · rw [hs] at h4; cases h4
  · exact h4 ((len_val hx h1).2 e)
theorem Fact.few_fr {s : Bool} {xs ys : List Nat} {v : Value} {w : World} {k : Nat} (h : (Fact.agg (Con.few s xs ys)).holds v w) (hx : xs.length ≤ k) (hy : ys.length ≤ k) (hv : vldB s xs ys = true) : (Fact.fr k (Rt.of s (Nm.val xs) (Nm.val ys))).holds v w := by
  have hd : Nm.Dig xs ∧ Nm.Dig ys := by
    obtain ⟨cs, h1, a, b, h2, h3, c, d, h4, ⟨A, e, h5, h6⟩, ⟨B, f, k5, k6⟩⟩ := h
    exact ⟨h6.dig, k6.dig⟩
  obtain ⟨h1, h2, h3⟩ := vldB_vld hv hd.1 hd.2
  refine Fact.tri_eq (Fact.few_tri h h1 h2 hx hy) ?_ ?_ ?_
  · exact h3.ng.symm
  · exact h3.tp.symm
  · exact h3.den.symm
theorem Fact.pre_fr {s : Bool} {xs ys : List Nat} {v : Value} {w : World} (h : (Fact.agg (Con.pre s xs ys)).holds v w) (hf : fitB s xs ys = true) : (Fact.fr 12 (Rt.of s (Nm.val xs) (Nm.val ys))).holds v w := by
  simp only [fitB, Bool.and_eq_true, decide_eq_true_eq] at hf
  exact Fact.few_fr (Fact.pre_few h (by omega) (by omega)) hf.1 hf.2.1 hf.2.2
theorem d_valid (zs : List Nat) (b : Bool) (hb : decide (Nm.tlen zs = zs.length) = b) : ∀ v w, (Fact.agg (Con.dg zs)).holds v w → Calls Tryd.prog 11 #[v] w (Ret (Fact.eq (.bool b)) w) := by
  rintro v w ⟨cs, rfl, A, c, rfl, hn⟩
  exact (refValid_any A c _ w hn.rd (by have := hn.small; omega)).mono fun _ _ ⟨he, hb'⟩ => ⟨_, he, hb', by rw [hb]; rfl⟩
def Fact.rowd (zs : List Nat) : Fact := ⟨fun v w => ∃ A c, v = .slice A zs.length c ∧ Rd w A zs, fun _ _ _ ⟨A, c, h, hn⟩ hb => ⟨A, c, h, hn.below hb⟩⟩
theorem len_rowd {zs : List Nat} : ∀ v w, (Fact.rowd zs).holds v w → ∃ A c, v = .slice A zs.length c := fun _ _ ⟨A, c, h, _⟩ => ⟨A, c, h⟩
section
variable {ops : Array Oper} {Q : Exit → Act → World → Prop} {F : Nat → Fact} {base : List Nat} {N : Nat} {o : Oper}
theorem ob_loadrowd (t d : Nat) (zs : List Nat) (C : Con) (hC : ∀ w cs, C.is w cs → ∃ A c, cs = [.slice A zs.length c] ∧ Rd w A zs) (ho : o.op = .load 22 (.tmp t)) (hd : o.dst = some d) (hg : GuardOk ops F base N o) (hk : known ops base o t = true) (hv : Points (F t) C) (hF : F d = Fact.rowd zs) : Ob ops Q F base N o :=
  ob_val hg fun a w hf => by
    obtain ⟨b, off, h2, _, cs, hc, his⟩ := hv _ _ (hf t hk)
    obtain ⟨A, c, rfl, hn⟩ := hC w cs his
    have h3 : a.eval (.tmp t) = .pointer (some ⟨b, off, none⟩) := h2
    have h4 := load22 w b off A _ c (by simpa using hc 0 _ rfl)
    refine ⟨.slice A zs.length c, w, by simp [execOp, ho, h3, h4], Below.refl _ _, fun s hs => ?_⟩
    rw [hd] at hs; injection hs with hs; subst hs; rw [hF]
    exact ⟨A, c, rfl, hn⟩
end
theorem any_row {zs : List Nat} : ∀ w cs, (Con.any_ zs).is w cs → ∃ A c, cs = [.slice A zs.length c] ∧ Rd w A zs := fun _ _ ⟨A, c, h, hn, _⟩ => ⟨A, c, h, hn⟩
theorem dg_row {zs : List Nat} : ∀ w cs, (Con.dg zs).is w cs → ∃ A c, cs = [.slice A zs.length c] ∧ Rd w A zs := fun _ _ ⟨A, c, h, hn⟩ => ⟨A, c, h, hn.rd⟩
end Go.Proofs.YtjfehdkfogdpgaaDoor
namespace Go.Proofs.YtjfehdkfogdpgaaDoor
open Go.RowKit
def vldT (s : Bool) (p q : Nat) : Bool := !decide (q = 0) && (!(s && decide (p = 0)) && decide (Nat.gcd p q = 1))
theorem vldB_no1 {s : Bool} {xs ys : List Nat} (h : decide (Nm.tlen xs = xs.length) = false) : vldB s xs ys = false := by unfold vldB; rw [h]; rfl
theorem vldB_no2 {s : Bool} {xs ys : List Nat} (h1 : decide (Nm.tlen xs = xs.length) = true) (h : decide (Nm.tlen ys = ys.length) = false) : vldB s xs ys = false := by unfold vldB; rw [h1, h]; rfl
theorem vldB_vldT {s : Bool} {xs ys : List Nat} (hx : Nm.Dig xs) (hy : Nm.Dig ys) (h1 : decide (Nm.tlen xs = xs.length) = true) (h2 : decide (Nm.tlen ys = ys.length) = true) : vldB s xs ys = vldT s (Nm.val xs) (Nm.val ys) := by
  unfold vldB vldT
  rw [h1, h2]
  have e1 := len_val hx (of_decide_eq_true h1)
  have e2 := len_val hy (of_decide_eq_true h2)
  simp only [e1, e2, Bool.true_and]
set_option maxRecDepth 100000 in
theorem z_valid_a (k l : Nat) (s : Bool) (p q : Nat) (hq : q = 0) : ∀ v0 w, (Fact.agg (Con.tri k l s p q)).holds v0 w → Calls Tryd.prog 15 #[v0] w (Ret (Fact.eq (.bool false)) w) := by
  intro v0 w hv0
  refine sym_calls 34 [(0, Fact.agg (Con.tri k l s p q))] Tryd.func15 rfl rfl (Nat.le_of_ble_eq_true rfl) (fcs ⟨⟨Nat.le_of_ble_eq_true rfl, hv0⟩, fnl⟩) fun a st => ?_
  have hb := Below.refl w.heap.size w
  refine wp_seq ?_
  refine sym_region st [(1, Fact.var' (Con.tri k l s p q)), (2, Fact.eq (.bool false))] [1] 2 (by kernel_rfl) (by kernel_rfl) (by kernel_rfl) (Nat.le_of_ble_eq_true rfl) (by kernel_rfl) rfl rfl ?_ ?_
  · refine fcs ⟨obn_box 28 0 1 _ (Con.tri k l s p q) rfl rfl rfl (by kernel_rfl) rfl rfl, ?_⟩
    refine fcs ⟨Ob.new_ (ob_const (.bool false) 2 (.inr rfl) rfl (.inl rfl) rfl) (by kernel_rfl), ?_⟩
    exact fnl
  intro a1 w1 st1 hbr1 hfr
  have hs1 := hbr1.size
  have hb := up hb hbr1
  obtain ⟨b1, c1⟩ := (show (Fact.var' (Con.tri k l s p q)).holds _ _ from st1.at_ 1)
  have g1 := hfr.ge (s := 1) rfl c1.1
  have st : St 34 [(1, Fact.cell b1 (Con.tri k l s p q)), (2, Fact.eq (.bool false))] a1 w1 := st1.to (fcs ⟨c1, fcs ⟨st1.at_ 2, fnl⟩⟩)
  clear st1 hbr1 hfr c1
  refine wpList_nil ?_
  refine then_normal ?_
  refine wp_seq ?_
  refine wp_seq ?_
  refine sym_region st [(3, Fact.ptr (Con.nn k p)), (4, Fact.agg (Con.nn k p)), (5, Fact.eq (.bool true)), (6, Fact.eq (.bool false)), (7, Fact.eq (.bool false)), (8, Fact.ptr (Con.nn l q)), (9, Fact.agg (Con.nn l q)), (10, Fact.eq (.bool true)), (11, Fact.eq (.bool false)), (12, Fact.eq (.bool false)), (13, Fact.eq (.bool false)), (14, Fact.ptr (Con.nn l q)), (15, Fact.agg (Con.nn l q)), (16, Fact.eq (.bool true)), (17, Fact.eq (.bool true)), (18, Fact.eq (.bool true)), (19, Fact.eq undef), (20, Fact.eq undef), (21, Fact.eq undef), (22, Fact.eq undef), (23, Fact.eq undef), (24, Fact.eq undef), (25, Fact.eq undef), (26, Fact.eq (.bool true))] [] 24 (by kernel_rfl) (by kernel_rfl) (by kernel_rfl) (Nat.le_of_ble_eq_true rfl) (by kernel_rfl) rfl rfl ?_ ?_
  · refine fcs ⟨Ob.new_ (ob_addr 28 1 1 3 1 (Con.tri k l s p q) (Con.nn k p) rfl rfl (.inl rfl) (by kernel_rfl) points_cell rfl (Con.tri_1 k l s p q) field26_1) (by kernel_rfl), ?_⟩
    refine fcs ⟨Ob.new_ (ob_read 24 3 4 (Con.nn k p) rfl rfl (.inl rfl) (by kernel_rfl) points_ptr rfl row24 info24) (by kernel_rfl), ?_⟩
    refine fcs ⟨Ob.new_ (ob_call1 11 4 5 _ rfl rfl (.inl rfl) (by kernel_rfl) (by kernel_rfl) (r_valid k p)) (by kernel_rfl), ?_⟩
    refine fcs ⟨Ob.new_ (ob_not 5 6 true false rfl rfl rfl (.inl rfl) (by kernel_rfl) rfl rfl) (by kernel_rfl), ?_⟩
    refine fcs ⟨Ob.new_ (ob_copy 6 7 (.inl rfl) rfl (.inl rfl) (by kernel_rfl) rfl) (by kernel_rfl), ?_⟩
    refine fcs ⟨Ob.new_ (ob_addr 28 2 1 8 2 (Con.tri k l s p q) (Con.nn l q) rfl rfl (.inr ⟨_, _, _, rfl, rfl, by kernel_rfl, by decide, rfl⟩) (by kernel_rfl) points_cell rfl (Con.tri_2 k l s p q) field26_2) (by kernel_rfl), ?_⟩
    refine fcs ⟨Ob.new_ (ob_read 24 8 9 (Con.nn l q) rfl rfl (.inr ⟨_, _, _, rfl, rfl, by kernel_rfl, by decide, rfl⟩) (by kernel_rfl) points_ptr rfl row24 info24) (by kernel_rfl), ?_⟩
    refine fcs ⟨Ob.new_ (ob_call1 11 9 10 _ rfl rfl (.inr ⟨_, _, _, rfl, rfl, by kernel_rfl, by decide, rfl⟩) (by kernel_rfl) (by kernel_rfl) (r_valid l q)) (by kernel_rfl), ?_⟩
    refine fcs ⟨Ob.new_ (ob_not 10 11 true false rfl rfl rfl (.inr ⟨_, _, _, rfl, rfl, by kernel_rfl, by decide, rfl⟩) (by kernel_rfl) rfl rfl) (by kernel_rfl), ?_⟩
    refine fcs ⟨Ob.new_ (ob_pick_else 7 11 12 (.bool true) rfl rfl (.inl rfl) (by kernel_rfl) (by kernel_rfl) rfl rfl) (by kernel_rfl), ?_⟩
    refine fcs ⟨Ob.new_ (ob_copy 12 13 (.inl rfl) rfl (.inl rfl) (by kernel_rfl) rfl) (by kernel_rfl), ?_⟩
    refine fcs ⟨Ob.new_ (ob_addr 28 2 1 14 2 (Con.tri k l s p q) (Con.nn l q) rfl rfl (.inr ⟨_, _, _, rfl, rfl, by kernel_rfl, by decide, rfl⟩) (by kernel_rfl) points_cell rfl (Con.tri_2 k l s p q) field26_2) (by kernel_rfl), ?_⟩
    refine fcs ⟨Ob.new_ (ob_read 24 14 15 (Con.nn l q) rfl rfl (.inr ⟨_, _, _, rfl, rfl, by kernel_rfl, by decide, rfl⟩) (by kernel_rfl) points_ptr rfl row24 info24) (by kernel_rfl), ?_⟩
    refine fcs ⟨Ob.new_ (ob_call1 34 15 16 _ rfl rfl (.inr ⟨_, _, _, rfl, rfl, by kernel_rfl, by decide, rfl⟩) (by kernel_rfl) (by kernel_rfl) (z_zero l q true (decide_eq_true hq))) (by kernel_rfl), ?_⟩
    refine fcs ⟨Ob.new_ (ob_pick_else 13 16 17 (.bool true) rfl rfl (.inl rfl) (by kernel_rfl) (by kernel_rfl) rfl rfl) (by kernel_rfl), ?_⟩
    refine fcs ⟨Ob.new_ (ob_copy 17 18 (.inl rfl) rfl (.inl rfl) (by kernel_rfl) rfl) (by kernel_rfl), ?_⟩
    refine fcs ⟨Ob.new_ (ob_skip 15 18 19 false rfl rfl (by kernel_rfl) (by decide) rfl rfl rfl) (by kernel_rfl), ?_⟩
    refine fcs ⟨Ob.new_ (ob_skip 15 18 20 false rfl rfl (by kernel_rfl) (by decide) rfl rfl rfl) (by kernel_rfl), ?_⟩
    refine fcs ⟨Ob.new_ (ob_skip 15 18 21 false rfl rfl (by kernel_rfl) (by decide) rfl rfl rfl) (by kernel_rfl), ?_⟩
    refine fcs ⟨Ob.new_ (ob_skip2 18 21 22 true rfl rfl (by kernel_rfl) (by decide) rfl rfl rfl) (by kernel_rfl), ?_⟩
    refine fcs ⟨Ob.new_ (ob_skip2 18 21 23 true rfl rfl (by kernel_rfl) (by decide) rfl rfl rfl) (by kernel_rfl), ?_⟩
    refine fcs ⟨Ob.new_ (ob_skip2 18 21 24 true rfl rfl (by kernel_rfl) (by decide) rfl rfl rfl) (by kernel_rfl), ?_⟩
    refine fcs ⟨Ob.new_ (ob_skip 15 18 25 false rfl rfl (by kernel_rfl) (by decide) rfl rfl rfl) (by kernel_rfl), ?_⟩
    refine fcs ⟨Ob.new_ (ob_pick_or 18 25 26 (.bool true) rfl rfl (.inl rfl) (by kernel_rfl) rfl rfl) (by kernel_rfl), ?_⟩
    exact fnl
  intro a2 w2 st2 hbr2 hfr
  have hs2 := hbr2.size
  have hb := up hb hbr2
  have st : St 34 [(1, Fact.cell b1 (Con.tri k l s p q)), (2, Fact.eq (.bool false)), (26, Fact.eq (.bool true))] a2 w2 := st2.to (fcs ⟨st2.at_ 1, fcs ⟨st2.at_ 2, fcs ⟨st2.at_ 26, fnl⟩⟩⟩)
  clear st2 hbr2 hfr
  refine wpList_nil ?_
  refine then_normal ?_
  refine wp_cond_true (st.at_ 26) ?_
  refine wp_seq ?_
  have st := st.to (ks' := [(1, Fact.cell b1 (Con.tri k l s p q)), (26, Fact.eq (.bool true))]) (fcs ⟨st.at_ 1, fcs ⟨st.at_ 26, fnl⟩⟩)
  refine sym_region st [(2, Fact.eq (.bool false))] [] 1 (by kernel_rfl) (by kernel_rfl) (by kernel_rfl) (Nat.le_of_ble_eq_true rfl) (by kernel_rfl) rfl rfl ?_ ?_
  · refine fcs ⟨Ob.new_ (ob_const (.bool false) 2 (.inr rfl) rfl (.inl rfl) rfl) (by kernel_rfl), ?_⟩
    exact fnl
  intro a3 w3 st3 hbr3 hfr
  have hs3 := hbr3.size
  have hb := up hb hbr3
  have st : St 34 [(1, Fact.cell b1 (Con.tri k l s p q)), (2, Fact.eq (.bool false))] a3 w3 := st3.to (fcs ⟨st3.at_ 1, fcs ⟨st3.at_ 2, fnl⟩⟩)
  clear st3 hbr3 hfr
  refine wpList_nil ?_
  refine then_normal ?_
  refine wp_ret ?_
  exact sym_ret1 rfl st.defers (resAt_tmp st 2) hb (fun _ h => h)
set_option maxRecDepth 100000 in
theorem z_valid_b (k l : Nat) (p q : Nat) (hq : q ≠ 0) (hp : p = 0) : ∀ v0 w, (Fact.agg (Con.tri k l true p q)).holds v0 w → Calls Tryd.prog 15 #[v0] w (Ret (Fact.eq (.bool false)) w) := by
  intro v0 w hv0
  refine sym_calls 34 [(0, Fact.agg (Con.tri k l true p q))] Tryd.func15 rfl rfl (Nat.le_of_ble_eq_true rfl) (fcs ⟨⟨Nat.le_of_ble_eq_true rfl, hv0⟩, fnl⟩) fun a st => ?_
  have hb := Below.refl w.heap.size w
  refine wp_seq ?_
  refine sym_region st [(1, Fact.var' (Con.tri k l true p q)), (2, Fact.eq (.bool false))] [1] 2 (by kernel_rfl) (by kernel_rfl) (by kernel_rfl) (Nat.le_of_ble_eq_true rfl) (by kernel_rfl) rfl rfl ?_ ?_
  · refine fcs ⟨obn_box 28 0 1 _ (Con.tri k l true p q) rfl rfl rfl (by kernel_rfl) rfl rfl, ?_⟩
    refine fcs ⟨Ob.new_ (ob_const (.bool false) 2 (.inr rfl) rfl (.inl rfl) rfl) (by kernel_rfl), ?_⟩
    exact fnl
  intro a1 w1 st1 hbr1 hfr
  have hs1 := hbr1.size
  have hb := up hb hbr1
  obtain ⟨b1, c1⟩ := (show (Fact.var' (Con.tri k l true p q)).holds _ _ from st1.at_ 1)
  have g1 := hfr.ge (s := 1) rfl c1.1
  have st : St 34 [(1, Fact.cell b1 (Con.tri k l true p q)), (2, Fact.eq (.bool false))] a1 w1 := st1.to (fcs ⟨c1, fcs ⟨st1.at_ 2, fnl⟩⟩)
  clear st1 hbr1 hfr c1
  refine wpList_nil ?_
  refine then_normal ?_
  refine wp_seq ?_
  refine wp_seq ?_
  refine sym_region st [(3, Fact.ptr (Con.nn k p)), (4, Fact.agg (Con.nn k p)), (5, Fact.eq (.bool true)), (6, Fact.eq (.bool false)), (7, Fact.eq (.bool false)), (8, Fact.ptr (Con.nn l q)), (9, Fact.agg (Con.nn l q)), (10, Fact.eq (.bool true)), (11, Fact.eq (.bool false)), (12, Fact.eq (.bool false)), (13, Fact.eq (.bool false)), (14, Fact.ptr (Con.nn l q)), (15, Fact.agg (Con.nn l q)), (16, Fact.eq (.bool false)), (17, Fact.eq (.bool false)), (18, Fact.eq (.bool false)), (19, Fact.ptr (Con.bool true)), (20, Fact.eq (.bool true)), (21, Fact.eq (.bool true)), (22, Fact.ptr (Con.nn k p)), (23, Fact.agg (Con.nn k p)), (24, Fact.eq (.bool true)), (25, Fact.eq (.bool true)), (26, Fact.eq (.bool true))] [] 24 (by kernel_rfl) (by kernel_rfl) (by kernel_rfl) (Nat.le_of_ble_eq_true rfl) (by kernel_rfl) rfl rfl ?_ ?_
  · refine fcs ⟨Ob.new_ (ob_addr 28 1 1 3 1 (Con.tri k l true p q) (Con.nn k p) rfl rfl (.inl rfl) (by kernel_rfl) points_cell rfl (Con.tri_1 k l true p q) field26_1) (by kernel_rfl), ?_⟩
    refine fcs ⟨Ob.new_ (ob_read 24 3 4 (Con.nn k p) rfl rfl (.inl rfl) (by kernel_rfl) points_ptr rfl row24 info24) (by kernel_rfl), ?_⟩
    refine fcs ⟨Ob.new_ (ob_call1 11 4 5 _ rfl rfl (.inl rfl) (by kernel_rfl) (by kernel_rfl) (r_valid k p)) (by kernel_rfl), ?_⟩
    refine fcs ⟨Ob.new_ (ob_not 5 6 true false rfl rfl rfl (.inl rfl) (by kernel_rfl) rfl rfl) (by kernel_rfl), ?_⟩
    refine fcs ⟨Ob.new_ (ob_copy 6 7 (.inl rfl) rfl (.inl rfl) (by kernel_rfl) rfl) (by kernel_rfl), ?_⟩
    refine fcs ⟨Ob.new_ (ob_addr 28 2 1 8 2 (Con.tri k l true p q) (Con.nn l q) rfl rfl (.inr ⟨_, _, _, rfl, rfl, by kernel_rfl, by decide, rfl⟩) (by kernel_rfl) points_cell rfl (Con.tri_2 k l true p q) field26_2) (by kernel_rfl), ?_⟩
    refine fcs ⟨Ob.new_ (ob_read 24 8 9 (Con.nn l q) rfl rfl (.inr ⟨_, _, _, rfl, rfl, by kernel_rfl, by decide, rfl⟩) (by kernel_rfl) points_ptr rfl row24 info24) (by kernel_rfl), ?_⟩
    refine fcs ⟨Ob.new_ (ob_call1 11 9 10 _ rfl rfl (.inr ⟨_, _, _, rfl, rfl, by kernel_rfl, by decide, rfl⟩) (by kernel_rfl) (by kernel_rfl) (r_valid l q)) (by kernel_rfl), ?_⟩
    refine fcs ⟨Ob.new_ (ob_not 10 11 true false rfl rfl rfl (.inr ⟨_, _, _, rfl, rfl, by kernel_rfl, by decide, rfl⟩) (by kernel_rfl) rfl rfl) (by kernel_rfl), ?_⟩
    refine fcs ⟨Ob.new_ (ob_pick_else 7 11 12 (.bool true) rfl rfl (.inl rfl) (by kernel_rfl) (by kernel_rfl) rfl rfl) (by kernel_rfl), ?_⟩
    refine fcs ⟨Ob.new_ (ob_copy 12 13 (.inl rfl) rfl (.inl rfl) (by kernel_rfl) rfl) (by kernel_rfl), ?_⟩
    refine fcs ⟨Ob.new_ (ob_addr 28 2 1 14 2 (Con.tri k l true p q) (Con.nn l q) rfl rfl (.inr ⟨_, _, _, rfl, rfl, by kernel_rfl, by decide, rfl⟩) (by kernel_rfl) points_cell rfl (Con.tri_2 k l true p q) field26_2) (by kernel_rfl), ?_⟩
    refine fcs ⟨Ob.new_ (ob_read 24 14 15 (Con.nn l q) rfl rfl (.inr ⟨_, _, _, rfl, rfl, by kernel_rfl, by decide, rfl⟩) (by kernel_rfl) points_ptr rfl row24 info24) (by kernel_rfl), ?_⟩
    refine fcs ⟨Ob.new_ (ob_call1 34 15 16 _ rfl rfl (.inr ⟨_, _, _, rfl, rfl, by kernel_rfl, by decide, rfl⟩) (by kernel_rfl) (by kernel_rfl) (z_zero l q false (decide_eq_false hq))) (by kernel_rfl), ?_⟩
    refine fcs ⟨Ob.new_ (ob_pick_else 13 16 17 (.bool true) rfl rfl (.inl rfl) (by kernel_rfl) (by kernel_rfl) rfl rfl) (by kernel_rfl), ?_⟩
    refine fcs ⟨Ob.new_ (ob_copy 17 18 (.inl rfl) rfl (.inl rfl) (by kernel_rfl) rfl) (by kernel_rfl), ?_⟩
    refine fcs ⟨Ob.new_ (ob_addr 28 0 1 19 0 (Con.tri k l true p q) (Con.bool true) rfl rfl (.inr ⟨_, _, _, rfl, rfl, by kernel_rfl, by decide, rfl⟩) (by kernel_rfl) points_cell rfl (Con.tri_0 k l true p q) field26_0) (by kernel_rfl), ?_⟩
    refine fcs ⟨Ob.new_ (ob_readb 19 20 true true rfl rfl rfl (.inr ⟨_, _, _, rfl, rfl, by kernel_rfl, by decide, rfl⟩) (by kernel_rfl) points_ptr rfl) (by kernel_rfl), ?_⟩
    refine fcs ⟨Ob.new_ (ob_copy 20 21 (.inl rfl) rfl (.inr ⟨_, _, _, rfl, rfl, by kernel_rfl, by decide, rfl⟩) (by kernel_rfl) rfl) (by kernel_rfl), ?_⟩
    refine fcs ⟨Ob.new_ (ob_addr 28 1 1 22 1 (Con.tri k l true p q) (Con.nn k p) rfl rfl (.inr ⟨_, _, _, rfl, rfl, by kernel_rfl, by decide, rfl⟩) (by kernel_rfl) points_cell rfl (Con.tri_1 k l true p q) field26_1) (by kernel_rfl), ?_⟩
    refine fcs ⟨Ob.new_ (ob_read 24 22 23 (Con.nn k p) rfl rfl (.inr ⟨_, _, _, rfl, rfl, by kernel_rfl, by decide, rfl⟩) (by kernel_rfl) points_ptr rfl row24 info24) (by kernel_rfl), ?_⟩
    refine fcs ⟨Ob.new_ (ob_call1 34 23 24 _ rfl rfl (.inr ⟨_, _, _, rfl, rfl, by kernel_rfl, by decide, rfl⟩) (by kernel_rfl) (by kernel_rfl) (z_zero k p true (decide_eq_true hp))) (by kernel_rfl), ?_⟩
    refine fcs ⟨Ob.new_ (ob_pick 21 24 25 _ rfl rfl (.inr ⟨_, _, _, rfl, rfl, by kernel_rfl, by decide, rfl⟩) (by kernel_rfl) (by kernel_rfl) rfl rfl) (by kernel_rfl), ?_⟩
    refine fcs ⟨Ob.new_ (ob_pick_else 18 25 26 (.bool true) rfl rfl (.inl rfl) (by kernel_rfl) (by kernel_rfl) rfl rfl) (by kernel_rfl), ?_⟩
    exact fnl
  intro a2 w2 st2 hbr2 hfr
  have hs2 := hbr2.size
  have hb := up hb hbr2
  have st : St 34 [(1, Fact.cell b1 (Con.tri k l true p q)), (2, Fact.eq (.bool false)), (26, Fact.eq (.bool true))] a2 w2 := st2.to (fcs ⟨st2.at_ 1, fcs ⟨st2.at_ 2, fcs ⟨st2.at_ 26, fnl⟩⟩⟩)
  clear st2 hbr2 hfr
  refine wpList_nil ?_
  refine then_normal ?_
  refine wp_cond_true (st.at_ 26) ?_
  refine wp_seq ?_
  have st := st.to (ks' := [(1, Fact.cell b1 (Con.tri k l true p q)), (26, Fact.eq (.bool true))]) (fcs ⟨st.at_ 1, fcs ⟨st.at_ 26, fnl⟩⟩)
  refine sym_region st [(2, Fact.eq (.bool false))] [] 1 (by kernel_rfl) (by kernel_rfl) (by kernel_rfl) (Nat.le_of_ble_eq_true rfl) (by kernel_rfl) rfl rfl ?_ ?_
  · refine fcs ⟨Ob.new_ (ob_const (.bool false) 2 (.inr rfl) rfl (.inl rfl) rfl) (by kernel_rfl), ?_⟩
    exact fnl
  intro a3 w3 st3 hbr3 hfr
  have hs3 := hbr3.size
  have hb := up hb hbr3
  have st : St 34 [(1, Fact.cell b1 (Con.tri k l true p q)), (2, Fact.eq (.bool false))] a3 w3 := st3.to (fcs ⟨st3.at_ 1, fcs ⟨st3.at_ 2, fnl⟩⟩)
  clear st3 hbr3 hfr
  refine wpList_nil ?_
  refine then_normal ?_
  refine wp_ret ?_
  exact sym_ret1 rfl st.defers (resAt_tmp st 2) hb (fun _ h => h)
set_option maxRecDepth 100000 in
theorem z_valid_c (k l : Nat) (p q : Nat) (hq : q ≠ 0) (hp : p ≠ 0) (hk : k ≤ 300) (hl : l ≤ 300) (b : Bool) (hbd : decide (Nat.gcd p q = 1) = b) : ∀ v0 w, (Fact.agg (Con.tri k l true p q)).holds v0 w → Calls Tryd.prog 15 #[v0] w (Ret (Fact.eq (.bool b)) w) := by
  intro v0 w hv0
  refine sym_calls 34 [(0, Fact.agg (Con.tri k l true p q))] Tryd.func15 rfl rfl (Nat.le_of_ble_eq_true rfl) (fcs ⟨⟨Nat.le_of_ble_eq_true rfl, hv0⟩, fnl⟩) fun a st => ?_
  have hb := Below.refl w.heap.size w
  refine wp_seq ?_
  refine sym_region st [(1, Fact.var' (Con.tri k l true p q)), (2, Fact.eq (.bool false))] [1] 2 (by kernel_rfl) (by kernel_rfl) (by kernel_rfl) (Nat.le_of_ble_eq_true rfl) (by kernel_rfl) rfl rfl ?_ ?_
  · refine fcs ⟨obn_box 28 0 1 _ (Con.tri k l true p q) rfl rfl rfl (by kernel_rfl) rfl rfl, ?_⟩
    refine fcs ⟨Ob.new_ (ob_const (.bool false) 2 (.inr rfl) rfl (.inl rfl) rfl) (by kernel_rfl), ?_⟩
    exact fnl
  intro a1 w1 st1 hbr1 hfr
  have hs1 := hbr1.size
  have hb := up hb hbr1
  obtain ⟨b1, c1⟩ := (show (Fact.var' (Con.tri k l true p q)).holds _ _ from st1.at_ 1)
  have g1 := hfr.ge (s := 1) rfl c1.1
  have st : St 34 [(1, Fact.cell b1 (Con.tri k l true p q)), (2, Fact.eq (.bool false))] a1 w1 := st1.to (fcs ⟨c1, fcs ⟨st1.at_ 2, fnl⟩⟩)
  clear st1 hbr1 hfr c1
  refine wpList_nil ?_
  refine then_normal ?_
  refine wp_seq ?_
  refine wp_seq ?_
  refine sym_region st [(3, Fact.ptr (Con.nn k p)), (4, Fact.agg (Con.nn k p)), (5, Fact.eq (.bool true)), (6, Fact.eq (.bool false)), (7, Fact.eq (.bool false)), (8, Fact.ptr (Con.nn l q)), (9, Fact.agg (Con.nn l q)), (10, Fact.eq (.bool true)), (11, Fact.eq (.bool false)), (12, Fact.eq (.bool false)), (13, Fact.eq (.bool false)), (14, Fact.ptr (Con.nn l q)), (15, Fact.agg (Con.nn l q)), (16, Fact.eq (.bool false)), (17, Fact.eq (.bool false)), (18, Fact.eq (.bool false)), (19, Fact.ptr (Con.bool true)), (20, Fact.eq (.bool true)), (21, Fact.eq (.bool true)), (22, Fact.ptr (Con.nn k p)), (23, Fact.agg (Con.nn k p)), (24, Fact.eq (.bool false)), (25, Fact.eq (.bool false)), (26, Fact.eq (.bool false))] [] 24 (by kernel_rfl) (by kernel_rfl) (by kernel_rfl) (Nat.le_of_ble_eq_true rfl) (by kernel_rfl) rfl rfl ?_ ?_
  · refine fcs ⟨Ob.new_ (ob_addr 28 1 1 3 1 (Con.tri k l true p q) (Con.nn k p) rfl rfl (.inl rfl) (by kernel_rfl) points_cell rfl (Con.tri_1 k l true p q) field26_1) (by kernel_rfl), ?_⟩
    refine fcs ⟨Ob.new_ (ob_read 24 3 4 (Con.nn k p) rfl rfl (.inl rfl) (by kernel_rfl) points_ptr rfl row24 info24) (by kernel_rfl), ?_⟩
    refine fcs ⟨Ob.new_ (ob_call1 11 4 5 _ rfl rfl (.inl rfl) (by kernel_rfl) (by kernel_rfl) (r_valid k p)) (by kernel_rfl), ?_⟩
    refine fcs ⟨Ob.new_ (ob_not 5 6 true false rfl rfl rfl (.inl rfl) (by kernel_rfl) rfl rfl) (by kernel_rfl), ?_⟩
    refine fcs ⟨Ob.new_ (ob_copy 6 7 (.inl rfl) rfl (.inl rfl) (by kernel_rfl) rfl) (by kernel_rfl), ?_⟩
    refine fcs ⟨Ob.new_ (ob_addr 28 2 1 8 2 (Con.tri k l true p q) (Con.nn l q) rfl rfl (.inr ⟨_, _, _, rfl, rfl, by kernel_rfl, by decide, rfl⟩) (by kernel_rfl) points_cell rfl (Con.tri_2 k l true p q) field26_2) (by kernel_rfl), ?_⟩
    refine fcs ⟨Ob.new_ (ob_read 24 8 9 (Con.nn l q) rfl rfl (.inr ⟨_, _, _, rfl, rfl, by kernel_rfl, by decide, rfl⟩) (by kernel_rfl) points_ptr rfl row24 info24) (by kernel_rfl), ?_⟩
    refine fcs ⟨Ob.new_ (ob_call1 11 9 10 _ rfl rfl (.inr ⟨_, _, _, rfl, rfl, by kernel_rfl, by decide, rfl⟩) (by kernel_rfl) (by kernel_rfl) (r_valid l q)) (by kernel_rfl), ?_⟩
    refine fcs ⟨Ob.new_ (ob_not 10 11 true false rfl rfl rfl (.inr ⟨_, _, _, rfl, rfl, by kernel_rfl, by decide, rfl⟩) (by kernel_rfl) rfl rfl) (by kernel_rfl), ?_⟩
    refine fcs ⟨Ob.new_ (ob_pick_else 7 11 12 (.bool true) rfl rfl (.inl rfl) (by kernel_rfl) (by kernel_rfl) rfl rfl) (by kernel_rfl), ?_⟩
    refine fcs ⟨Ob.new_ (ob_copy 12 13 (.inl rfl) rfl (.inl rfl) (by kernel_rfl) rfl) (by kernel_rfl), ?_⟩
    refine fcs ⟨Ob.new_ (ob_addr 28 2 1 14 2 (Con.tri k l true p q) (Con.nn l q) rfl rfl (.inr ⟨_, _, _, rfl, rfl, by kernel_rfl, by decide, rfl⟩) (by kernel_rfl) points_cell rfl (Con.tri_2 k l true p q) field26_2) (by kernel_rfl), ?_⟩
    refine fcs ⟨Ob.new_ (ob_read 24 14 15 (Con.nn l q) rfl rfl (.inr ⟨_, _, _, rfl, rfl, by kernel_rfl, by decide, rfl⟩) (by kernel_rfl) points_ptr rfl row24 info24) (by kernel_rfl), ?_⟩
    refine fcs ⟨Ob.new_ (ob_call1 34 15 16 _ rfl rfl (.inr ⟨_, _, _, rfl, rfl, by kernel_rfl, by decide, rfl⟩) (by kernel_rfl) (by kernel_rfl) (z_zero l q false (decide_eq_false hq))) (by kernel_rfl), ?_⟩
    refine fcs ⟨Ob.new_ (ob_pick_else 13 16 17 (.bool true) rfl rfl (.inl rfl) (by kernel_rfl) (by kernel_rfl) rfl rfl) (by kernel_rfl), ?_⟩
    refine fcs ⟨Ob.new_ (ob_copy 17 18 (.inl rfl) rfl (.inl rfl) (by kernel_rfl) rfl) (by kernel_rfl), ?_⟩
    refine fcs ⟨Ob.new_ (ob_addr 28 0 1 19 0 (Con.tri k l true p q) (Con.bool true) rfl rfl (.inr ⟨_, _, _, rfl, rfl, by kernel_rfl, by decide, rfl⟩) (by kernel_rfl) points_cell rfl (Con.tri_0 k l true p q) field26_0) (by kernel_rfl), ?_⟩
    refine fcs ⟨Ob.new_ (ob_readb 19 20 true true rfl rfl rfl (.inr ⟨_, _, _, rfl, rfl, by kernel_rfl, by decide, rfl⟩) (by kernel_rfl) points_ptr rfl) (by kernel_rfl), ?_⟩
    refine fcs ⟨Ob.new_ (ob_copy 20 21 (.inl rfl) rfl (.inr ⟨_, _, _, rfl, rfl, by kernel_rfl, by decide, rfl⟩) (by kernel_rfl) rfl) (by kernel_rfl), ?_⟩
    refine fcs ⟨Ob.new_ (ob_addr 28 1 1 22 1 (Con.tri k l true p q) (Con.nn k p) rfl rfl (.inr ⟨_, _, _, rfl, rfl, by kernel_rfl, by decide, rfl⟩) (by kernel_rfl) points_cell rfl (Con.tri_1 k l true p q) field26_1) (by kernel_rfl), ?_⟩
    refine fcs ⟨Ob.new_ (ob_read 24 22 23 (Con.nn k p) rfl rfl (.inr ⟨_, _, _, rfl, rfl, by kernel_rfl, by decide, rfl⟩) (by kernel_rfl) points_ptr rfl row24 info24) (by kernel_rfl), ?_⟩
    refine fcs ⟨Ob.new_ (ob_call1 34 23 24 _ rfl rfl (.inr ⟨_, _, _, rfl, rfl, by kernel_rfl, by decide, rfl⟩) (by kernel_rfl) (by kernel_rfl) (z_zero k p false (decide_eq_false hp))) (by kernel_rfl), ?_⟩
    refine fcs ⟨Ob.new_ (ob_pick 21 24 25 _ rfl rfl (.inr ⟨_, _, _, rfl, rfl, by kernel_rfl, by decide, rfl⟩) (by kernel_rfl) (by kernel_rfl) rfl rfl) (by kernel_rfl), ?_⟩
    refine fcs ⟨Ob.new_ (ob_pick_else 18 25 26 (.bool true) rfl rfl (.inl rfl) (by kernel_rfl) (by kernel_rfl) rfl rfl) (by kernel_rfl), ?_⟩
    exact fnl
  intro a2 w2 st2 hbr2 hfr
  have hs2 := hbr2.size
  have hb := up hb hbr2
  have st : St 34 [(1, Fact.cell b1 (Con.tri k l true p q)), (2, Fact.eq (.bool false)), (26, Fact.eq (.bool false))] a2 w2 := st2.to (fcs ⟨st2.at_ 1, fcs ⟨st2.at_ 2, fcs ⟨st2.at_ 26, fnl⟩⟩⟩)
  clear st2 hbr2 hfr
  refine wpList_nil ?_
  refine then_normal ?_
  refine wp_cond_false (st.at_ 26) ?_
  refine wp_skip ?_
  refine then_normal ?_
  refine wp_seq ?_
  have st := st.to (ks' := [(1, Fact.cell b1 (Con.tri k l true p q)), (26, Fact.eq (.bool false))]) (fcs ⟨st.at_ 1, fcs ⟨st.at_ 26, fnl⟩⟩)
  refine sym_region st [(27, Fact.ptr (Con.nn k p)), (28, Fact.agg (Con.nn k p)), (29, Fact.ptr (Con.nn l q)), (30, Fact.agg (Con.nn l q)), (31, Fact.agg (Con.nn l (Nat.gcd p q))), (32, Fact.agg (Con.nn 1 1)), (33, Fact.eq (.bool b)), (2, Fact.eq (.bool b))] [] 8 (by kernel_rfl) (by kernel_rfl) (by kernel_rfl) (Nat.le_of_ble_eq_true rfl) (by kernel_rfl) rfl rfl ?_ ?_
  · refine fcs ⟨Ob.new_ (ob_addr 28 1 1 27 1 (Con.tri k l true p q) (Con.nn k p) rfl rfl (.inl rfl) (by kernel_rfl) points_cell rfl (Con.tri_1 k l true p q) field26_1) (by kernel_rfl), ?_⟩
    refine fcs ⟨Ob.new_ (ob_read 24 27 28 (Con.nn k p) rfl rfl (.inl rfl) (by kernel_rfl) points_ptr rfl row24 info24) (by kernel_rfl), ?_⟩
    refine fcs ⟨Ob.new_ (ob_addr 28 2 1 29 2 (Con.tri k l true p q) (Con.nn l q) rfl rfl (.inl rfl) (by kernel_rfl) points_cell rfl (Con.tri_2 k l true p q) field26_2) (by kernel_rfl), ?_⟩
    refine fcs ⟨Ob.new_ (ob_read 24 29 30 (Con.nn l q) rfl rfl (.inl rfl) (by kernel_rfl) points_ptr rfl row24 info24) (by kernel_rfl), ?_⟩
    refine fcs ⟨Ob.new_ (ob_call2 35 28 30 31 _ rfl rfl (.inl rfl) (by kernel_rfl) (by kernel_rfl) (by kernel_rfl) (r_gcd k l p q hq (by omega) (by omega))) (by kernel_rfl), ?_⟩
    refine fcs ⟨Ob.new_ (ob_callc 24 _ 32 _ rfl rfl (.inl rfl) (by kernel_rfl) (r_ofc 1 1 (by decide) (by unfold Nm.Sz; decide))) (by kernel_rfl), ?_⟩
    refine fcs ⟨Ob.new_ (ob_call2 26 31 32 33 _ rfl rfl (.inl rfl) (by kernel_rfl) (by kernel_rfl) (by kernel_rfl) (r_same l 1 (Nat.gcd p q) 1 b hbd)) (by kernel_rfl), ?_⟩
    refine fcs ⟨Ob.new_ (ob_copy 33 2 (.inr rfl) rfl (.inl rfl) (by kernel_rfl) rfl) (by kernel_rfl), ?_⟩
    exact fnl
  intro a3 w3 st3 hbr3 hfr
  have hs3 := hbr3.size
  have hb := up hb hbr3
  have st : St 34 [(2, Fact.eq (.bool b))] a3 w3 := st3.to (fcs ⟨st3.at_ 2, fnl⟩)
  clear st3 hbr3 hfr
  refine wpList_nil ?_
  refine then_normal ?_
  refine wp_ret ?_
  exact sym_ret1 rfl st.defers (resAt_tmp st 2) hb (fun _ h => h)
set_option maxRecDepth 100000 in
theorem z_valid_d (k l : Nat) (p q : Nat) (hq : q ≠ 0) (hk : k ≤ 300) (hl : l ≤ 300) (b : Bool) (hbd : decide (Nat.gcd p q = 1) = b) : ∀ v0 w, (Fact.agg (Con.tri k l false p q)).holds v0 w → Calls Tryd.prog 15 #[v0] w (Ret (Fact.eq (.bool b)) w) := by
  intro v0 w hv0
  refine sym_calls 34 [(0, Fact.agg (Con.tri k l false p q))] Tryd.func15 rfl rfl (Nat.le_of_ble_eq_true rfl) (fcs ⟨⟨Nat.le_of_ble_eq_true rfl, hv0⟩, fnl⟩) fun a st => ?_
  have hb := Below.refl w.heap.size w
  refine wp_seq ?_
  refine sym_region st [(1, Fact.var' (Con.tri k l false p q)), (2, Fact.eq (.bool false))] [1] 2 (by kernel_rfl) (by kernel_rfl) (by kernel_rfl) (Nat.le_of_ble_eq_true rfl) (by kernel_rfl) rfl rfl ?_ ?_
  · refine fcs ⟨obn_box 28 0 1 _ (Con.tri k l false p q) rfl rfl rfl (by kernel_rfl) rfl rfl, ?_⟩
    refine fcs ⟨Ob.new_ (ob_const (.bool false) 2 (.inr rfl) rfl (.inl rfl) rfl) (by kernel_rfl), ?_⟩
    exact fnl
  intro a1 w1 st1 hbr1 hfr
  have hs1 := hbr1.size
  have hb := up hb hbr1
  obtain ⟨b1, c1⟩ := (show (Fact.var' (Con.tri k l false p q)).holds _ _ from st1.at_ 1)
  have g1 := hfr.ge (s := 1) rfl c1.1
  have st : St 34 [(1, Fact.cell b1 (Con.tri k l false p q)), (2, Fact.eq (.bool false))] a1 w1 := st1.to (fcs ⟨c1, fcs ⟨st1.at_ 2, fnl⟩⟩)
  clear st1 hbr1 hfr c1
  refine wpList_nil ?_
  refine then_normal ?_
  refine wp_seq ?_
  refine wp_seq ?_
  refine sym_region st [(3, Fact.ptr (Con.nn k p)), (4, Fact.agg (Con.nn k p)), (5, Fact.eq (.bool true)), (6, Fact.eq (.bool false)), (7, Fact.eq (.bool false)), (8, Fact.ptr (Con.nn l q)), (9, Fact.agg (Con.nn l q)), (10, Fact.eq (.bool true)), (11, Fact.eq (.bool false)), (12, Fact.eq (.bool false)), (13, Fact.eq (.bool false)), (14, Fact.ptr (Con.nn l q)), (15, Fact.agg (Con.nn l q)), (16, Fact.eq (.bool false)), (17, Fact.eq (.bool false)), (18, Fact.eq (.bool false)), (19, Fact.ptr (Con.bool false)), (20, Fact.eq (.bool false)), (21, Fact.eq (.bool false)), (22, Fact.eq undef), (23, Fact.eq undef), (24, Fact.eq undef), (25, Fact.eq (.bool false)), (26, Fact.eq (.bool false))] [] 24 (by kernel_rfl) (by kernel_rfl) (by kernel_rfl) (Nat.le_of_ble_eq_true rfl) (by kernel_rfl) rfl rfl ?_ ?_
  · refine fcs ⟨Ob.new_ (ob_addr 28 1 1 3 1 (Con.tri k l false p q) (Con.nn k p) rfl rfl (.inl rfl) (by kernel_rfl) points_cell rfl (Con.tri_1 k l false p q) field26_1) (by kernel_rfl), ?_⟩
    refine fcs ⟨Ob.new_ (ob_read 24 3 4 (Con.nn k p) rfl rfl (.inl rfl) (by kernel_rfl) points_ptr rfl row24 info24) (by kernel_rfl), ?_⟩
    refine fcs ⟨Ob.new_ (ob_call1 11 4 5 _ rfl rfl (.inl rfl) (by kernel_rfl) (by kernel_rfl) (r_valid k p)) (by kernel_rfl), ?_⟩
    refine fcs ⟨Ob.new_ (ob_not 5 6 true false rfl rfl rfl (.inl rfl) (by kernel_rfl) rfl rfl) (by kernel_rfl), ?_⟩
    refine fcs ⟨Ob.new_ (ob_copy 6 7 (.inl rfl) rfl (.inl rfl) (by kernel_rfl) rfl) (by kernel_rfl), ?_⟩
    refine fcs ⟨Ob.new_ (ob_addr 28 2 1 8 2 (Con.tri k l false p q) (Con.nn l q) rfl rfl (.inr ⟨_, _, _, rfl, rfl, by kernel_rfl, by decide, rfl⟩) (by kernel_rfl) points_cell rfl (Con.tri_2 k l false p q) field26_2) (by kernel_rfl), ?_⟩
    refine fcs ⟨Ob.new_ (ob_read 24 8 9 (Con.nn l q) rfl rfl (.inr ⟨_, _, _, rfl, rfl, by kernel_rfl, by decide, rfl⟩) (by kernel_rfl) points_ptr rfl row24 info24) (by kernel_rfl), ?_⟩
    refine fcs ⟨Ob.new_ (ob_call1 11 9 10 _ rfl rfl (.inr ⟨_, _, _, rfl, rfl, by kernel_rfl, by decide, rfl⟩) (by kernel_rfl) (by kernel_rfl) (r_valid l q)) (by kernel_rfl), ?_⟩
    refine fcs ⟨Ob.new_ (ob_not 10 11 true false rfl rfl rfl (.inr ⟨_, _, _, rfl, rfl, by kernel_rfl, by decide, rfl⟩) (by kernel_rfl) rfl rfl) (by kernel_rfl), ?_⟩
    refine fcs ⟨Ob.new_ (ob_pick_else 7 11 12 (.bool true) rfl rfl (.inl rfl) (by kernel_rfl) (by kernel_rfl) rfl rfl) (by kernel_rfl), ?_⟩
    refine fcs ⟨Ob.new_ (ob_copy 12 13 (.inl rfl) rfl (.inl rfl) (by kernel_rfl) rfl) (by kernel_rfl), ?_⟩
    refine fcs ⟨Ob.new_ (ob_addr 28 2 1 14 2 (Con.tri k l false p q) (Con.nn l q) rfl rfl (.inr ⟨_, _, _, rfl, rfl, by kernel_rfl, by decide, rfl⟩) (by kernel_rfl) points_cell rfl (Con.tri_2 k l false p q) field26_2) (by kernel_rfl), ?_⟩
    refine fcs ⟨Ob.new_ (ob_read 24 14 15 (Con.nn l q) rfl rfl (.inr ⟨_, _, _, rfl, rfl, by kernel_rfl, by decide, rfl⟩) (by kernel_rfl) points_ptr rfl row24 info24) (by kernel_rfl), ?_⟩
    refine fcs ⟨Ob.new_ (ob_call1 34 15 16 _ rfl rfl (.inr ⟨_, _, _, rfl, rfl, by kernel_rfl, by decide, rfl⟩) (by kernel_rfl) (by kernel_rfl) (z_zero l q false (decide_eq_false hq))) (by kernel_rfl), ?_⟩
    refine fcs ⟨Ob.new_ (ob_pick_else 13 16 17 (.bool true) rfl rfl (.inl rfl) (by kernel_rfl) (by kernel_rfl) rfl rfl) (by kernel_rfl), ?_⟩
    refine fcs ⟨Ob.new_ (ob_copy 17 18 (.inl rfl) rfl (.inl rfl) (by kernel_rfl) rfl) (by kernel_rfl), ?_⟩
    refine fcs ⟨Ob.new_ (ob_addr 28 0 1 19 0 (Con.tri k l false p q) (Con.bool false) rfl rfl (.inr ⟨_, _, _, rfl, rfl, by kernel_rfl, by decide, rfl⟩) (by kernel_rfl) points_cell rfl (Con.tri_0 k l false p q) field26_0) (by kernel_rfl), ?_⟩
    refine fcs ⟨Ob.new_ (ob_readb 19 20 false false rfl rfl rfl (.inr ⟨_, _, _, rfl, rfl, by kernel_rfl, by decide, rfl⟩) (by kernel_rfl) points_ptr rfl) (by kernel_rfl), ?_⟩
    refine fcs ⟨Ob.new_ (ob_copy 20 21 (.inl rfl) rfl (.inr ⟨_, _, _, rfl, rfl, by kernel_rfl, by decide, rfl⟩) (by kernel_rfl) rfl) (by kernel_rfl), ?_⟩
    refine fcs ⟨Ob.new_ (ob_skip 18 21 22 true rfl rfl (by kernel_rfl) (by decide) rfl rfl rfl) (by kernel_rfl), ?_⟩
    refine fcs ⟨Ob.new_ (ob_skip 18 21 23 true rfl rfl (by kernel_rfl) (by decide) rfl rfl rfl) (by kernel_rfl), ?_⟩
    refine fcs ⟨Ob.new_ (ob_skip 18 21 24 true rfl rfl (by kernel_rfl) (by decide) rfl rfl rfl) (by kernel_rfl), ?_⟩
    refine fcs ⟨Ob.new_ (ob_pick_no 21 24 25 (.bool false) rfl rfl (.inr ⟨_, _, _, rfl, rfl, by kernel_rfl, by decide, rfl⟩) (by kernel_rfl) rfl rfl) (by kernel_rfl), ?_⟩
    refine fcs ⟨Ob.new_ (ob_pick_else 18 25 26 (.bool true) rfl rfl (.inl rfl) (by kernel_rfl) (by kernel_rfl) rfl rfl) (by kernel_rfl), ?_⟩
    exact fnl
  intro a2 w2 st2 hbr2 hfr
  have hs2 := hbr2.size
  have hb := up hb hbr2
  have st : St 34 [(1, Fact.cell b1 (Con.tri k l false p q)), (2, Fact.eq (.bool false)), (26, Fact.eq (.bool false))] a2 w2 := st2.to (fcs ⟨st2.at_ 1, fcs ⟨st2.at_ 2, fcs ⟨st2.at_ 26, fnl⟩⟩⟩)
  clear st2 hbr2 hfr
  refine wpList_nil ?_
  refine then_normal ?_
  refine wp_cond_false (st.at_ 26) ?_
  refine wp_skip ?_
  refine then_normal ?_
  refine wp_seq ?_
  have st := st.to (ks' := [(1, Fact.cell b1 (Con.tri k l false p q)), (26, Fact.eq (.bool false))]) (fcs ⟨st.at_ 1, fcs ⟨st.at_ 26, fnl⟩⟩)
  refine sym_region st [(27, Fact.ptr (Con.nn k p)), (28, Fact.agg (Con.nn k p)), (29, Fact.ptr (Con.nn l q)), (30, Fact.agg (Con.nn l q)), (31, Fact.agg (Con.nn l (Nat.gcd p q))), (32, Fact.agg (Con.nn 1 1)), (33, Fact.eq (.bool b)), (2, Fact.eq (.bool b))] [] 8 (by kernel_rfl) (by kernel_rfl) (by kernel_rfl) (Nat.le_of_ble_eq_true rfl) (by kernel_rfl) rfl rfl ?_ ?_
  · refine fcs ⟨Ob.new_ (ob_addr 28 1 1 27 1 (Con.tri k l false p q) (Con.nn k p) rfl rfl (.inl rfl) (by kernel_rfl) points_cell rfl (Con.tri_1 k l false p q) field26_1) (by kernel_rfl), ?_⟩
    refine fcs ⟨Ob.new_ (ob_read 24 27 28 (Con.nn k p) rfl rfl (.inl rfl) (by kernel_rfl) points_ptr rfl row24 info24) (by kernel_rfl), ?_⟩
    refine fcs ⟨Ob.new_ (ob_addr 28 2 1 29 2 (Con.tri k l false p q) (Con.nn l q) rfl rfl (.inl rfl) (by kernel_rfl) points_cell rfl (Con.tri_2 k l false p q) field26_2) (by kernel_rfl), ?_⟩
    refine fcs ⟨Ob.new_ (ob_read 24 29 30 (Con.nn l q) rfl rfl (.inl rfl) (by kernel_rfl) points_ptr rfl row24 info24) (by kernel_rfl), ?_⟩
    refine fcs ⟨Ob.new_ (ob_call2 35 28 30 31 _ rfl rfl (.inl rfl) (by kernel_rfl) (by kernel_rfl) (by kernel_rfl) (r_gcd k l p q hq (by omega) (by omega))) (by kernel_rfl), ?_⟩
    refine fcs ⟨Ob.new_ (ob_callc 24 _ 32 _ rfl rfl (.inl rfl) (by kernel_rfl) (r_ofc 1 1 (by decide) (by unfold Nm.Sz; decide))) (by kernel_rfl), ?_⟩
    refine fcs ⟨Ob.new_ (ob_call2 26 31 32 33 _ rfl rfl (.inl rfl) (by kernel_rfl) (by kernel_rfl) (by kernel_rfl) (r_same l 1 (Nat.gcd p q) 1 b hbd)) (by kernel_rfl), ?_⟩
    refine fcs ⟨Ob.new_ (ob_copy 33 2 (.inr rfl) rfl (.inl rfl) (by kernel_rfl) rfl) (by kernel_rfl), ?_⟩
    exact fnl
  intro a3 w3 st3 hbr3 hfr
  have hs3 := hbr3.size
  have hb := up hb hbr3
  have st : St 34 [(2, Fact.eq (.bool b))] a3 w3 := st3.to (fcs ⟨st3.at_ 2, fnl⟩)
  clear st3 hbr3 hfr
  refine wpList_nil ?_
  refine then_normal ?_
  refine wp_ret ?_
  exact sym_ret1 rfl st.defers (resAt_tmp st 2) hb (fun _ h => h)
theorem z_valid_tri (k l : Nat) (s : Bool) (p q : Nat) (hk : k ≤ 300) (hl : l ≤ 300) (b : Bool) (hbd : vldT s p q = b) : ∀ v0 w, (Fact.agg (Con.tri k l s p q)).holds v0 w → Calls Tryd.prog 15 #[v0] w (Ret (Fact.eq (.bool b)) w) := by
  intro v0 w hv0
  subst hbd
  by_cases hq : q = 0
  · rw [show vldT s p q = false from by simp [vldT, hq]]
    exact z_valid_a k l s p q hq v0 w hv0
  · cases s with
    | true =>
      by_cases hp : p = 0
      · rw [show vldT true p q = false from by simp [vldT, hp]]
        exact z_valid_b k l p q hq hp v0 w hv0
      · exact z_valid_c k l p q hq hp hk hl _ (by simp [vldT, hq, hp]) v0 w hv0
    | false => exact z_valid_d k l p q hq hk hl _ (by simp [vldT, hq]) v0 w hv0
set_option maxRecDepth 100000 in
theorem z_valid_few0 (s : Bool) (xs ys : List Nat) (h : decide (Nm.tlen xs = xs.length) = false) : ∀ v0 w, (Fact.agg (Con.few s xs ys)).holds v0 w → Calls Tryd.prog 15 #[v0] w (Ret (Fact.eq (.bool false)) w) := by
  intro v0 w hv0
  refine sym_calls 34 [(0, Fact.agg (Con.few s xs ys))] Tryd.func15 rfl rfl (Nat.le_of_ble_eq_true rfl) (fcs ⟨⟨Nat.le_of_ble_eq_true rfl, hv0⟩, fnl⟩) fun a st => ?_
  have hb := Below.refl w.heap.size w
  refine wp_seq ?_
  refine sym_region st [(1, Fact.var' (Con.few s xs ys)), (2, Fact.eq (.bool false))] [1] 2 (by kernel_rfl) (by kernel_rfl) (by kernel_rfl) (Nat.le_of_ble_eq_true rfl) (by kernel_rfl) rfl rfl ?_ ?_
  · refine fcs ⟨obn_box 28 0 1 _ (Con.few s xs ys) rfl rfl rfl (by kernel_rfl) rfl rfl, ?_⟩
    refine fcs ⟨Ob.new_ (ob_const (.bool false) 2 (.inr rfl) rfl (.inl rfl) rfl) (by kernel_rfl), ?_⟩
    exact fnl
  intro a1 w1 st1 hbr1 hfr
  have hs1 := hbr1.size
  have hb := up hb hbr1
  obtain ⟨b1, c1⟩ := (show (Fact.var' (Con.few s xs ys)).holds _ _ from st1.at_ 1)
  have g1 := hfr.ge (s := 1) rfl c1.1
  have st : St 34 [(1, Fact.cell b1 (Con.few s xs ys)), (2, Fact.eq (.bool false))] a1 w1 := st1.to (fcs ⟨c1, fcs ⟨st1.at_ 2, fnl⟩⟩)
  clear st1 hbr1 hfr c1
  refine wpList_nil ?_
  refine then_normal ?_
  refine wp_seq ?_
  refine wp_seq ?_
  refine sym_region st [(3, Fact.ptr (Con.dg xs)), (4, Fact.agg (Con.dg xs)), (5, Fact.eq (.bool false)), (6, Fact.eq (.bool true)), (7, Fact.eq (.bool true)), (8, Fact.eq undef), (9, Fact.eq undef), (10, Fact.eq undef), (11, Fact.eq undef), (12, Fact.eq (.bool true)), (13, Fact.eq (.bool true)), (14, Fact.eq undef), (15, Fact.eq undef), (16, Fact.eq undef), (17, Fact.eq (.bool true)), (18, Fact.eq (.bool true)), (19, Fact.eq undef), (20, Fact.eq undef), (21, Fact.eq undef), (22, Fact.eq undef), (23, Fact.eq undef), (24, Fact.eq undef), (25, Fact.eq undef), (26, Fact.eq (.bool true))] [] 24 (by kernel_rfl) (by kernel_rfl) (by kernel_rfl) (Nat.le_of_ble_eq_true rfl) (by kernel_rfl) rfl rfl ?_ ?_
  · refine fcs ⟨Ob.new_ (ob_addr 28 1 1 3 1 (Con.few s xs ys) (Con.dg xs) rfl rfl (.inl rfl) (by kernel_rfl) points_cell rfl (Con.few_1 s xs ys) field26_1) (by kernel_rfl), ?_⟩
    refine fcs ⟨Ob.new_ (ob_read 24 3 4 (Con.dg xs) rfl rfl (.inl rfl) (by kernel_rfl) points_ptr rfl row24 info24) (by kernel_rfl), ?_⟩
    refine fcs ⟨Ob.new_ (ob_call1 11 4 5 _ rfl rfl (.inl rfl) (by kernel_rfl) (by kernel_rfl) (d_valid xs false h)) (by kernel_rfl), ?_⟩
    refine fcs ⟨Ob.new_ (ob_not 5 6 false true rfl rfl rfl (.inl rfl) (by kernel_rfl) rfl rfl) (by kernel_rfl), ?_⟩
    refine fcs ⟨Ob.new_ (ob_copy 6 7 (.inl rfl) rfl (.inl rfl) (by kernel_rfl) rfl) (by kernel_rfl), ?_⟩
    refine fcs ⟨Ob.new_ (ob_skip 4 7 8 false rfl rfl (by kernel_rfl) (by decide) rfl rfl rfl) (by kernel_rfl), ?_⟩
    refine fcs ⟨Ob.new_ (ob_skip 4 7 9 false rfl rfl (by kernel_rfl) (by decide) rfl rfl rfl) (by kernel_rfl), ?_⟩
    refine fcs ⟨Ob.new_ (ob_skip 4 7 10 false rfl rfl (by kernel_rfl) (by decide) rfl rfl rfl) (by kernel_rfl), ?_⟩
    refine fcs ⟨Ob.new_ (ob_skip 4 7 11 false rfl rfl (by kernel_rfl) (by decide) rfl rfl rfl) (by kernel_rfl), ?_⟩
    refine fcs ⟨Ob.new_ (ob_pick_or 7 11 12 (.bool true) rfl rfl (.inl rfl) (by kernel_rfl) rfl rfl) (by kernel_rfl), ?_⟩
    refine fcs ⟨Ob.new_ (ob_copy 12 13 (.inl rfl) rfl (.inl rfl) (by kernel_rfl) rfl) (by kernel_rfl), ?_⟩
    refine fcs ⟨Ob.new_ (ob_skip 10 13 14 false rfl rfl (by kernel_rfl) (by decide) rfl rfl rfl) (by kernel_rfl), ?_⟩
    refine fcs ⟨Ob.new_ (ob_skip 10 13 15 false rfl rfl (by kernel_rfl) (by decide) rfl rfl rfl) (by kernel_rfl), ?_⟩
    refine fcs ⟨Ob.new_ (ob_skip 10 13 16 false rfl rfl (by kernel_rfl) (by decide) rfl rfl rfl) (by kernel_rfl), ?_⟩
    refine fcs ⟨Ob.new_ (ob_pick_or 13 16 17 (.bool true) rfl rfl (.inl rfl) (by kernel_rfl) rfl rfl) (by kernel_rfl), ?_⟩
    refine fcs ⟨Ob.new_ (ob_copy 17 18 (.inl rfl) rfl (.inl rfl) (by kernel_rfl) rfl) (by kernel_rfl), ?_⟩
    refine fcs ⟨Ob.new_ (ob_skip 15 18 19 false rfl rfl (by kernel_rfl) (by decide) rfl rfl rfl) (by kernel_rfl), ?_⟩
    refine fcs ⟨Ob.new_ (ob_skip 15 18 20 false rfl rfl (by kernel_rfl) (by decide) rfl rfl rfl) (by kernel_rfl), ?_⟩
    refine fcs ⟨Ob.new_ (ob_skip 15 18 21 false rfl rfl (by kernel_rfl) (by decide) rfl rfl rfl) (by kernel_rfl), ?_⟩
    refine fcs ⟨Ob.new_ (ob_skip2 18 21 22 true rfl rfl (by kernel_rfl) (by decide) rfl rfl rfl) (by kernel_rfl), ?_⟩
    refine fcs ⟨Ob.new_ (ob_skip2 18 21 23 true rfl rfl (by kernel_rfl) (by decide) rfl rfl rfl) (by kernel_rfl), ?_⟩
    refine fcs ⟨Ob.new_ (ob_skip2 18 21 24 true rfl rfl (by kernel_rfl) (by decide) rfl rfl rfl) (by kernel_rfl), ?_⟩
    refine fcs ⟨Ob.new_ (ob_skip 15 18 25 false rfl rfl (by kernel_rfl) (by decide) rfl rfl rfl) (by kernel_rfl), ?_⟩
    refine fcs ⟨Ob.new_ (ob_pick_or 18 25 26 (.bool true) rfl rfl (.inl rfl) (by kernel_rfl) rfl rfl) (by kernel_rfl), ?_⟩
    exact fnl
  intro a2 w2 st2 hbr2 hfr
  have hs2 := hbr2.size
  have hb := up hb hbr2
  have st : St 34 [(1, Fact.cell b1 (Con.few s xs ys)), (2, Fact.eq (.bool false)), (26, Fact.eq (.bool true))] a2 w2 := st2.to (fcs ⟨st2.at_ 1, fcs ⟨st2.at_ 2, fcs ⟨st2.at_ 26, fnl⟩⟩⟩)
  clear st2 hbr2 hfr
  refine wpList_nil ?_
  refine then_normal ?_
  refine wp_cond_true (st.at_ 26) ?_
  refine wp_seq ?_
  have st := st.to (ks' := [(1, Fact.cell b1 (Con.few s xs ys)), (26, Fact.eq (.bool true))]) (fcs ⟨st.at_ 1, fcs ⟨st.at_ 26, fnl⟩⟩)
  refine sym_region st [(2, Fact.eq (.bool false))] [] 1 (by kernel_rfl) (by kernel_rfl) (by kernel_rfl) (Nat.le_of_ble_eq_true rfl) (by kernel_rfl) rfl rfl ?_ ?_
  · refine fcs ⟨Ob.new_ (ob_const (.bool false) 2 (.inr rfl) rfl (.inl rfl) rfl) (by kernel_rfl), ?_⟩
    exact fnl
  intro a3 w3 st3 hbr3 hfr
  have hs3 := hbr3.size
  have hb := up hb hbr3
  have st : St 34 [(1, Fact.cell b1 (Con.few s xs ys)), (2, Fact.eq (.bool false))] a3 w3 := st3.to (fcs ⟨st3.at_ 1, fcs ⟨st3.at_ 2, fnl⟩⟩)
  clear st3 hbr3 hfr
  refine wpList_nil ?_
  refine then_normal ?_
  refine wp_ret ?_
  exact sym_ret1 rfl st.defers (resAt_tmp st 2) hb (fun _ h => h)
set_option maxRecDepth 100000 in
theorem z_valid_few1 (s : Bool) (xs ys : List Nat) (h1 : decide (Nm.tlen xs = xs.length) = true) (h : decide (Nm.tlen ys = ys.length) = false) : ∀ v0 w, (Fact.agg (Con.few s xs ys)).holds v0 w → Calls Tryd.prog 15 #[v0] w (Ret (Fact.eq (.bool false)) w) := by
  intro v0 w hv0
  refine sym_calls 34 [(0, Fact.agg (Con.few s xs ys))] Tryd.func15 rfl rfl (Nat.le_of_ble_eq_true rfl) (fcs ⟨⟨Nat.le_of_ble_eq_true rfl, hv0⟩, fnl⟩) fun a st => ?_
  have hb := Below.refl w.heap.size w
  refine wp_seq ?_
  refine sym_region st [(1, Fact.var' (Con.few s xs ys)), (2, Fact.eq (.bool false))] [1] 2 (by kernel_rfl) (by kernel_rfl) (by kernel_rfl) (Nat.le_of_ble_eq_true rfl) (by kernel_rfl) rfl rfl ?_ ?_
  · refine fcs ⟨obn_box 28 0 1 _ (Con.few s xs ys) rfl rfl rfl (by kernel_rfl) rfl rfl, ?_⟩
    refine fcs ⟨Ob.new_ (ob_const (.bool false) 2 (.inr rfl) rfl (.inl rfl) rfl) (by kernel_rfl), ?_⟩
    exact fnl
  intro a1 w1 st1 hbr1 hfr
  have hs1 := hbr1.size
  have hb := up hb hbr1
  obtain ⟨b1, c1⟩ := (show (Fact.var' (Con.few s xs ys)).holds _ _ from st1.at_ 1)
  have g1 := hfr.ge (s := 1) rfl c1.1
  have st : St 34 [(1, Fact.cell b1 (Con.few s xs ys)), (2, Fact.eq (.bool false))] a1 w1 := st1.to (fcs ⟨c1, fcs ⟨st1.at_ 2, fnl⟩⟩)
  clear st1 hbr1 hfr c1
  refine wpList_nil ?_
  refine then_normal ?_
  refine wp_seq ?_
  refine wp_seq ?_
  refine sym_region st [(3, Fact.ptr (Con.dg xs)), (4, Fact.agg (Con.dg xs)), (5, Fact.eq (.bool true)), (6, Fact.eq (.bool false)), (7, Fact.eq (.bool false)), (8, Fact.ptr (Con.dg ys)), (9, Fact.agg (Con.dg ys)), (10, Fact.eq (.bool false)), (11, Fact.eq (.bool true)), (12, Fact.eq (.bool true)), (13, Fact.eq (.bool true)), (14, Fact.eq undef), (15, Fact.eq undef), (16, Fact.eq undef), (17, Fact.eq (.bool true)), (18, Fact.eq (.bool true)), (19, Fact.eq undef), (20, Fact.eq undef), (21, Fact.eq undef), (22, Fact.eq undef), (23, Fact.eq undef), (24, Fact.eq undef), (25, Fact.eq undef), (26, Fact.eq (.bool true))] [] 24 (by kernel_rfl) (by kernel_rfl) (by kernel_rfl) (Nat.le_of_ble_eq_true rfl) (by kernel_rfl) rfl rfl ?_ ?_
  · refine fcs ⟨Ob.new_ (ob_addr 28 1 1 3 1 (Con.few s xs ys) (Con.dg xs) rfl rfl (.inl rfl) (by kernel_rfl) points_cell rfl (Con.few_1 s xs ys) field26_1) (by kernel_rfl), ?_⟩
    refine fcs ⟨Ob.new_ (ob_read 24 3 4 (Con.dg xs) rfl rfl (.inl rfl) (by kernel_rfl) points_ptr rfl row24 info24) (by kernel_rfl), ?_⟩
    refine fcs ⟨Ob.new_ (ob_call1 11 4 5 _ rfl rfl (.inl rfl) (by kernel_rfl) (by kernel_rfl) (d_valid xs true h1)) (by kernel_rfl), ?_⟩
    refine fcs ⟨Ob.new_ (ob_not 5 6 true false rfl rfl rfl (.inl rfl) (by kernel_rfl) rfl rfl) (by kernel_rfl), ?_⟩
    refine fcs ⟨Ob.new_ (ob_copy 6 7 (.inl rfl) rfl (.inl rfl) (by kernel_rfl) rfl) (by kernel_rfl), ?_⟩
    refine fcs ⟨Ob.new_ (ob_addr 28 2 1 8 2 (Con.few s xs ys) (Con.dg ys) rfl rfl (.inr ⟨_, _, _, rfl, rfl, by kernel_rfl, by decide, rfl⟩) (by kernel_rfl) points_cell rfl (Con.few_2 s xs ys) field26_2) (by kernel_rfl), ?_⟩
    refine fcs ⟨Ob.new_ (ob_read 24 8 9 (Con.dg ys) rfl rfl (.inr ⟨_, _, _, rfl, rfl, by kernel_rfl, by decide, rfl⟩) (by kernel_rfl) points_ptr rfl row24 info24) (by kernel_rfl), ?_⟩
    refine fcs ⟨Ob.new_ (ob_call1 11 9 10 _ rfl rfl (.inr ⟨_, _, _, rfl, rfl, by kernel_rfl, by decide, rfl⟩) (by kernel_rfl) (by kernel_rfl) (d_valid ys false h)) (by kernel_rfl), ?_⟩
    refine fcs ⟨Ob.new_ (ob_not 10 11 false true rfl rfl rfl (.inr ⟨_, _, _, rfl, rfl, by kernel_rfl, by decide, rfl⟩) (by kernel_rfl) rfl rfl) (by kernel_rfl), ?_⟩
    refine fcs ⟨Ob.new_ (ob_pick_else 7 11 12 (.bool true) rfl rfl (.inl rfl) (by kernel_rfl) (by kernel_rfl) rfl rfl) (by kernel_rfl), ?_⟩
    refine fcs ⟨Ob.new_ (ob_copy 12 13 (.inl rfl) rfl (.inl rfl) (by kernel_rfl) rfl) (by kernel_rfl), ?_⟩
    refine fcs ⟨Ob.new_ (ob_skip 10 13 14 false rfl rfl (by kernel_rfl) (by decide) rfl rfl rfl) (by kernel_rfl), ?_⟩
    refine fcs ⟨Ob.new_ (ob_skip 10 13 15 false rfl rfl (by kernel_rfl) (by decide) rfl rfl rfl) (by kernel_rfl), ?_⟩
    refine fcs ⟨Ob.new_ (ob_skip 10 13 16 false rfl rfl (by kernel_rfl) (by decide) rfl rfl rfl) (by kernel_rfl), ?_⟩
    refine fcs ⟨Ob.new_ (ob_pick_or 13 16 17 (.bool true) rfl rfl (.inl rfl) (by kernel_rfl) rfl rfl) (by kernel_rfl), ?_⟩
    refine fcs ⟨Ob.new_ (ob_copy 17 18 (.inl rfl) rfl (.inl rfl) (by kernel_rfl) rfl) (by kernel_rfl), ?_⟩
    refine fcs ⟨Ob.new_ (ob_skip 15 18 19 false rfl rfl (by kernel_rfl) (by decide) rfl rfl rfl) (by kernel_rfl), ?_⟩
    refine fcs ⟨Ob.new_ (ob_skip 15 18 20 false rfl rfl (by kernel_rfl) (by decide) rfl rfl rfl) (by kernel_rfl), ?_⟩
    refine fcs ⟨Ob.new_ (ob_skip 15 18 21 false rfl rfl (by kernel_rfl) (by decide) rfl rfl rfl) (by kernel_rfl), ?_⟩
    refine fcs ⟨Ob.new_ (ob_skip2 18 21 22 true rfl rfl (by kernel_rfl) (by decide) rfl rfl rfl) (by kernel_rfl), ?_⟩
    refine fcs ⟨Ob.new_ (ob_skip2 18 21 23 true rfl rfl (by kernel_rfl) (by decide) rfl rfl rfl) (by kernel_rfl), ?_⟩
    refine fcs ⟨Ob.new_ (ob_skip2 18 21 24 true rfl rfl (by kernel_rfl) (by decide) rfl rfl rfl) (by kernel_rfl), ?_⟩
    refine fcs ⟨Ob.new_ (ob_skip 15 18 25 false rfl rfl (by kernel_rfl) (by decide) rfl rfl rfl) (by kernel_rfl), ?_⟩
    refine fcs ⟨Ob.new_ (ob_pick_or 18 25 26 (.bool true) rfl rfl (.inl rfl) (by kernel_rfl) rfl rfl) (by kernel_rfl), ?_⟩
    exact fnl
  intro a2 w2 st2 hbr2 hfr
  have hs2 := hbr2.size
  have hb := up hb hbr2
  have st : St 34 [(1, Fact.cell b1 (Con.few s xs ys)), (2, Fact.eq (.bool false)), (26, Fact.eq (.bool true))] a2 w2 := st2.to (fcs ⟨st2.at_ 1, fcs ⟨st2.at_ 2, fcs ⟨st2.at_ 26, fnl⟩⟩⟩)
  clear st2 hbr2 hfr
  refine wpList_nil ?_
  refine then_normal ?_
  refine wp_cond_true (st.at_ 26) ?_
  refine wp_seq ?_
  have st := st.to (ks' := [(1, Fact.cell b1 (Con.few s xs ys)), (26, Fact.eq (.bool true))]) (fcs ⟨st.at_ 1, fcs ⟨st.at_ 26, fnl⟩⟩)
  refine sym_region st [(2, Fact.eq (.bool false))] [] 1 (by kernel_rfl) (by kernel_rfl) (by kernel_rfl) (Nat.le_of_ble_eq_true rfl) (by kernel_rfl) rfl rfl ?_ ?_
  · refine fcs ⟨Ob.new_ (ob_const (.bool false) 2 (.inr rfl) rfl (.inl rfl) rfl) (by kernel_rfl), ?_⟩
    exact fnl
  intro a3 w3 st3 hbr3 hfr
  have hs3 := hbr3.size
  have hb := up hb hbr3
  have st : St 34 [(1, Fact.cell b1 (Con.few s xs ys)), (2, Fact.eq (.bool false))] a3 w3 := st3.to (fcs ⟨st3.at_ 1, fcs ⟨st3.at_ 2, fnl⟩⟩)
  clear st3 hbr3 hfr
  refine wpList_nil ?_
  refine then_normal ?_
  refine wp_ret ?_
  exact sym_ret1 rfl st.defers (resAt_tmp st 2) hb (fun _ h => h)
theorem z_valid_few (s : Bool) (xs ys : List Nat) (hx : xs.length ≤ 300) (hy : ys.length ≤ 300) (b : Bool) (hbd : vldB s xs ys = b) : ∀ v0 w, (Fact.agg (Con.few s xs ys)).holds v0 w → Calls Tryd.prog 15 #[v0] w (Ret (Fact.eq (.bool b)) w) := by
  intro v0 w hv0
  subst hbd
  cases h1 : decide (Nm.tlen xs = xs.length) with
  | false => rw [vldB_no1 h1]; exact z_valid_few0 s xs ys h1 v0 w hv0
  | true =>
    cases h2 : decide (Nm.tlen ys = ys.length) with
    | false => rw [vldB_no2 h1 h2]; exact z_valid_few1 s xs ys h1 h2 v0 w hv0
    | true =>
      have hd : Nm.Dig xs ∧ Nm.Dig ys := by
        obtain ⟨cs, _, a, b, _, _, c, d, _, ⟨A, e, _, h6⟩, ⟨B, f, _, k6⟩⟩ := hv0
        exact ⟨h6.dig, k6.dig⟩
      rw [vldB_vldT hd.1 hd.2 h1 h2]
      exact z_valid_tri xs.length ys.length s _ _ hx hy _ rfl v0 w (Fact.few_tri hv0 (of_decide_eq_true h1) (of_decide_eq_true h2) (Nat.le_refl _) (Nat.le_refl _))
set_option maxRecDepth 100000 in
theorem q_valid_a (k l : Nat) (s : Bool) (p q : Nat) (hq : q = 0) : ∀ v0 w, (Fact.agg (Con.tri k l s p q)).holds v0 w → Calls Tryd.prog 16 #[v0] w (Ret (Fact.eq (.bool false)) w) := by
  intro v0 w hv0
  refine sym_calls 31 [(0, Fact.agg (Con.tri k l s p q))] Tryd.func16 rfl rfl (Nat.le_of_ble_eq_true rfl) (fcs ⟨⟨Nat.le_of_ble_eq_true rfl, hv0⟩, fnl⟩) fun a st => ?_
  have hb := Below.refl w.heap.size w
  refine wp_seq ?_
  refine sym_region st [(1, Fact.var' (Con.tri k l s p q)), (2, Fact.eq (.bool false))] [1] 2 (by kernel_rfl) (by kernel_rfl) (by kernel_rfl) (Nat.le_of_ble_eq_true rfl) (by kernel_rfl) rfl rfl ?_ ?_
  · refine fcs ⟨obn_box 28 0 1 _ (Con.tri k l s p q) rfl rfl rfl (by kernel_rfl) rfl rfl, ?_⟩
    refine fcs ⟨Ob.new_ (ob_const (.bool false) 2 (.inr rfl) rfl (.inl rfl) rfl) (by kernel_rfl), ?_⟩
    exact fnl
  intro a1 w1 st1 hbr1 hfr
  have hs1 := hbr1.size
  have hb := up hb hbr1
  obtain ⟨b1, c1⟩ := (show (Fact.var' (Con.tri k l s p q)).holds _ _ from st1.at_ 1)
  have g1 := hfr.ge (s := 1) rfl c1.1
  have st : St 31 [(1, Fact.cell b1 (Con.tri k l s p q)), (2, Fact.eq (.bool false))] a1 w1 := st1.to (fcs ⟨c1, fcs ⟨st1.at_ 2, fnl⟩⟩)
  clear st1 hbr1 hfr c1
  refine wpList_nil ?_
  refine then_normal ?_
  refine wp_seq ?_
  refine wp_seq ?_
  refine sym_region st [(3, Fact.ptr (Con.nn k p)), (4, Fact.agg (Con.nn k p)), (5, Fact.eq (.bool true)), (6, Fact.eq (.bool false)), (7, Fact.eq (.bool false)), (8, Fact.ptr (Con.nn l q)), (9, Fact.agg (Con.nn l q)), (10, Fact.eq (.bool true)), (11, Fact.eq (.bool false)), (12, Fact.eq (.bool false)), (13, Fact.eq (.bool false)), (14, Fact.ptr (Con.nn l q)), (15, Fact.agg (Con.nn l q)), (16, Fact.eq (.bool true)), (17, Fact.eq (.bool true))] [] 15 (by kernel_rfl) (by kernel_rfl) (by kernel_rfl) (Nat.le_of_ble_eq_true rfl) (by kernel_rfl) rfl rfl ?_ ?_
  · refine fcs ⟨Ob.new_ (ob_addr 28 1 1 3 1 (Con.tri k l s p q) (Con.nn k p) rfl rfl (.inl rfl) (by kernel_rfl) points_cell rfl (Con.tri_1 k l s p q) field26_1) (by kernel_rfl), ?_⟩
    refine fcs ⟨Ob.new_ (ob_read 24 3 4 (Con.nn k p) rfl rfl (.inl rfl) (by kernel_rfl) points_ptr rfl row24 info24) (by kernel_rfl), ?_⟩
    refine fcs ⟨Ob.new_ (ob_call1 37 4 5 _ rfl rfl (.inl rfl) (by kernel_rfl) (by kernel_rfl) (n_valid k p)) (by kernel_rfl), ?_⟩
    refine fcs ⟨Ob.new_ (ob_not 5 6 true false rfl rfl rfl (.inl rfl) (by kernel_rfl) rfl rfl) (by kernel_rfl), ?_⟩
    refine fcs ⟨Ob.new_ (ob_copy 6 7 (.inl rfl) rfl (.inl rfl) (by kernel_rfl) rfl) (by kernel_rfl), ?_⟩
    refine fcs ⟨Ob.new_ (ob_addr 28 2 1 8 2 (Con.tri k l s p q) (Con.nn l q) rfl rfl (.inr ⟨_, _, _, rfl, rfl, by kernel_rfl, by decide, rfl⟩) (by kernel_rfl) points_cell rfl (Con.tri_2 k l s p q) field26_2) (by kernel_rfl), ?_⟩
    refine fcs ⟨Ob.new_ (ob_read 24 8 9 (Con.nn l q) rfl rfl (.inr ⟨_, _, _, rfl, rfl, by kernel_rfl, by decide, rfl⟩) (by kernel_rfl) points_ptr rfl row24 info24) (by kernel_rfl), ?_⟩
    refine fcs ⟨Ob.new_ (ob_call1 37 9 10 _ rfl rfl (.inr ⟨_, _, _, rfl, rfl, by kernel_rfl, by decide, rfl⟩) (by kernel_rfl) (by kernel_rfl) (n_valid l q)) (by kernel_rfl), ?_⟩
    refine fcs ⟨Ob.new_ (ob_not 10 11 true false rfl rfl rfl (.inr ⟨_, _, _, rfl, rfl, by kernel_rfl, by decide, rfl⟩) (by kernel_rfl) rfl rfl) (by kernel_rfl), ?_⟩
    refine fcs ⟨Ob.new_ (ob_pick_else 7 11 12 (.bool true) rfl rfl (.inl rfl) (by kernel_rfl) (by kernel_rfl) rfl rfl) (by kernel_rfl), ?_⟩
    refine fcs ⟨Ob.new_ (ob_copy 12 13 (.inl rfl) rfl (.inl rfl) (by kernel_rfl) rfl) (by kernel_rfl), ?_⟩
    refine fcs ⟨Ob.new_ (ob_addr 28 2 1 14 2 (Con.tri k l s p q) (Con.nn l q) rfl rfl (.inr ⟨_, _, _, rfl, rfl, by kernel_rfl, by decide, rfl⟩) (by kernel_rfl) points_cell rfl (Con.tri_2 k l s p q) field26_2) (by kernel_rfl), ?_⟩
    refine fcs ⟨Ob.new_ (ob_read 24 14 15 (Con.nn l q) rfl rfl (.inr ⟨_, _, _, rfl, rfl, by kernel_rfl, by decide, rfl⟩) (by kernel_rfl) points_ptr rfl row24 info24) (by kernel_rfl), ?_⟩
    refine fcs ⟨Ob.new_ (ob_call1 32 15 16 _ rfl rfl (.inr ⟨_, _, _, rfl, rfl, by kernel_rfl, by decide, rfl⟩) (by kernel_rfl) (by kernel_rfl) (q_isZero l q true (decide_eq_true hq))) (by kernel_rfl), ?_⟩
    refine fcs ⟨Ob.new_ (ob_pick_else 13 16 17 (.bool true) rfl rfl (.inl rfl) (by kernel_rfl) (by kernel_rfl) rfl rfl) (by kernel_rfl), ?_⟩
    exact fnl
  intro a2 w2 st2 hbr2 hfr
  have hs2 := hbr2.size
  have hb := up hb hbr2
  have st : St 31 [(1, Fact.cell b1 (Con.tri k l s p q)), (2, Fact.eq (.bool false)), (17, Fact.eq (.bool true))] a2 w2 := st2.to (fcs ⟨st2.at_ 1, fcs ⟨st2.at_ 2, fcs ⟨st2.at_ 17, fnl⟩⟩⟩)
  clear st2 hbr2 hfr
  refine wpList_nil ?_
  refine then_normal ?_
  refine wp_cond_true (st.at_ 17) ?_
  refine wp_seq ?_
  have st := st.to (ks' := [(1, Fact.cell b1 (Con.tri k l s p q)), (17, Fact.eq (.bool true))]) (fcs ⟨st.at_ 1, fcs ⟨st.at_ 17, fnl⟩⟩)
  refine sym_region st [(2, Fact.eq (.bool false))] [] 1 (by kernel_rfl) (by kernel_rfl) (by kernel_rfl) (Nat.le_of_ble_eq_true rfl) (by kernel_rfl) rfl rfl ?_ ?_
  · refine fcs ⟨Ob.new_ (ob_const (.bool false) 2 (.inr rfl) rfl (.inl rfl) rfl) (by kernel_rfl), ?_⟩
    exact fnl
  intro a3 w3 st3 hbr3 hfr
  have hs3 := hbr3.size
  have hb := up hb hbr3
  have st : St 31 [(1, Fact.cell b1 (Con.tri k l s p q)), (2, Fact.eq (.bool false))] a3 w3 := st3.to (fcs ⟨st3.at_ 1, fcs ⟨st3.at_ 2, fnl⟩⟩)
  clear st3 hbr3 hfr
  refine wpList_nil ?_
  refine then_normal ?_
  refine wp_ret ?_
  exact sym_ret1 rfl st.defers (resAt_tmp st 2) hb (fun _ h => h)
set_option maxRecDepth 100000 in
theorem q_valid_b (k l : Nat) (p q : Nat) (hq : q ≠ 0) (hp : p = 0) : ∀ v0 w, (Fact.agg (Con.tri k l true p q)).holds v0 w → Calls Tryd.prog 16 #[v0] w (Ret (Fact.eq (.bool false)) w) := by
  intro v0 w hv0
  refine sym_calls 31 [(0, Fact.agg (Con.tri k l true p q))] Tryd.func16 rfl rfl (Nat.le_of_ble_eq_true rfl) (fcs ⟨⟨Nat.le_of_ble_eq_true rfl, hv0⟩, fnl⟩) fun a st => ?_
  have hb := Below.refl w.heap.size w
  refine wp_seq ?_
  refine sym_region st [(1, Fact.var' (Con.tri k l true p q)), (2, Fact.eq (.bool false))] [1] 2 (by kernel_rfl) (by kernel_rfl) (by kernel_rfl) (Nat.le_of_ble_eq_true rfl) (by kernel_rfl) rfl rfl ?_ ?_
  · refine fcs ⟨obn_box 28 0 1 _ (Con.tri k l true p q) rfl rfl rfl (by kernel_rfl) rfl rfl, ?_⟩
    refine fcs ⟨Ob.new_ (ob_const (.bool false) 2 (.inr rfl) rfl (.inl rfl) rfl) (by kernel_rfl), ?_⟩
    exact fnl
  intro a1 w1 st1 hbr1 hfr
  have hs1 := hbr1.size
  have hb := up hb hbr1
  obtain ⟨b1, c1⟩ := (show (Fact.var' (Con.tri k l true p q)).holds _ _ from st1.at_ 1)
  have g1 := hfr.ge (s := 1) rfl c1.1
  have st : St 31 [(1, Fact.cell b1 (Con.tri k l true p q)), (2, Fact.eq (.bool false))] a1 w1 := st1.to (fcs ⟨c1, fcs ⟨st1.at_ 2, fnl⟩⟩)
  clear st1 hbr1 hfr c1
  refine wpList_nil ?_
  refine then_normal ?_
  refine wp_seq ?_
  refine wp_seq ?_
  refine sym_region st [(3, Fact.ptr (Con.nn k p)), (4, Fact.agg (Con.nn k p)), (5, Fact.eq (.bool true)), (6, Fact.eq (.bool false)), (7, Fact.eq (.bool false)), (8, Fact.ptr (Con.nn l q)), (9, Fact.agg (Con.nn l q)), (10, Fact.eq (.bool true)), (11, Fact.eq (.bool false)), (12, Fact.eq (.bool false)), (13, Fact.eq (.bool false)), (14, Fact.ptr (Con.nn l q)), (15, Fact.agg (Con.nn l q)), (16, Fact.eq (.bool false)), (17, Fact.eq (.bool false))] [] 15 (by kernel_rfl) (by kernel_rfl) (by kernel_rfl) (Nat.le_of_ble_eq_true rfl) (by kernel_rfl) rfl rfl ?_ ?_
  · refine fcs ⟨Ob.new_ (ob_addr 28 1 1 3 1 (Con.tri k l true p q) (Con.nn k p) rfl rfl (.inl rfl) (by kernel_rfl) points_cell rfl (Con.tri_1 k l true p q) field26_1) (by kernel_rfl), ?_⟩
    refine fcs ⟨Ob.new_ (ob_read 24 3 4 (Con.nn k p) rfl rfl (.inl rfl) (by kernel_rfl) points_ptr rfl row24 info24) (by kernel_rfl), ?_⟩
    refine fcs ⟨Ob.new_ (ob_call1 37 4 5 _ rfl rfl (.inl rfl) (by kernel_rfl) (by kernel_rfl) (n_valid k p)) (by kernel_rfl), ?_⟩
    refine fcs ⟨Ob.new_ (ob_not 5 6 true false rfl rfl rfl (.inl rfl) (by kernel_rfl) rfl rfl) (by kernel_rfl), ?_⟩
    refine fcs ⟨Ob.new_ (ob_copy 6 7 (.inl rfl) rfl (.inl rfl) (by kernel_rfl) rfl) (by kernel_rfl), ?_⟩
    refine fcs ⟨Ob.new_ (ob_addr 28 2 1 8 2 (Con.tri k l true p q) (Con.nn l q) rfl rfl (.inr ⟨_, _, _, rfl, rfl, by kernel_rfl, by decide, rfl⟩) (by kernel_rfl) points_cell rfl (Con.tri_2 k l true p q) field26_2) (by kernel_rfl), ?_⟩
    refine fcs ⟨Ob.new_ (ob_read 24 8 9 (Con.nn l q) rfl rfl (.inr ⟨_, _, _, rfl, rfl, by kernel_rfl, by decide, rfl⟩) (by kernel_rfl) points_ptr rfl row24 info24) (by kernel_rfl), ?_⟩
    refine fcs ⟨Ob.new_ (ob_call1 37 9 10 _ rfl rfl (.inr ⟨_, _, _, rfl, rfl, by kernel_rfl, by decide, rfl⟩) (by kernel_rfl) (by kernel_rfl) (n_valid l q)) (by kernel_rfl), ?_⟩
    refine fcs ⟨Ob.new_ (ob_not 10 11 true false rfl rfl rfl (.inr ⟨_, _, _, rfl, rfl, by kernel_rfl, by decide, rfl⟩) (by kernel_rfl) rfl rfl) (by kernel_rfl), ?_⟩
    refine fcs ⟨Ob.new_ (ob_pick_else 7 11 12 (.bool true) rfl rfl (.inl rfl) (by kernel_rfl) (by kernel_rfl) rfl rfl) (by kernel_rfl), ?_⟩
    refine fcs ⟨Ob.new_ (ob_copy 12 13 (.inl rfl) rfl (.inl rfl) (by kernel_rfl) rfl) (by kernel_rfl), ?_⟩
    refine fcs ⟨Ob.new_ (ob_addr 28 2 1 14 2 (Con.tri k l true p q) (Con.nn l q) rfl rfl (.inr ⟨_, _, _, rfl, rfl, by kernel_rfl, by decide, rfl⟩) (by kernel_rfl) points_cell rfl (Con.tri_2 k l true p q) field26_2) (by kernel_rfl), ?_⟩
    refine fcs ⟨Ob.new_ (ob_read 24 14 15 (Con.nn l q) rfl rfl (.inr ⟨_, _, _, rfl, rfl, by kernel_rfl, by decide, rfl⟩) (by kernel_rfl) points_ptr rfl row24 info24) (by kernel_rfl), ?_⟩
    refine fcs ⟨Ob.new_ (ob_call1 32 15 16 _ rfl rfl (.inr ⟨_, _, _, rfl, rfl, by kernel_rfl, by decide, rfl⟩) (by kernel_rfl) (by kernel_rfl) (q_isZero l q false (decide_eq_false hq))) (by kernel_rfl), ?_⟩
    refine fcs ⟨Ob.new_ (ob_pick_else 13 16 17 (.bool true) rfl rfl (.inl rfl) (by kernel_rfl) (by kernel_rfl) rfl rfl) (by kernel_rfl), ?_⟩
    exact fnl
  intro a2 w2 st2 hbr2 hfr
  have hs2 := hbr2.size
  have hb := up hb hbr2
  have st : St 31 [(1, Fact.cell b1 (Con.tri k l true p q)), (2, Fact.eq (.bool false)), (17, Fact.eq (.bool false))] a2 w2 := st2.to (fcs ⟨st2.at_ 1, fcs ⟨st2.at_ 2, fcs ⟨st2.at_ 17, fnl⟩⟩⟩)
  clear st2 hbr2 hfr
  refine wpList_nil ?_
  refine then_normal ?_
  refine wp_cond_false (st.at_ 17) ?_
  refine wp_skip ?_
  refine then_normal ?_
  refine wp_seq ?_
  refine wp_seq ?_
  refine sym_region st [(18, Fact.ptr (Con.bool true)), (19, Fact.eq (.bool true)), (20, Fact.eq (.bool true)), (21, Fact.ptr (Con.nn k p)), (22, Fact.agg (Con.nn k p)), (23, Fact.eq (.bool true)), (24, Fact.eq (.bool true))] [] 7 (by kernel_rfl) (by kernel_rfl) (by kernel_rfl) (Nat.le_of_ble_eq_true rfl) (by kernel_rfl) rfl rfl ?_ ?_
  · refine fcs ⟨Ob.new_ (ob_addr 28 0 1 18 0 (Con.tri k l true p q) (Con.bool true) rfl rfl (.inl rfl) (by kernel_rfl) points_cell rfl (Con.tri_0 k l true p q) field26_0) (by kernel_rfl), ?_⟩
    refine fcs ⟨Ob.new_ (ob_readb 18 19 true true rfl rfl rfl (.inl rfl) (by kernel_rfl) points_ptr rfl) (by kernel_rfl), ?_⟩
    refine fcs ⟨Ob.new_ (ob_copy 19 20 (.inl rfl) rfl (.inl rfl) (by kernel_rfl) rfl) (by kernel_rfl), ?_⟩
    refine fcs ⟨Ob.new_ (ob_addr 28 1 1 21 1 (Con.tri k l true p q) (Con.nn k p) rfl rfl (.inr ⟨_, _, _, rfl, rfl, by kernel_rfl, by decide, rfl⟩) (by kernel_rfl) points_cell rfl (Con.tri_1 k l true p q) field26_1) (by kernel_rfl), ?_⟩
    refine fcs ⟨Ob.new_ (ob_read 24 21 22 (Con.nn k p) rfl rfl (.inr ⟨_, _, _, rfl, rfl, by kernel_rfl, by decide, rfl⟩) (by kernel_rfl) points_ptr rfl row24 info24) (by kernel_rfl), ?_⟩
    refine fcs ⟨Ob.new_ (ob_call1 32 22 23 _ rfl rfl (.inr ⟨_, _, _, rfl, rfl, by kernel_rfl, by decide, rfl⟩) (by kernel_rfl) (by kernel_rfl) (q_isZero k p true (decide_eq_true hp))) (by kernel_rfl), ?_⟩
    refine fcs ⟨Ob.new_ (ob_pick 20 23 24 _ rfl rfl (.inl rfl) (by kernel_rfl) (by kernel_rfl) rfl rfl) (by kernel_rfl), ?_⟩
    exact fnl
  intro a3 w3 st3 hbr3 hfr
  have hs3 := hbr3.size
  have hb := up hb hbr3
  have st : St 31 [(1, Fact.cell b1 (Con.tri k l true p q)), (2, Fact.eq (.bool false)), (24, Fact.eq (.bool true))] a3 w3 := st3.to (fcs ⟨st3.at_ 1, fcs ⟨st3.at_ 2, fcs ⟨st3.at_ 24, fnl⟩⟩⟩)
  clear st3 hbr3 hfr
  refine wpList_nil ?_
  refine then_normal ?_
  refine wp_cond_true (st.at_ 24) ?_
  refine wp_seq ?_
  have st := st.to (ks' := [(1, Fact.cell b1 (Con.tri k l true p q)), (24, Fact.eq (.bool true))]) (fcs ⟨st.at_ 1, fcs ⟨st.at_ 24, fnl⟩⟩)
  refine sym_region st [(2, Fact.eq (.bool false))] [] 1 (by kernel_rfl) (by kernel_rfl) (by kernel_rfl) (Nat.le_of_ble_eq_true rfl) (by kernel_rfl) rfl rfl ?_ ?_
  · refine fcs ⟨Ob.new_ (ob_const (.bool false) 2 (.inr rfl) rfl (.inl rfl) rfl) (by kernel_rfl), ?_⟩
    exact fnl
  intro a4 w4 st4 hbr4 hfr
  have hs4 := hbr4.size
  have hb := up hb hbr4
  have st : St 31 [(1, Fact.cell b1 (Con.tri k l true p q)), (2, Fact.eq (.bool false))] a4 w4 := st4.to (fcs ⟨st4.at_ 1, fcs ⟨st4.at_ 2, fnl⟩⟩)
  clear st4 hbr4 hfr
  refine wpList_nil ?_
  refine then_normal ?_
  refine wp_ret ?_
  exact sym_ret1 rfl st.defers (resAt_tmp st 2) hb (fun _ h => h)
set_option maxRecDepth 100000 in
theorem q_valid_c (k l : Nat) (p q : Nat) (hq : q ≠ 0) (hp : p ≠ 0) (_hk : k ≤ 300) (hl : l ≤ 300) (b : Bool) (hbd : decide (Nat.gcd p q = 1) = b) : ∀ v0 w, (Fact.agg (Con.tri k l true p q)).holds v0 w → Calls Tryd.prog 16 #[v0] w (Ret (Fact.eq (.bool b)) w) := by
  intro v0 w hv0
  refine sym_calls 31 [(0, Fact.agg (Con.tri k l true p q))] Tryd.func16 rfl rfl (Nat.le_of_ble_eq_true rfl) (fcs ⟨⟨Nat.le_of_ble_eq_true rfl, hv0⟩, fnl⟩) fun a st => ?_
  have hb := Below.refl w.heap.size w
  refine wp_seq ?_
  refine sym_region st [(1, Fact.var' (Con.tri k l true p q)), (2, Fact.eq (.bool false))] [1] 2 (by kernel_rfl) (by kernel_rfl) (by kernel_rfl) (Nat.le_of_ble_eq_true rfl) (by kernel_rfl) rfl rfl ?_ ?_
  · refine fcs ⟨obn_box 28 0 1 _ (Con.tri k l true p q) rfl rfl rfl (by kernel_rfl) rfl rfl, ?_⟩
    refine fcs ⟨Ob.new_ (ob_const (.bool false) 2 (.inr rfl) rfl (.inl rfl) rfl) (by kernel_rfl), ?_⟩
    exact fnl
  intro a1 w1 st1 hbr1 hfr
  have hs1 := hbr1.size
  have hb := up hb hbr1
  obtain ⟨b1, c1⟩ := (show (Fact.var' (Con.tri k l true p q)).holds _ _ from st1.at_ 1)
  have g1 := hfr.ge (s := 1) rfl c1.1
  have st : St 31 [(1, Fact.cell b1 (Con.tri k l true p q)), (2, Fact.eq (.bool false))] a1 w1 := st1.to (fcs ⟨c1, fcs ⟨st1.at_ 2, fnl⟩⟩)
  clear st1 hbr1 hfr c1
  refine wpList_nil ?_
  refine then_normal ?_
  refine wp_seq ?_
  refine wp_seq ?_
  refine sym_region st [(3, Fact.ptr (Con.nn k p)), (4, Fact.agg (Con.nn k p)), (5, Fact.eq (.bool true)), (6, Fact.eq (.bool false)), (7, Fact.eq (.bool false)), (8, Fact.ptr (Con.nn l q)), (9, Fact.agg (Con.nn l q)), (10, Fact.eq (.bool true)), (11, Fact.eq (.bool false)), (12, Fact.eq (.bool false)), (13, Fact.eq (.bool false)), (14, Fact.ptr (Con.nn l q)), (15, Fact.agg (Con.nn l q)), (16, Fact.eq (.bool false)), (17, Fact.eq (.bool false))] [] 15 (by kernel_rfl) (by kernel_rfl) (by kernel_rfl) (Nat.le_of_ble_eq_true rfl) (by kernel_rfl) rfl rfl ?_ ?_
  · refine fcs ⟨Ob.new_ (ob_addr 28 1 1 3 1 (Con.tri k l true p q) (Con.nn k p) rfl rfl (.inl rfl) (by kernel_rfl) points_cell rfl (Con.tri_1 k l true p q) field26_1) (by kernel_rfl), ?_⟩
    refine fcs ⟨Ob.new_ (ob_read 24 3 4 (Con.nn k p) rfl rfl (.inl rfl) (by kernel_rfl) points_ptr rfl row24 info24) (by kernel_rfl), ?_⟩
    refine fcs ⟨Ob.new_ (ob_call1 37 4 5 _ rfl rfl (.inl rfl) (by kernel_rfl) (by kernel_rfl) (n_valid k p)) (by kernel_rfl), ?_⟩
    refine fcs ⟨Ob.new_ (ob_not 5 6 true false rfl rfl rfl (.inl rfl) (by kernel_rfl) rfl rfl) (by kernel_rfl), ?_⟩
    refine fcs ⟨Ob.new_ (ob_copy 6 7 (.inl rfl) rfl (.inl rfl) (by kernel_rfl) rfl) (by kernel_rfl), ?_⟩
    refine fcs ⟨Ob.new_ (ob_addr 28 2 1 8 2 (Con.tri k l true p q) (Con.nn l q) rfl rfl (.inr ⟨_, _, _, rfl, rfl, by kernel_rfl, by decide, rfl⟩) (by kernel_rfl) points_cell rfl (Con.tri_2 k l true p q) field26_2) (by kernel_rfl), ?_⟩
    refine fcs ⟨Ob.new_ (ob_read 24 8 9 (Con.nn l q) rfl rfl (.inr ⟨_, _, _, rfl, rfl, by kernel_rfl, by decide, rfl⟩) (by kernel_rfl) points_ptr rfl row24 info24) (by kernel_rfl), ?_⟩
    refine fcs ⟨Ob.new_ (ob_call1 37 9 10 _ rfl rfl (.inr ⟨_, _, _, rfl, rfl, by kernel_rfl, by decide, rfl⟩) (by kernel_rfl) (by kernel_rfl) (n_valid l q)) (by kernel_rfl), ?_⟩
    refine fcs ⟨Ob.new_ (ob_not 10 11 true false rfl rfl rfl (.inr ⟨_, _, _, rfl, rfl, by kernel_rfl, by decide, rfl⟩) (by kernel_rfl) rfl rfl) (by kernel_rfl), ?_⟩
    refine fcs ⟨Ob.new_ (ob_pick_else 7 11 12 (.bool true) rfl rfl (.inl rfl) (by kernel_rfl) (by kernel_rfl) rfl rfl) (by kernel_rfl), ?_⟩
    refine fcs ⟨Ob.new_ (ob_copy 12 13 (.inl rfl) rfl (.inl rfl) (by kernel_rfl) rfl) (by kernel_rfl), ?_⟩
    refine fcs ⟨Ob.new_ (ob_addr 28 2 1 14 2 (Con.tri k l true p q) (Con.nn l q) rfl rfl (.inr ⟨_, _, _, rfl, rfl, by kernel_rfl, by decide, rfl⟩) (by kernel_rfl) points_cell rfl (Con.tri_2 k l true p q) field26_2) (by kernel_rfl), ?_⟩
    refine fcs ⟨Ob.new_ (ob_read 24 14 15 (Con.nn l q) rfl rfl (.inr ⟨_, _, _, rfl, rfl, by kernel_rfl, by decide, rfl⟩) (by kernel_rfl) points_ptr rfl row24 info24) (by kernel_rfl), ?_⟩
    refine fcs ⟨Ob.new_ (ob_call1 32 15 16 _ rfl rfl (.inr ⟨_, _, _, rfl, rfl, by kernel_rfl, by decide, rfl⟩) (by kernel_rfl) (by kernel_rfl) (q_isZero l q false (decide_eq_false hq))) (by kernel_rfl), ?_⟩
    refine fcs ⟨Ob.new_ (ob_pick_else 13 16 17 (.bool true) rfl rfl (.inl rfl) (by kernel_rfl) (by kernel_rfl) rfl rfl) (by kernel_rfl), ?_⟩
    exact fnl
  intro a2 w2 st2 hbr2 hfr
  have hs2 := hbr2.size
  have hb := up hb hbr2
  have st : St 31 [(1, Fact.cell b1 (Con.tri k l true p q)), (2, Fact.eq (.bool false)), (17, Fact.eq (.bool false))] a2 w2 := st2.to (fcs ⟨st2.at_ 1, fcs ⟨st2.at_ 2, fcs ⟨st2.at_ 17, fnl⟩⟩⟩)
  clear st2 hbr2 hfr
  refine wpList_nil ?_
  refine then_normal ?_
  refine wp_cond_false (st.at_ 17) ?_
  refine wp_skip ?_
  refine then_normal ?_
  refine wp_seq ?_
  refine wp_seq ?_
  refine sym_region st [(18, Fact.ptr (Con.bool true)), (19, Fact.eq (.bool true)), (20, Fact.eq (.bool true)), (21, Fact.ptr (Con.nn k p)), (22, Fact.agg (Con.nn k p)), (23, Fact.eq (.bool false)), (24, Fact.eq (.bool false))] [] 7 (by kernel_rfl) (by kernel_rfl) (by kernel_rfl) (Nat.le_of_ble_eq_true rfl) (by kernel_rfl) rfl rfl ?_ ?_
  · refine fcs ⟨Ob.new_ (ob_addr 28 0 1 18 0 (Con.tri k l true p q) (Con.bool true) rfl rfl (.inl rfl) (by kernel_rfl) points_cell rfl (Con.tri_0 k l true p q) field26_0) (by kernel_rfl), ?_⟩
    refine fcs ⟨Ob.new_ (ob_readb 18 19 true true rfl rfl rfl (.inl rfl) (by kernel_rfl) points_ptr rfl) (by kernel_rfl), ?_⟩
    refine fcs ⟨Ob.new_ (ob_copy 19 20 (.inl rfl) rfl (.inl rfl) (by kernel_rfl) rfl) (by kernel_rfl), ?_⟩
    refine fcs ⟨Ob.new_ (ob_addr 28 1 1 21 1 (Con.tri k l true p q) (Con.nn k p) rfl rfl (.inr ⟨_, _, _, rfl, rfl, by kernel_rfl, by decide, rfl⟩) (by kernel_rfl) points_cell rfl (Con.tri_1 k l true p q) field26_1) (by kernel_rfl), ?_⟩
    refine fcs ⟨Ob.new_ (ob_read 24 21 22 (Con.nn k p) rfl rfl (.inr ⟨_, _, _, rfl, rfl, by kernel_rfl, by decide, rfl⟩) (by kernel_rfl) points_ptr rfl row24 info24) (by kernel_rfl), ?_⟩
    refine fcs ⟨Ob.new_ (ob_call1 32 22 23 _ rfl rfl (.inr ⟨_, _, _, rfl, rfl, by kernel_rfl, by decide, rfl⟩) (by kernel_rfl) (by kernel_rfl) (q_isZero k p false (decide_eq_false hp))) (by kernel_rfl), ?_⟩
    refine fcs ⟨Ob.new_ (ob_pick 20 23 24 _ rfl rfl (.inl rfl) (by kernel_rfl) (by kernel_rfl) rfl rfl) (by kernel_rfl), ?_⟩
    exact fnl
  intro a3 w3 st3 hbr3 hfr
  have hs3 := hbr3.size
  have hb := up hb hbr3
  have st : St 31 [(1, Fact.cell b1 (Con.tri k l true p q)), (2, Fact.eq (.bool false)), (24, Fact.eq (.bool false))] a3 w3 := st3.to (fcs ⟨st3.at_ 1, fcs ⟨st3.at_ 2, fcs ⟨st3.at_ 24, fnl⟩⟩⟩)
  clear st3 hbr3 hfr
  refine wpList_nil ?_
  refine then_normal ?_
  refine wp_cond_false (st.at_ 24) ?_
  refine wp_skip ?_
  refine then_normal ?_
  refine wp_seq ?_
  have st := st.to (ks' := [(1, Fact.cell b1 (Con.tri k l true p q)), (24, Fact.eq (.bool false))]) (fcs ⟨st.at_ 1, fcs ⟨st.at_ 24, fnl⟩⟩)
  refine sym_region st [(25, Fact.ptr (Con.nn k p)), (26, Fact.agg (Con.nn k p)), (27, Fact.ptr (Con.nn l q)), (28, Fact.agg (Con.nn l q)), (29, Fact.agg (Con.nn l (Nat.gcd p q))), (30, Fact.eq (.bool b)), (2, Fact.eq (.bool b))] [] 7 (by kernel_rfl) (by kernel_rfl) (by kernel_rfl) (Nat.le_of_ble_eq_true rfl) (by kernel_rfl) rfl rfl ?_ ?_
  · refine fcs ⟨Ob.new_ (ob_addr 28 1 1 25 1 (Con.tri k l true p q) (Con.nn k p) rfl rfl (.inl rfl) (by kernel_rfl) points_cell rfl (Con.tri_1 k l true p q) field26_1) (by kernel_rfl), ?_⟩
    refine fcs ⟨Ob.new_ (ob_read 24 25 26 (Con.nn k p) rfl rfl (.inl rfl) (by kernel_rfl) points_ptr rfl row24 info24) (by kernel_rfl), ?_⟩
    refine fcs ⟨Ob.new_ (ob_addr 28 2 1 27 2 (Con.tri k l true p q) (Con.nn l q) rfl rfl (.inl rfl) (by kernel_rfl) points_cell rfl (Con.tri_2 k l true p q) field26_2) (by kernel_rfl), ?_⟩
    refine fcs ⟨Ob.new_ (ob_read 24 27 28 (Con.nn l q) rfl rfl (.inl rfl) (by kernel_rfl) points_ptr rfl row24 info24) (by kernel_rfl), ?_⟩
    refine fcs ⟨Ob.new_ (ob_call2 39 26 28 29 _ rfl rfl (.inl rfl) (by kernel_rfl) (by kernel_rfl) (by kernel_rfl) (n_gcd k l p q hq (by omega))) (by kernel_rfl), ?_⟩
    refine fcs ⟨Ob.new_ (ob_call1 38 29 30 _ rfl rfl (.inl rfl) (by kernel_rfl) (by kernel_rfl) (q_isOne l (Nat.gcd p q) b hbd)) (by kernel_rfl), ?_⟩
    refine fcs ⟨Ob.new_ (ob_copy 30 2 (.inr rfl) rfl (.inl rfl) (by kernel_rfl) rfl) (by kernel_rfl), ?_⟩
    exact fnl
  intro a4 w4 st4 hbr4 hfr
  have hs4 := hbr4.size
  have hb := up hb hbr4
  have st : St 31 [(2, Fact.eq (.bool b))] a4 w4 := st4.to (fcs ⟨st4.at_ 2, fnl⟩)
  clear st4 hbr4 hfr
  refine wpList_nil ?_
  refine then_normal ?_
  refine wp_ret ?_
  exact sym_ret1 rfl st.defers (resAt_tmp st 2) hb (fun _ h => h)
set_option maxRecDepth 100000 in
theorem q_valid_d (k l : Nat) (p q : Nat) (hq : q ≠ 0) (_hk : k ≤ 300) (hl : l ≤ 300) (b : Bool) (hbd : decide (Nat.gcd p q = 1) = b) : ∀ v0 w, (Fact.agg (Con.tri k l false p q)).holds v0 w → Calls Tryd.prog 16 #[v0] w (Ret (Fact.eq (.bool b)) w) := by
  intro v0 w hv0
  refine sym_calls 31 [(0, Fact.agg (Con.tri k l false p q))] Tryd.func16 rfl rfl (Nat.le_of_ble_eq_true rfl) (fcs ⟨⟨Nat.le_of_ble_eq_true rfl, hv0⟩, fnl⟩) fun a st => ?_
  have hb := Below.refl w.heap.size w
  refine wp_seq ?_
  refine sym_region st [(1, Fact.var' (Con.tri k l false p q)), (2, Fact.eq (.bool false))] [1] 2 (by kernel_rfl) (by kernel_rfl) (by kernel_rfl) (Nat.le_of_ble_eq_true rfl) (by kernel_rfl) rfl rfl ?_ ?_
  · refine fcs ⟨obn_box 28 0 1 _ (Con.tri k l false p q) rfl rfl rfl (by kernel_rfl) rfl rfl, ?_⟩
    refine fcs ⟨Ob.new_ (ob_const (.bool false) 2 (.inr rfl) rfl (.inl rfl) rfl) (by kernel_rfl), ?_⟩
    exact fnl
  intro a1 w1 st1 hbr1 hfr
  have hs1 := hbr1.size
  have hb := up hb hbr1
  obtain ⟨b1, c1⟩ := (show (Fact.var' (Con.tri k l false p q)).holds _ _ from st1.at_ 1)
  have g1 := hfr.ge (s := 1) rfl c1.1
  have st : St 31 [(1, Fact.cell b1 (Con.tri k l false p q)), (2, Fact.eq (.bool false))] a1 w1 := st1.to (fcs ⟨c1, fcs ⟨st1.at_ 2, fnl⟩⟩)
  clear st1 hbr1 hfr c1
  refine wpList_nil ?_
  refine then_normal ?_
  refine wp_seq ?_
  refine wp_seq ?_
  refine sym_region st [(3, Fact.ptr (Con.nn k p)), (4, Fact.agg (Con.nn k p)), (5, Fact.eq (.bool true)), (6, Fact.eq (.bool false)), (7, Fact.eq (.bool false)), (8, Fact.ptr (Con.nn l q)), (9, Fact.agg (Con.nn l q)), (10, Fact.eq (.bool true)), (11, Fact.eq (.bool false)), (12, Fact.eq (.bool false)), (13, Fact.eq (.bool false)), (14, Fact.ptr (Con.nn l q)), (15, Fact.agg (Con.nn l q)), (16, Fact.eq (.bool false)), (17, Fact.eq (.bool false))] [] 15 (by kernel_rfl) (by kernel_rfl) (by kernel_rfl) (Nat.le_of_ble_eq_true rfl) (by kernel_rfl) rfl rfl ?_ ?_
  · refine fcs ⟨Ob.new_ (ob_addr 28 1 1 3 1 (Con.tri k l false p q) (Con.nn k p) rfl rfl (.inl rfl) (by kernel_rfl) points_cell rfl (Con.tri_1 k l false p q) field26_1) (by kernel_rfl), ?_⟩
    refine fcs ⟨Ob.new_ (ob_read 24 3 4 (Con.nn k p) rfl rfl (.inl rfl) (by kernel_rfl) points_ptr rfl row24 info24) (by kernel_rfl), ?_⟩
    refine fcs ⟨Ob.new_ (ob_call1 37 4 5 _ rfl rfl (.inl rfl) (by kernel_rfl) (by kernel_rfl) (n_valid k p)) (by kernel_rfl), ?_⟩
    refine fcs ⟨Ob.new_ (ob_not 5 6 true false rfl rfl rfl (.inl rfl) (by kernel_rfl) rfl rfl) (by kernel_rfl), ?_⟩
    refine fcs ⟨Ob.new_ (ob_copy 6 7 (.inl rfl) rfl (.inl rfl) (by kernel_rfl) rfl) (by kernel_rfl), ?_⟩
    refine fcs ⟨Ob.new_ (ob_addr 28 2 1 8 2 (Con.tri k l false p q) (Con.nn l q) rfl rfl (.inr ⟨_, _, _, rfl, rfl, by kernel_rfl, by decide, rfl⟩) (by kernel_rfl) points_cell rfl (Con.tri_2 k l false p q) field26_2) (by kernel_rfl), ?_⟩
    refine fcs ⟨Ob.new_ (ob_read 24 8 9 (Con.nn l q) rfl rfl (.inr ⟨_, _, _, rfl, rfl, by kernel_rfl, by decide, rfl⟩) (by kernel_rfl) points_ptr rfl row24 info24) (by kernel_rfl), ?_⟩
    refine fcs ⟨Ob.new_ (ob_call1 37 9 10 _ rfl rfl (.inr ⟨_, _, _, rfl, rfl, by kernel_rfl, by decide, rfl⟩) (by kernel_rfl) (by kernel_rfl) (n_valid l q)) (by kernel_rfl), ?_⟩
    refine fcs ⟨Ob.new_ (ob_not 10 11 true false rfl rfl rfl (.inr ⟨_, _, _, rfl, rfl, by kernel_rfl, by decide, rfl⟩) (by kernel_rfl) rfl rfl) (by kernel_rfl), ?_⟩
    refine fcs ⟨Ob.new_ (ob_pick_else 7 11 12 (.bool true) rfl rfl (.inl rfl) (by kernel_rfl) (by kernel_rfl) rfl rfl) (by kernel_rfl), ?_⟩
    refine fcs ⟨Ob.new_ (ob_copy 12 13 (.inl rfl) rfl (.inl rfl) (by kernel_rfl) rfl) (by kernel_rfl), ?_⟩
    refine fcs ⟨Ob.new_ (ob_addr 28 2 1 14 2 (Con.tri k l false p q) (Con.nn l q) rfl rfl (.inr ⟨_, _, _, rfl, rfl, by kernel_rfl, by decide, rfl⟩) (by kernel_rfl) points_cell rfl (Con.tri_2 k l false p q) field26_2) (by kernel_rfl), ?_⟩
    refine fcs ⟨Ob.new_ (ob_read 24 14 15 (Con.nn l q) rfl rfl (.inr ⟨_, _, _, rfl, rfl, by kernel_rfl, by decide, rfl⟩) (by kernel_rfl) points_ptr rfl row24 info24) (by kernel_rfl), ?_⟩
    refine fcs ⟨Ob.new_ (ob_call1 32 15 16 _ rfl rfl (.inr ⟨_, _, _, rfl, rfl, by kernel_rfl, by decide, rfl⟩) (by kernel_rfl) (by kernel_rfl) (q_isZero l q false (decide_eq_false hq))) (by kernel_rfl), ?_⟩
    refine fcs ⟨Ob.new_ (ob_pick_else 13 16 17 (.bool true) rfl rfl (.inl rfl) (by kernel_rfl) (by kernel_rfl) rfl rfl) (by kernel_rfl), ?_⟩
    exact fnl
  intro a2 w2 st2 hbr2 hfr
  have hs2 := hbr2.size
  have hb := up hb hbr2
  have st : St 31 [(1, Fact.cell b1 (Con.tri k l false p q)), (2, Fact.eq (.bool false)), (17, Fact.eq (.bool false))] a2 w2 := st2.to (fcs ⟨st2.at_ 1, fcs ⟨st2.at_ 2, fcs ⟨st2.at_ 17, fnl⟩⟩⟩)
  clear st2 hbr2 hfr
  refine wpList_nil ?_
  refine then_normal ?_
  refine wp_cond_false (st.at_ 17) ?_
  refine wp_skip ?_
  refine then_normal ?_
  refine wp_seq ?_
  refine wp_seq ?_
  refine sym_region st [(18, Fact.ptr (Con.bool false)), (19, Fact.eq (.bool false)), (20, Fact.eq (.bool false)), (21, Fact.eq undef), (22, Fact.eq undef), (23, Fact.eq undef), (24, Fact.eq (.bool false))] [] 7 (by kernel_rfl) (by kernel_rfl) (by kernel_rfl) (Nat.le_of_ble_eq_true rfl) (by kernel_rfl) rfl rfl ?_ ?_
  · refine fcs ⟨Ob.new_ (ob_addr 28 0 1 18 0 (Con.tri k l false p q) (Con.bool false) rfl rfl (.inl rfl) (by kernel_rfl) points_cell rfl (Con.tri_0 k l false p q) field26_0) (by kernel_rfl), ?_⟩
    refine fcs ⟨Ob.new_ (ob_readb 18 19 false false rfl rfl rfl (.inl rfl) (by kernel_rfl) points_ptr rfl) (by kernel_rfl), ?_⟩
    refine fcs ⟨Ob.new_ (ob_copy 19 20 (.inl rfl) rfl (.inl rfl) (by kernel_rfl) rfl) (by kernel_rfl), ?_⟩
    refine fcs ⟨Ob.new_ (ob_skip 2 20 21 true rfl rfl (by kernel_rfl) (by decide) rfl rfl rfl) (by kernel_rfl), ?_⟩
    refine fcs ⟨Ob.new_ (ob_skip 2 20 22 true rfl rfl (by kernel_rfl) (by decide) rfl rfl rfl) (by kernel_rfl), ?_⟩
    refine fcs ⟨Ob.new_ (ob_skip 2 20 23 true rfl rfl (by kernel_rfl) (by decide) rfl rfl rfl) (by kernel_rfl), ?_⟩
    refine fcs ⟨Ob.new_ (ob_pick_no 20 23 24 (.bool false) rfl rfl (.inl rfl) (by kernel_rfl) rfl rfl) (by kernel_rfl), ?_⟩
    exact fnl
  intro a3 w3 st3 hbr3 hfr
  have hs3 := hbr3.size
  have hb := up hb hbr3
  have st : St 31 [(1, Fact.cell b1 (Con.tri k l false p q)), (2, Fact.eq (.bool false)), (24, Fact.eq (.bool false))] a3 w3 := st3.to (fcs ⟨st3.at_ 1, fcs ⟨st3.at_ 2, fcs ⟨st3.at_ 24, fnl⟩⟩⟩)
  clear st3 hbr3 hfr
  refine wpList_nil ?_
  refine then_normal ?_
  refine wp_cond_false (st.at_ 24) ?_
  refine wp_skip ?_
  refine then_normal ?_
  refine wp_seq ?_
  have st := st.to (ks' := [(1, Fact.cell b1 (Con.tri k l false p q)), (24, Fact.eq (.bool false))]) (fcs ⟨st.at_ 1, fcs ⟨st.at_ 24, fnl⟩⟩)
  refine sym_region st [(25, Fact.ptr (Con.nn k p)), (26, Fact.agg (Con.nn k p)), (27, Fact.ptr (Con.nn l q)), (28, Fact.agg (Con.nn l q)), (29, Fact.agg (Con.nn l (Nat.gcd p q))), (30, Fact.eq (.bool b)), (2, Fact.eq (.bool b))] [] 7 (by kernel_rfl) (by kernel_rfl) (by kernel_rfl) (Nat.le_of_ble_eq_true rfl) (by kernel_rfl) rfl rfl ?_ ?_
  · refine fcs ⟨Ob.new_ (ob_addr 28 1 1 25 1 (Con.tri k l false p q) (Con.nn k p) rfl rfl (.inl rfl) (by kernel_rfl) points_cell rfl (Con.tri_1 k l false p q) field26_1) (by kernel_rfl), ?_⟩
    refine fcs ⟨Ob.new_ (ob_read 24 25 26 (Con.nn k p) rfl rfl (.inl rfl) (by kernel_rfl) points_ptr rfl row24 info24) (by kernel_rfl), ?_⟩
    refine fcs ⟨Ob.new_ (ob_addr 28 2 1 27 2 (Con.tri k l false p q) (Con.nn l q) rfl rfl (.inl rfl) (by kernel_rfl) points_cell rfl (Con.tri_2 k l false p q) field26_2) (by kernel_rfl), ?_⟩
    refine fcs ⟨Ob.new_ (ob_read 24 27 28 (Con.nn l q) rfl rfl (.inl rfl) (by kernel_rfl) points_ptr rfl row24 info24) (by kernel_rfl), ?_⟩
    refine fcs ⟨Ob.new_ (ob_call2 39 26 28 29 _ rfl rfl (.inl rfl) (by kernel_rfl) (by kernel_rfl) (by kernel_rfl) (n_gcd k l p q hq (by omega))) (by kernel_rfl), ?_⟩
    refine fcs ⟨Ob.new_ (ob_call1 38 29 30 _ rfl rfl (.inl rfl) (by kernel_rfl) (by kernel_rfl) (q_isOne l (Nat.gcd p q) b hbd)) (by kernel_rfl), ?_⟩
    refine fcs ⟨Ob.new_ (ob_copy 30 2 (.inr rfl) rfl (.inl rfl) (by kernel_rfl) rfl) (by kernel_rfl), ?_⟩
    exact fnl
  intro a4 w4 st4 hbr4 hfr
  have hs4 := hbr4.size
  have hb := up hb hbr4
  have st : St 31 [(2, Fact.eq (.bool b))] a4 w4 := st4.to (fcs ⟨st4.at_ 2, fnl⟩)
  clear st4 hbr4 hfr
  refine wpList_nil ?_
  refine then_normal ?_
  refine wp_ret ?_
  exact sym_ret1 rfl st.defers (resAt_tmp st 2) hb (fun _ h => h)
theorem q_valid_tri (k l : Nat) (s : Bool) (p q : Nat) (hk : k ≤ 300) (hl : l ≤ 300) (b : Bool) (hbd : vldT s p q = b) : ∀ v0 w, (Fact.agg (Con.tri k l s p q)).holds v0 w → Calls Tryd.prog 16 #[v0] w (Ret (Fact.eq (.bool b)) w) := by
  intro v0 w hv0
  subst hbd
  by_cases hq : q = 0
  · rw [show vldT s p q = false from by simp [vldT, hq]]
    exact q_valid_a k l s p q hq v0 w hv0
  · cases s with
    | true =>
      by_cases hp : p = 0
      · rw [show vldT true p q = false from by simp [vldT, hp]]
        exact q_valid_b k l p q hq hp v0 w hv0
      · exact q_valid_c k l p q hq hp hk hl _ (by simp [vldT, hq, hp]) v0 w hv0
    | false => exact q_valid_d k l p q hq hk hl _ (by simp [vldT, hq]) v0 w hv0
set_option maxRecDepth 100000 in
theorem w_fit0 (s : Bool) (xs ys : List Nat) (h : ¬ xs.length ≤ 12) : ∀ v0 w, (Fact.agg (Con.pre s xs ys)).holds v0 w → Calls Tryd.prog 17 #[v0] w (Ret (Fact.eq (.bool false)) w) := by
  intro v0 w hv0
  refine sym_calls 19 [(0, Fact.agg (Con.pre s xs ys))] Tryd.func17 rfl rfl (Nat.le_of_ble_eq_true rfl) (fcs ⟨⟨Nat.le_of_ble_eq_true rfl, hv0⟩, fnl⟩) fun a st => ?_
  have hb := Below.refl w.heap.size w
  refine wp_seq ?_
  refine sym_region st [(1, Fact.var' (Con.pre s xs ys)), (2, Fact.eq (.bool false))] [1] 2 (by kernel_rfl) (by kernel_rfl) (by kernel_rfl) (Nat.le_of_ble_eq_true rfl) (by kernel_rfl) rfl rfl ?_ ?_
  · refine fcs ⟨obn_box 28 0 1 _ (Con.pre s xs ys) rfl rfl rfl (by kernel_rfl) rfl rfl, ?_⟩
    refine fcs ⟨Ob.new_ (ob_const (.bool false) 2 (.inr rfl) rfl (.inl rfl) rfl) (by kernel_rfl), ?_⟩
    exact fnl
  intro a1 w1 st1 hbr1 hfr
  have hs1 := hbr1.size
  have hb := up hb hbr1
  obtain ⟨b1, c1⟩ := (show (Fact.var' (Con.pre s xs ys)).holds _ _ from st1.at_ 1)
  have g1 := hfr.ge (s := 1) rfl c1.1
  have st : St 19 [(1, Fact.cell b1 (Con.pre s xs ys)), (2, Fact.eq (.bool false))] a1 w1 := st1.to (fcs ⟨c1, fcs ⟨st1.at_ 2, fnl⟩⟩)
  clear st1 hbr1 hfr c1
  refine wpList_nil ?_
  refine then_normal ?_
  refine wp_seq ?_
  have st := st.to (ks' := [(1, Fact.cell b1 (Con.pre s xs ys))]) (fcs ⟨st.at_ 1, fnl⟩)
  refine sym_region st [(3, Fact.ptr (Con.any_ xs)), (4, Fact.ptr (Con.any_ xs)), (5, Fact.rowd xs), (6, Fact.eq (.int .i64 ((xs).length : Int))), (7, Fact.eq (.bool false)), (8, Fact.eq (.bool false)), (9, Fact.eq undef), (10, Fact.eq undef), (11, Fact.eq undef), (12, Fact.eq undef), (13, Fact.eq undef), (14, Fact.eq (.bool false)), (15, Fact.eq (.bool false)), (16, Fact.eq undef), (17, Fact.eq undef), (18, Fact.eq (.bool false)), (2, Fact.eq (.bool false))] [] 17 (by kernel_rfl) (by kernel_rfl) (by kernel_rfl) (Nat.le_of_ble_eq_true rfl) (by kernel_rfl) rfl rfl ?_ ?_
  · refine fcs ⟨Ob.new_ (ob_addr 28 1 1 3 1 (Con.pre s xs ys) (Con.any_ xs) rfl rfl (.inl rfl) (by kernel_rfl) points_cell rfl (Con.pre_1 s xs ys) field26_1) (by kernel_rfl), ?_⟩
    refine fcs ⟨Ob.new_ (ob_addr 24 0 3 4 0 (Con.any_ xs) (Con.any_ xs) rfl rfl (.inl rfl) (by kernel_rfl) points_ptr rfl (Con.Sub.refl _) field24_0) (by kernel_rfl), ?_⟩
    refine fcs ⟨Ob.new_ (ob_loadrowd 4 5 xs (Con.any_ xs) any_row rfl rfl (.inl rfl) (by kernel_rfl) points_ptr rfl) (by kernel_rfl), ?_⟩
    refine fcs ⟨Ob.new_ (ob_len 5 6 (xs).length 22 rfl (by kernel_rfl) rfl (.inl rfl) (by kernel_rfl) len_rowd rfl) (by kernel_rfl), ?_⟩
    refine fcs ⟨Ob.new_ (ob_lec 6 7 .i64 3 _ ((xs).length : Int) 12 false (decide_eq_false (by omega)) rfl rfl (.inl rfl) (by kernel_rfl) rfl rfl) (by kernel_rfl), ?_⟩
    refine fcs ⟨Ob.new_ (ob_copy 7 8 (.inl rfl) rfl (.inl rfl) (by kernel_rfl) rfl) (by kernel_rfl), ?_⟩
    refine fcs ⟨Ob.new_ (ob_skip 5 8 9 true rfl rfl (by kernel_rfl) (by decide) rfl rfl rfl) (by kernel_rfl), ?_⟩
    refine fcs ⟨Ob.new_ (ob_skip 5 8 10 true rfl rfl (by kernel_rfl) (by decide) rfl rfl rfl) (by kernel_rfl), ?_⟩
    refine fcs ⟨Ob.new_ (ob_skip 5 8 11 true rfl rfl (by kernel_rfl) (by decide) rfl rfl rfl) (by kernel_rfl), ?_⟩
    refine fcs ⟨Ob.new_ (ob_skip 5 8 12 true rfl rfl (by kernel_rfl) (by decide) rfl rfl rfl) (by kernel_rfl), ?_⟩
    refine fcs ⟨Ob.new_ (ob_skip 5 8 13 true rfl rfl (by kernel_rfl) (by decide) rfl rfl rfl) (by kernel_rfl), ?_⟩
    refine fcs ⟨Ob.new_ (ob_pick_no 8 13 14 (.bool false) rfl rfl (.inl rfl) (by kernel_rfl) rfl rfl) (by kernel_rfl), ?_⟩
    refine fcs ⟨Ob.new_ (ob_copy 14 15 (.inl rfl) rfl (.inl rfl) (by kernel_rfl) rfl) (by kernel_rfl), ?_⟩
    refine fcs ⟨Ob.new_ (ob_skip 12 15 16 true rfl rfl (by kernel_rfl) (by decide) rfl rfl rfl) (by kernel_rfl), ?_⟩
    refine fcs ⟨Ob.new_ (ob_skip 12 15 17 true rfl rfl (by kernel_rfl) (by decide) rfl rfl rfl) (by kernel_rfl), ?_⟩
    refine fcs ⟨Ob.new_ (ob_pick_no 15 17 18 (.bool false) rfl rfl (.inl rfl) (by kernel_rfl) rfl rfl) (by kernel_rfl), ?_⟩
    refine fcs ⟨Ob.new_ (ob_copy 18 2 (.inr rfl) rfl (.inl rfl) (by kernel_rfl) rfl) (by kernel_rfl), ?_⟩
    exact fnl
  intro a2 w2 st2 hbr2 hfr
  have hs2 := hbr2.size
  have hb := up hb hbr2
  have st : St 19 [(2, Fact.eq (.bool false))] a2 w2 := st2.to (fcs ⟨st2.at_ 2, fnl⟩)
  clear st2 hbr2 hfr
  refine wpList_nil ?_
  refine then_normal ?_
  refine wp_ret ?_
  exact sym_ret1 rfl st.defers (resAt_tmp st 2) hb (fun _ h => h)
set_option maxRecDepth 100000 in
theorem w_fit1 (s : Bool) (xs ys : List Nat) (h1 : xs.length ≤ 12) (h : ¬ ys.length ≤ 12) : ∀ v0 w, (Fact.agg (Con.pre s xs ys)).holds v0 w → Calls Tryd.prog 17 #[v0] w (Ret (Fact.eq (.bool false)) w) := by
  intro v0 w hv0
  refine sym_calls 19 [(0, Fact.agg (Con.pre s xs ys))] Tryd.func17 rfl rfl (Nat.le_of_ble_eq_true rfl) (fcs ⟨⟨Nat.le_of_ble_eq_true rfl, hv0⟩, fnl⟩) fun a st => ?_
  have hb := Below.refl w.heap.size w
  refine wp_seq ?_
  refine sym_region st [(1, Fact.var' (Con.pre s xs ys)), (2, Fact.eq (.bool false))] [1] 2 (by kernel_rfl) (by kernel_rfl) (by kernel_rfl) (Nat.le_of_ble_eq_true rfl) (by kernel_rfl) rfl rfl ?_ ?_
  · refine fcs ⟨obn_box 28 0 1 _ (Con.pre s xs ys) rfl rfl rfl (by kernel_rfl) rfl rfl, ?_⟩
    refine fcs ⟨Ob.new_ (ob_const (.bool false) 2 (.inr rfl) rfl (.inl rfl) rfl) (by kernel_rfl), ?_⟩
    exact fnl
  intro a1 w1 st1 hbr1 hfr
  have hs1 := hbr1.size
  have hb := up hb hbr1
  obtain ⟨b1, c1⟩ := (show (Fact.var' (Con.pre s xs ys)).holds _ _ from st1.at_ 1)
  have g1 := hfr.ge (s := 1) rfl c1.1
  have st : St 19 [(1, Fact.cell b1 (Con.pre s xs ys)), (2, Fact.eq (.bool false))] a1 w1 := st1.to (fcs ⟨c1, fcs ⟨st1.at_ 2, fnl⟩⟩)
  clear st1 hbr1 hfr c1
  refine wpList_nil ?_
  refine then_normal ?_
  refine wp_seq ?_
  have st := st.to (ks' := [(1, Fact.cell b1 (Con.pre s xs ys))]) (fcs ⟨st.at_ 1, fnl⟩)
  refine sym_region st [(3, Fact.ptr (Con.any_ xs)), (4, Fact.ptr (Con.any_ xs)), (5, Fact.rowd xs), (6, Fact.eq (.int .i64 ((xs).length : Int))), (7, Fact.eq (.bool true)), (8, Fact.eq (.bool true)), (9, Fact.ptr (Con.any_ ys)), (10, Fact.ptr (Con.any_ ys)), (11, Fact.rowd ys), (12, Fact.eq (.int .i64 ((ys).length : Int))), (13, Fact.eq (.bool false)), (14, Fact.eq (.bool false)), (15, Fact.eq (.bool false)), (16, Fact.eq undef), (17, Fact.eq undef), (18, Fact.eq (.bool false)), (2, Fact.eq (.bool false))] [] 17 (by kernel_rfl) (by kernel_rfl) (by kernel_rfl) (Nat.le_of_ble_eq_true rfl) (by kernel_rfl) rfl rfl ?_ ?_
  · refine fcs ⟨Ob.new_ (ob_addr 28 1 1 3 1 (Con.pre s xs ys) (Con.any_ xs) rfl rfl (.inl rfl) (by kernel_rfl) points_cell rfl (Con.pre_1 s xs ys) field26_1) (by kernel_rfl), ?_⟩
    refine fcs ⟨Ob.new_ (ob_addr 24 0 3 4 0 (Con.any_ xs) (Con.any_ xs) rfl rfl (.inl rfl) (by kernel_rfl) points_ptr rfl (Con.Sub.refl _) field24_0) (by kernel_rfl), ?_⟩
    refine fcs ⟨Ob.new_ (ob_loadrowd 4 5 xs (Con.any_ xs) any_row rfl rfl (.inl rfl) (by kernel_rfl) points_ptr rfl) (by kernel_rfl), ?_⟩
    refine fcs ⟨Ob.new_ (ob_len 5 6 (xs).length 22 rfl (by kernel_rfl) rfl (.inl rfl) (by kernel_rfl) len_rowd rfl) (by kernel_rfl), ?_⟩
    refine fcs ⟨Ob.new_ (ob_lec 6 7 .i64 3 _ ((xs).length : Int) 12 true (decide_eq_true (by omega)) rfl rfl (.inl rfl) (by kernel_rfl) rfl rfl) (by kernel_rfl), ?_⟩
    refine fcs ⟨Ob.new_ (ob_copy 7 8 (.inl rfl) rfl (.inl rfl) (by kernel_rfl) rfl) (by kernel_rfl), ?_⟩
    refine fcs ⟨Ob.new_ (ob_addr 28 2 1 9 2 (Con.pre s xs ys) (Con.any_ ys) rfl rfl (.inr ⟨_, _, _, rfl, rfl, by kernel_rfl, by decide, rfl⟩) (by kernel_rfl) points_cell rfl (Con.pre_2 s xs ys) field26_2) (by kernel_rfl), ?_⟩
    refine fcs ⟨Ob.new_ (ob_addr 24 0 9 10 0 (Con.any_ ys) (Con.any_ ys) rfl rfl (.inr ⟨_, _, _, rfl, rfl, by kernel_rfl, by decide, rfl⟩) (by kernel_rfl) points_ptr rfl (Con.Sub.refl _) field24_0) (by kernel_rfl), ?_⟩
    refine fcs ⟨Ob.new_ (ob_loadrowd 10 11 ys (Con.any_ ys) any_row rfl rfl (.inr ⟨_, _, _, rfl, rfl, by kernel_rfl, by decide, rfl⟩) (by kernel_rfl) points_ptr rfl) (by kernel_rfl), ?_⟩
    refine fcs ⟨Ob.new_ (ob_len 11 12 (ys).length 22 rfl (by kernel_rfl) rfl (.inr ⟨_, _, _, rfl, rfl, by kernel_rfl, by decide, rfl⟩) (by kernel_rfl) len_rowd rfl) (by kernel_rfl), ?_⟩
    refine fcs ⟨Ob.new_ (ob_lec 12 13 .i64 3 _ ((ys).length : Int) 12 false (decide_eq_false (by omega)) rfl rfl (.inr ⟨_, _, _, rfl, rfl, by kernel_rfl, by decide, rfl⟩) (by kernel_rfl) rfl rfl) (by kernel_rfl), ?_⟩
    refine fcs ⟨Ob.new_ (ob_pick 8 13 14 _ rfl rfl (.inl rfl) (by kernel_rfl) (by kernel_rfl) rfl rfl) (by kernel_rfl), ?_⟩
    refine fcs ⟨Ob.new_ (ob_copy 14 15 (.inl rfl) rfl (.inl rfl) (by kernel_rfl) rfl) (by kernel_rfl), ?_⟩
    refine fcs ⟨Ob.new_ (ob_skip 12 15 16 true rfl rfl (by kernel_rfl) (by decide) rfl rfl rfl) (by kernel_rfl), ?_⟩
    refine fcs ⟨Ob.new_ (ob_skip 12 15 17 true rfl rfl (by kernel_rfl) (by decide) rfl rfl rfl) (by kernel_rfl), ?_⟩
    refine fcs ⟨Ob.new_ (ob_pick_no 15 17 18 (.bool false) rfl rfl (.inl rfl) (by kernel_rfl) rfl rfl) (by kernel_rfl), ?_⟩
    refine fcs ⟨Ob.new_ (ob_copy 18 2 (.inr rfl) rfl (.inl rfl) (by kernel_rfl) rfl) (by kernel_rfl), ?_⟩
    exact fnl
  intro a2 w2 st2 hbr2 hfr
  have hs2 := hbr2.size
  have hb := up hb hbr2
  have st : St 19 [(2, Fact.eq (.bool false))] a2 w2 := st2.to (fcs ⟨st2.at_ 2, fnl⟩)
  clear st2 hbr2 hfr
  refine wpList_nil ?_
  refine then_normal ?_
  refine wp_ret ?_
  exact sym_ret1 rfl st.defers (resAt_tmp st 2) hb (fun _ h => h)
set_option maxRecDepth 100000 in
theorem w_fit2 (s : Bool) (xs ys : List Nat) (h1 : xs.length ≤ 12) (h2 : ys.length ≤ 12) (b : Bool) (hbd : vldB s xs ys = b) : ∀ v0 w, (Fact.agg (Con.few s xs ys)).holds v0 w → Calls Tryd.prog 17 #[v0] w (Ret (Fact.eq (.bool b)) w) := by
  intro v0 w hv0
  refine sym_calls 19 [(0, Fact.agg (Con.few s xs ys))] Tryd.func17 rfl rfl (Nat.le_of_ble_eq_true rfl) (fcs ⟨⟨Nat.le_of_ble_eq_true rfl, hv0⟩, fnl⟩) fun a st => ?_
  have hb := Below.refl w.heap.size w
  refine wp_seq ?_
  refine sym_region st [(1, Fact.var' (Con.few s xs ys)), (2, Fact.eq (.bool false))] [1] 2 (by kernel_rfl) (by kernel_rfl) (by kernel_rfl) (Nat.le_of_ble_eq_true rfl) (by kernel_rfl) rfl rfl ?_ ?_
  · refine fcs ⟨obn_box 28 0 1 _ (Con.few s xs ys) rfl rfl rfl (by kernel_rfl) rfl rfl, ?_⟩
    refine fcs ⟨Ob.new_ (ob_const (.bool false) 2 (.inr rfl) rfl (.inl rfl) rfl) (by kernel_rfl), ?_⟩
    exact fnl
  intro a1 w1 st1 hbr1 hfr
  have hs1 := hbr1.size
  have hb := up hb hbr1
  obtain ⟨b1, c1⟩ := (show (Fact.var' (Con.few s xs ys)).holds _ _ from st1.at_ 1)
  have g1 := hfr.ge (s := 1) rfl c1.1
  have st : St 19 [(1, Fact.cell b1 (Con.few s xs ys)), (2, Fact.eq (.bool false))] a1 w1 := st1.to (fcs ⟨c1, fcs ⟨st1.at_ 2, fnl⟩⟩)
  clear st1 hbr1 hfr c1
  refine wpList_nil ?_
  refine then_normal ?_
  refine wp_seq ?_
  have st := st.to (ks' := [(1, Fact.cell b1 (Con.few s xs ys))]) (fcs ⟨st.at_ 1, fnl⟩)
  refine sym_region st [(3, Fact.ptr (Con.dg xs)), (4, Fact.ptr (Con.dg xs)), (5, Fact.rowd xs), (6, Fact.eq (.int .i64 ((xs).length : Int))), (7, Fact.eq (.bool true)), (8, Fact.eq (.bool true)), (9, Fact.ptr (Con.dg ys)), (10, Fact.ptr (Con.dg ys)), (11, Fact.rowd ys), (12, Fact.eq (.int .i64 ((ys).length : Int))), (13, Fact.eq (.bool true)), (14, Fact.eq (.bool true)), (15, Fact.eq (.bool true)), (16, Fact.agg (Con.few s xs ys)), (17, Fact.eq (.bool b)), (18, Fact.eq (.bool b)), (2, Fact.eq (.bool b))] [] 17 (by kernel_rfl) (by kernel_rfl) (by kernel_rfl) (Nat.le_of_ble_eq_true rfl) (by kernel_rfl) rfl rfl ?_ ?_
  · refine fcs ⟨Ob.new_ (ob_addr 28 1 1 3 1 (Con.few s xs ys) (Con.dg xs) rfl rfl (.inl rfl) (by kernel_rfl) points_cell rfl (Con.few_1 s xs ys) field26_1) (by kernel_rfl), ?_⟩
    refine fcs ⟨Ob.new_ (ob_addr 24 0 3 4 0 (Con.dg xs) (Con.dg xs) rfl rfl (.inl rfl) (by kernel_rfl) points_ptr rfl (Con.Sub.refl _) field24_0) (by kernel_rfl), ?_⟩
    refine fcs ⟨Ob.new_ (ob_loadrowd 4 5 xs (Con.dg xs) dg_row rfl rfl (.inl rfl) (by kernel_rfl) points_ptr rfl) (by kernel_rfl), ?_⟩
    refine fcs ⟨Ob.new_ (ob_len 5 6 (xs).length 22 rfl (by kernel_rfl) rfl (.inl rfl) (by kernel_rfl) len_rowd rfl) (by kernel_rfl), ?_⟩
    refine fcs ⟨Ob.new_ (ob_lec 6 7 .i64 3 _ ((xs).length : Int) 12 true (decide_eq_true (by omega)) rfl rfl (.inl rfl) (by kernel_rfl) rfl rfl) (by kernel_rfl), ?_⟩
    refine fcs ⟨Ob.new_ (ob_copy 7 8 (.inl rfl) rfl (.inl rfl) (by kernel_rfl) rfl) (by kernel_rfl), ?_⟩
    refine fcs ⟨Ob.new_ (ob_addr 28 2 1 9 2 (Con.few s xs ys) (Con.dg ys) rfl rfl (.inr ⟨_, _, _, rfl, rfl, by kernel_rfl, by decide, rfl⟩) (by kernel_rfl) points_cell rfl (Con.few_2 s xs ys) field26_2) (by kernel_rfl), ?_⟩
    refine fcs ⟨Ob.new_ (ob_addr 24 0 9 10 0 (Con.dg ys) (Con.dg ys) rfl rfl (.inr ⟨_, _, _, rfl, rfl, by kernel_rfl, by decide, rfl⟩) (by kernel_rfl) points_ptr rfl (Con.Sub.refl _) field24_0) (by kernel_rfl), ?_⟩
    refine fcs ⟨Ob.new_ (ob_loadrowd 10 11 ys (Con.dg ys) dg_row rfl rfl (.inr ⟨_, _, _, rfl, rfl, by kernel_rfl, by decide, rfl⟩) (by kernel_rfl) points_ptr rfl) (by kernel_rfl), ?_⟩
    refine fcs ⟨Ob.new_ (ob_len 11 12 (ys).length 22 rfl (by kernel_rfl) rfl (.inr ⟨_, _, _, rfl, rfl, by kernel_rfl, by decide, rfl⟩) (by kernel_rfl) len_rowd rfl) (by kernel_rfl), ?_⟩
    refine fcs ⟨Ob.new_ (ob_lec 12 13 .i64 3 _ ((ys).length : Int) 12 true (decide_eq_true (by omega)) rfl rfl (.inr ⟨_, _, _, rfl, rfl, by kernel_rfl, by decide, rfl⟩) (by kernel_rfl) rfl rfl) (by kernel_rfl), ?_⟩
    refine fcs ⟨Ob.new_ (ob_pick 8 13 14 _ rfl rfl (.inl rfl) (by kernel_rfl) (by kernel_rfl) rfl rfl) (by kernel_rfl), ?_⟩
    refine fcs ⟨Ob.new_ (ob_copy 14 15 (.inl rfl) rfl (.inl rfl) (by kernel_rfl) rfl) (by kernel_rfl), ?_⟩
    refine fcs ⟨Ob.new_ (ob_read 28 1 16 (Con.few s xs ys) rfl rfl (.inr ⟨_, _, _, rfl, rfl, by kernel_rfl, by decide, rfl⟩) (by kernel_rfl) points_cell rfl row26 info26) (by kernel_rfl), ?_⟩
    refine fcs ⟨Ob.new_ (ob_call1 15 16 17 _ rfl rfl (.inr ⟨_, _, _, rfl, rfl, by kernel_rfl, by decide, rfl⟩) (by kernel_rfl) (by kernel_rfl) (z_valid_few s xs ys (by omega) (by omega) b hbd)) (by kernel_rfl), ?_⟩
    refine fcs ⟨Ob.new_ (ob_pick 15 17 18 _ rfl rfl (.inl rfl) (by kernel_rfl) (by kernel_rfl) rfl rfl) (by kernel_rfl), ?_⟩
    refine fcs ⟨Ob.new_ (ob_copy 18 2 (.inr rfl) rfl (.inl rfl) (by kernel_rfl) rfl) (by kernel_rfl), ?_⟩
    exact fnl
  intro a2 w2 st2 hbr2 hfr
  have hs2 := hbr2.size
  have hb := up hb hbr2
  have st : St 19 [(2, Fact.eq (.bool b))] a2 w2 := st2.to (fcs ⟨st2.at_ 2, fnl⟩)
  clear st2 hbr2 hfr
  refine wpList_nil ?_
  refine then_normal ?_
  refine wp_ret ?_
  exact sym_ret1 rfl st.defers (resAt_tmp st 2) hb (fun _ h => h)
theorem w_fit (s : Bool) (xs ys : List Nat) (b : Bool) (hbd : fitB s xs ys = b) : ∀ v0 w, (Fact.agg (Con.pre s xs ys)).holds v0 w → Calls Tryd.prog 17 #[v0] w (Ret (Fact.eq (.bool b)) w) := by
  intro v0 w hv0
  subst hbd
  by_cases h1 : xs.length ≤ 12
  · by_cases h2 : ys.length ≤ 12
    · rw [show fitB s xs ys = vldB s xs ys from by simp [fitB, h1, h2]]
      exact w_fit2 s xs ys h1 h2 _ rfl v0 w (Fact.pre_few hv0 (by omega) (by omega))
    · rw [show fitB s xs ys = false from by simp [fitB, h2]]
      exact w_fit1 s xs ys h1 h2 v0 w hv0
  · rw [show fitB s xs ys = false from by simp [fitB, h1]]
    exact w_fit0 s xs ys h1 v0 w hv0
theorem natlen12 {n : Nat} (h : Nm.Sz 12 n) : decide (((Nm.nat n).length : Int) ≤ 12) = true := decide_eq_true (by have := Nm.nat_len h; omega)
set_option maxRecDepth 100000 in
theorem w_fit_yes (x : Rat) : ∀ v0 w, (Fact.agg (Con.fr 12 x)).holds v0 w → Calls Tryd.prog 17 #[v0] w (Ret (Fact.eq (.bool true)) w) := by
  intro v0 w hv0
  have hz := Fact.fr_sz hv0
  refine sym_calls 19 [(0, Fact.agg (Con.fr 12 x))] Tryd.func17 rfl rfl (Nat.le_of_ble_eq_true rfl) (fcs ⟨⟨Nat.le_of_ble_eq_true rfl, hv0⟩, fnl⟩) fun a st => ?_
  have hb := Below.refl w.heap.size w
  refine wp_seq ?_
  refine sym_region st [(1, Fact.var' (Con.fr 12 x)), (2, Fact.eq (.bool false))] [1] 2 (by kernel_rfl) (by kernel_rfl) (by kernel_rfl) (Nat.le_of_ble_eq_true rfl) (by kernel_rfl) rfl rfl ?_ ?_
  · refine fcs ⟨obn_box 28 0 1 _ (Con.fr 12 x) rfl rfl rfl (by kernel_rfl) rfl rfl, ?_⟩
    refine fcs ⟨Ob.new_ (ob_const (.bool false) 2 (.inr rfl) rfl (.inl rfl) rfl) (by kernel_rfl), ?_⟩
    exact fnl
  intro a1 w1 st1 hbr1 hfr
  have hs1 := hbr1.size
  have hb := up hb hbr1
  obtain ⟨b1, c1⟩ := (show (Fact.var' (Con.fr 12 x)).holds _ _ from st1.at_ 1)
  have g1 := hfr.ge (s := 1) rfl c1.1
  have st : St 19 [(1, Fact.cell b1 (Con.fr 12 x)), (2, Fact.eq (.bool false))] a1 w1 := st1.to (fcs ⟨c1, fcs ⟨st1.at_ 2, fnl⟩⟩)
  clear st1 hbr1 hfr c1
  refine wpList_nil ?_
  refine then_normal ?_
  refine wp_seq ?_
  have st := st.to (ks' := [(1, Fact.cell b1 (Con.fr 12 x))]) (fcs ⟨st.at_ 1, fnl⟩)
  refine sym_region st [(3, Fact.ptr (Con.nn 12 (Rt.tp x))), (4, Fact.ptr (Con.nn 12 (Rt.tp x))), (5, Fact.rown 12 (Rt.tp x)), (6, Fact.eq (.int .i64 ((Nm.nat (Rt.tp x)).length : Int))), (7, Fact.eq (.bool true)), (8, Fact.eq (.bool true)), (9, Fact.ptr (Con.nn 12 (Rat.den x))), (10, Fact.ptr (Con.nn 12 (Rat.den x))), (11, Fact.rown 12 (Rat.den x)), (12, Fact.eq (.int .i64 ((Nm.nat (Rat.den x)).length : Int))), (13, Fact.eq (.bool true)), (14, Fact.eq (.bool true)), (15, Fact.eq (.bool true)), (16, Fact.agg (Con.fr 12 x)), (17, Fact.eq (.bool true)), (18, Fact.eq (.bool true)), (2, Fact.eq (.bool true))] [] 17 (by kernel_rfl) (by kernel_rfl) (by kernel_rfl) (Nat.le_of_ble_eq_true rfl) (by kernel_rfl) rfl rfl ?_ ?_
  · refine fcs ⟨Ob.new_ (ob_addr 28 1 1 3 1 (Con.fr 12 x) (Con.nn 12 (Rt.tp x)) rfl rfl (.inl rfl) (by kernel_rfl) points_cell rfl (Con.fr_tp 12 x) field26_1) (by kernel_rfl), ?_⟩
    refine fcs ⟨Ob.new_ (ob_addr 24 0 3 4 0 (Con.nn 12 (Rt.tp x)) (Con.nn 12 (Rt.tp x)) rfl rfl (.inl rfl) (by kernel_rfl) points_ptr rfl (Con.Sub.refl _) field24_0) (by kernel_rfl), ?_⟩
    refine fcs ⟨Ob.new_ (ob_loadrow 4 5 12 (Rt.tp x) rfl rfl (.inl rfl) (by kernel_rfl) points_ptr rfl) (by kernel_rfl), ?_⟩
    refine fcs ⟨Ob.new_ (ob_len 5 6 (Nm.nat (Rt.tp x)).length 22 rfl (by kernel_rfl) rfl (.inl rfl) (by kernel_rfl) len_rown rfl) (by kernel_rfl), ?_⟩
    refine fcs ⟨Ob.new_ (ob_lec 6 7 .i64 3 _ ((Nm.nat (Rt.tp x)).length : Int) 12 true (natlen12 hz.1) rfl rfl (.inl rfl) (by kernel_rfl) rfl rfl) (by kernel_rfl), ?_⟩
    refine fcs ⟨Ob.new_ (ob_copy 7 8 (.inl rfl) rfl (.inl rfl) (by kernel_rfl) rfl) (by kernel_rfl), ?_⟩
    refine fcs ⟨Ob.new_ (ob_addr 28 2 1 9 2 (Con.fr 12 x) (Con.nn 12 (Rat.den x)) rfl rfl (.inr ⟨_, _, _, rfl, rfl, by kernel_rfl, by decide, rfl⟩) (by kernel_rfl) points_cell rfl (Con.fr_den 12 x) field26_2) (by kernel_rfl), ?_⟩
    refine fcs ⟨Ob.new_ (ob_addr 24 0 9 10 0 (Con.nn 12 (Rat.den x)) (Con.nn 12 (Rat.den x)) rfl rfl (.inr ⟨_, _, _, rfl, rfl, by kernel_rfl, by decide, rfl⟩) (by kernel_rfl) points_ptr rfl (Con.Sub.refl _) field24_0) (by kernel_rfl), ?_⟩
    refine fcs ⟨Ob.new_ (ob_loadrow 10 11 12 (Rat.den x) rfl rfl (.inr ⟨_, _, _, rfl, rfl, by kernel_rfl, by decide, rfl⟩) (by kernel_rfl) points_ptr rfl) (by kernel_rfl), ?_⟩
    refine fcs ⟨Ob.new_ (ob_len 11 12 (Nm.nat (Rat.den x)).length 22 rfl (by kernel_rfl) rfl (.inr ⟨_, _, _, rfl, rfl, by kernel_rfl, by decide, rfl⟩) (by kernel_rfl) len_rown rfl) (by kernel_rfl), ?_⟩
    refine fcs ⟨Ob.new_ (ob_lec 12 13 .i64 3 _ ((Nm.nat (Rat.den x)).length : Int) 12 true (natlen12 hz.2) rfl rfl (.inr ⟨_, _, _, rfl, rfl, by kernel_rfl, by decide, rfl⟩) (by kernel_rfl) rfl rfl) (by kernel_rfl), ?_⟩
    refine fcs ⟨Ob.new_ (ob_pick 8 13 14 _ rfl rfl (.inl rfl) (by kernel_rfl) (by kernel_rfl) rfl rfl) (by kernel_rfl), ?_⟩
    refine fcs ⟨Ob.new_ (ob_copy 14 15 (.inl rfl) rfl (.inl rfl) (by kernel_rfl) rfl) (by kernel_rfl), ?_⟩
    refine fcs ⟨Ob.new_ (ob_read 28 1 16 (Con.fr 12 x) rfl rfl (.inr ⟨_, _, _, rfl, rfl, by kernel_rfl, by decide, rfl⟩) (by kernel_rfl) points_cell rfl row26 info26) (by kernel_rfl), ?_⟩
    refine fcs ⟨Ob.new_ (ob_call1 15 16 17 _ rfl rfl (.inr ⟨_, _, _, rfl, rfl, by kernel_rfl, by decide, rfl⟩) (by kernel_rfl) (by kernel_rfl) (z_valid 12 x (by omega))) (by kernel_rfl), ?_⟩
    refine fcs ⟨Ob.new_ (ob_pick 15 17 18 _ rfl rfl (.inl rfl) (by kernel_rfl) (by kernel_rfl) rfl rfl) (by kernel_rfl), ?_⟩
    refine fcs ⟨Ob.new_ (ob_copy 18 2 (.inr rfl) rfl (.inl rfl) (by kernel_rfl) rfl) (by kernel_rfl), ?_⟩
    exact fnl
  intro a2 w2 st2 hbr2 hfr
  have hs2 := hbr2.size
  have hb := up hb hbr2
  have st : St 19 [(2, Fact.eq (.bool true))] a2 w2 := st2.to (fcs ⟨st2.at_ 2, fnl⟩)
  clear st2 hbr2 hfr
  refine wpList_nil ?_
  refine then_normal ?_
  refine wp_ret ?_
  exact sym_ret1 rfl st.defers (resAt_tmp st 2) hb (fun _ h => h)
end Go.Proofs.YtjfehdkfogdpgaaDoor
namespace Go.Proofs.YtjfehdkfogdpgaaDoor
open Go.RowKit
def Fact.dptr (z : Nat) : Fact := ⟨fun v w => ∃ g o, v = .pointer (some ⟨g, o, none⟩) ∧ g < w.heap.size ∧ w.cell? ⟨g, o, none⟩ = some (.int .u32 (z : Int)), fun _ _ _ ⟨g, o, h, hl, hc⟩ hb => ⟨g, o, h, Nat.lt_of_lt_of_le hl hb.size, ((seen hb).1 _ _ hl).trans hc⟩⟩
theorem load59 (w : World) (b o : Nat) (z : Int) (h : w.cell? ⟨b, o, none⟩ = some (.int .u32 z)) : (Instr.loadAt 48 (.pointer (some ⟨b, o, none⟩))).run Tryd.prog w = .ok (.int .u32 z) w := by go_simp
section
variable {ops : Array Oper} {Q : Exit → Act → World → Prop} {F : Nat → Fact} {base : List Nat} {N : Nat} {o : Oper}
theorem ob_digptr (t u d k p j : Nat) (ji : Int) (hji : ji = (j : Int)) (hj : j < (Nm.nat p).length) (ho : o.op = .indexAddr 22 (.tmp t) (.tmp u)) (hd : o.dst = some d) (hg : GuardOk ops F base N o) (hk : known ops base o t = true) (hk2 : known ops base o u = true) (hv : F t = Fact.rown k p) (hv2 : F u = Fact.eq (.int .i64 ji)) (hF : F d = Fact.dptr ((Nm.nat p)[j])) : Ob ops Q F base N o :=
  ob_val hg fun a w hf => by
    have h1 := hf t hk
    have h2 := hf u hk2
    rw [hv] at h1
    rw [hv2] at h2
    obtain ⟨A, c, h3, hn, _⟩ := h1
    obtain ⟨g, off, rfl, hrow⟩ := hn.rd.at_ hj
    have h3' : a.eval (.tmp t) = .slice (some ⟨g, off, none⟩) (Nm.nat p).length c := h3
    have h2' : a.eval (.tmp u) = .int .i64 ji := h2
    refine ⟨.pointer (some ⟨g, off + j, none⟩), w, by simp [execOp, ho, h3', h2', index32 w g off _ c j ji hji hj], Below.refl _ _, fun x hx => ?_⟩
    rw [hd] at hx; injection hx with hx; subst hx; rw [hF]
    exact ⟨g, off + j, rfl, World.block_lt_of_cell? w _ (hrow j hj), hrow j hj⟩
theorem ob_loaddig (t d z : Nat) (ho : o.op = .load 48 (.tmp t)) (hd : o.dst = some d) (hg : GuardOk ops F base N o) (hk : known ops base o t = true) (hv : F t = Fact.dptr z) (hF : F d = Fact.eq (.int .u32 (z : Int))) : Ob ops Q F base N o :=
  ob_val hg fun a w hf => by
    have h1 := hf t hk
    rw [hv] at h1
    obtain ⟨g, off, h2, _, hc⟩ := h1
    have h2' : a.eval (.tmp t) = .pointer (some ⟨g, off, none⟩) := h2
    exact ⟨.int .u32 (z : Int), w, by simp [execOp, ho, h2', load59 w g off _ hc], Below.refl _ _, fun x hx => by rw [hd] at hx; injection hx with hx; subst hx; rw [hF]; rfl⟩
theorem ob_conv3264 (t d : Nat) (z r : Int) (hr : IntKind.u64.wrap z = r) (ho : o.op = .convert 48 45 (.tmp t)) (hd : o.dst = some d) (hg : GuardOk ops F base N o) (hk : known ops base o t = true) (hv : F t = Fact.eq (.int .u32 z)) (hF : F d = Fact.eq (.int .u64 r)) : Ob ops Q F base N o :=
  ob_one t d _ _ hd hg hk hv hF fun a w h1 => by
    subst hr
    simp [execOp, ho, h1]
    go_simp
theorem ob_convi64 (t d : Nat) (z r : Int) (hr : IntKind.i64.wrap z = r) (ho : o.op = .convert 45 2 (.tmp t)) (hd : o.dst = some d) (hg : GuardOk ops F base N o) (hk : known ops base o t = true) (hv : F t = Fact.eq (.int .u64 z)) (hF : F d = Fact.eq (.int .i64 r)) : Ob ops Q F base N o :=
  ob_one t d _ _ hd hg hk hv hF fun a w h1 => by
    subst hr
    simp [execOp, ho, h1]
    go_simp
theorem ob_cmul (t d : Nat) (c z r : Int) (ty ty' : TypeId) (hr : IntKind.i64.wrap (c * z) = r) (ho : o.op = .binOp .mul ty (.const (.int .i64 c)) (.tmp t) ty') (hd : o.dst = some d) (hg : GuardOk ops F base N o) (hk : known ops base o t = true) (hv : F t = Fact.eq (.int .i64 z)) (hF : F d = Fact.eq (.int .i64 r)) : Ob ops Q F base N o :=
  ob_one t d _ _ hd hg hk hv hF fun a w h1 => by
    have h3 : a.eval (.const (.int .i64 c)) = .int .i64 c := rfl
    subst hr
    simp [execOp, ho, h1, h3]
    go_simp
theorem ob_shl (t s d : Nat) (z n r : Int) (ty ty' : TypeId) (h0 : 0 ≤ n) (h1 : n ≤ 64) (hr : IntKind.u64.wrap (z * 2 ^ n.toNat) = r) (ho : o.op = .binOp .shl ty (.tmp t) (.tmp s) ty') (hd : o.dst = some d) (hg : GuardOk ops F base N o) (hk : known ops base o t = true) (hk2 : known ops base o s = true) (hv : F t = Fact.eq (.int .u64 z)) (hv2 : F s = Fact.eq (.int .i64 n)) (hF : F d = Fact.eq (.int .u64 r)) : Ob ops Q F base N o :=
  ob_two t s d _ _ _ hd hg hk hk2 hv hv2 hF fun a w h3 h4 => by
    subst hr
    simp [execOp, ho, h3, h4, eqGuard_shl, binOp_shl]
theorem ob_or64 (t s d : Nat) (x y r : Nat) (ty ty' : TypeId) (hx : x < 18446744073709551616) (hy : y < 18446744073709551616) (hr : x ||| y = r) (ho : o.op = .binOp .or ty (.tmp t) (.tmp s) ty') (hd : o.dst = some d) (hg : GuardOk ops F base N o) (hk : known ops base o t = true) (hk2 : known ops base o s = true) (hv : F t = Fact.eq (.int .u64 (x : Int))) (hv2 : F s = Fact.eq (.int .u64 (y : Int))) (hF : F d = Fact.eq (.int .u64 (r : Int))) : Ob ops Q F base N o :=
  ob_two t s d _ _ _ hd hg hk hk2 hv hv2 hF fun a w h3 h4 => by
    subst hr
    simp [execOp, ho, h3, h4, eqGuard_or, binOp_or, intBits_or, bits_or_u64_nat x y hx hy]
end
theorem nat_len2 {p : Nat} (h : p < 18446744073709551616) : (Nm.nat p).length ≤ 2 := Nm.nat_len (by omega)
theorem or_step {zs : List Nat} (hd : Nm.Dig zs) (hl : zs.length ≤ 2) (j : Nat) (hj : j < zs.length) : Nm.val (zs.take j) ||| zs[j] * 2 ^ (32 * j) = Nm.val (zs.take (j + 1)) ∧ zs[j] * 2 ^ (32 * j) < 18446744073709551616 ∧ Nm.val (zs.take j) < 18446744073709551616 := by
  have hz := hd.at_ hj
  have hs := Nm.val_take_succ zs j hj
  have hv := Nm.val_lt (hd.take j)
  rw [List.length_take, Nat.min_eq_left (by omega)] at hv
  have hj2 : j = 0 ∨ j = 1 := by omega
  have hp : 4294967296 ^ j = 2 ^ (32 * j) := by rw [Nat.pow_mul]
  rw [hp] at hs hv
  refine ⟨?_, ?_, ?_⟩
  · rw [hs, Nat.mul_comm zs[j], Nat.or_comm, ← Nat.two_pow_add_eq_or_of_lt hv]
    omega
  · rcases hj2 with rfl | rfl
    · simp; omega
    · show zs[1] * 4294967296 < _; omega
  · rcases hj2 with rfl | rfl
    · simp at hv ⊢; omega
    · simp at hv; omega
end Go.Proofs.YtjfehdkfogdpgaaDoor

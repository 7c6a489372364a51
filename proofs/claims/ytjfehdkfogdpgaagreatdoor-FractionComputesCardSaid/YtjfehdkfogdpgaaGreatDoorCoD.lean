/-
  Contracts of Cmp and Valid, and of the reference of fractions. Conditions: numbers of at most 300 digits together.
  Contracts of size and magnitude (the amount of an integer), and what an integer is as a fraction. Conditions: integers of 64 bits.
  Contracts of magnitude, Int and Ratio, and of copied. Conditions: integers of 64 bits.
  Fractions as they come in: a sign and two slices of digits that may have leading zeros. No conditions beyond those that each names.
-/
import Derived.Test.YtjfehdkfogdpgaaGreatDoorCoC
namespace Go.Proofs.YtjfehdkfogdpgaaGreatDoor
open Go.RowKit
theorem Con.tri_0 (k l : Nat) (s : Bool) (p q : Nat) : (Con.tri k l s p q).Sub 0 (Con.bool s) := (Con.Sub.refl _).left
theorem Con.tri_1 (k l : Nat) (s : Bool) (p q : Nat) : (Con.tri k l s p q).Sub 1 (Con.nn k p) := ((Con.Sub.refl _).left (D := Con.nn l q)).right (C := Con.bool s)
theorem Con.tri_2 (k l : Nat) (s : Bool) (p q : Nat) : (Con.tri k l s p q).Sub 2 (Con.nn l q) := ((Con.Sub.refl _).right (C := Con.nn k p)).right (C := Con.bool s)
theorem natlen_zero (p : Nat) : (((Nm.nat p).length : Int) == 0) = decide (p = 0) := by
  by_cases h : p = 0
  · subst h; rw [Nm.nat_zero]; rfl
  · have : (Nm.nat p).length ≠ 0 := fun e => h ((Nm.nat_nil_iff p).1 (List.eq_nil_of_length_eq_zero e))
    rw [decide_eq_false h, beq_eq_false_iff_ne]; omega
theorem q_compare (a b : Int) : ∀ v u w, (Fact.eq (.int .i64 a)).holds v w → (Fact.eq (.int .i64 b)).holds u w → Calls Tryz.prog 58 #[v, u] w (Ret (Fact.eq (.int .i64 (cmpI a b))) w) := by
  rintro v u w rfl rfl
  exact (compare_any a b w).mono fun _ _ ⟨he, hw⟩ => ⟨_, he, by subst hw; exact Below.refl _ _, rfl⟩
theorem sn_bd (x : Rat) : -1 ≤ Rt.sn x ∧ Rt.sn x ≤ 1 := by
  unfold Rt.sn
  split
  · omega
  · split <;> omega
theorem cp_of_sgn {x y : Rat} (h : (!(Rt.ng x == Rt.ng y && decide (Rt.tp x = 0) == decide (Rt.tp y = 0))) = true) : cmpI (Rt.sn x) (Rt.sn y) = Rt.cp x y := by
  have hne : Rt.sn x ≠ Rt.sn y := by
    rw [Rt.sn_eq, Rt.sn_eq]
    intro e
    have vx := Rt.vld x
    have vy := Rt.vld y
    by_cases hx : Rt.tp x = 0 <;> by_cases hy : Rt.tp y = 0 <;> cases hnx : Rt.ng x <;> cases hny : Rt.ng y <;> simp [hx, hy, hnx, hny] at h e
    · exact vy.zero hny hy
    · exact vx.zero hnx hx
  rw [Rt.cp_sn hne]
  have b1 := sn_bd x
  have b2 := sn_bd y
  unfold cmpI
  by_cases hl : Rt.sn x < Rt.sn y
  · rw [if_pos hl, if_pos hl]
  · rw [if_neg hl, if_neg hl, if_pos (by omega)]
theorem cp_of_ng {x y : Rat} (h : (!(Rt.ng x == Rt.ng y && decide (Rt.tp x = 0) == decide (Rt.tp y = 0))) = false) : Rt.ng x = Rt.ng y := Rt.same_ng (by simpa using h)
set_option maxRecDepth 100000 in
theorem q_cmpm (m : Nat) (x y : Rat) (hm : 2 * m + 1 ≤ 400) : ∀ v0 v1 w, (Fact.agg (Con.fr m x)).holds v0 w → (Fact.agg (Con.fr m y)).holds v1 w → Calls Tryz.prog 25 #[v0, v1] w (Ret (Fact.eq (.int .i64 (Rt.cp x y))) w) := by
  intro v0 v1 w hv0 hv1
  refine sym_calls 37 [(0, Fact.agg (Con.fr m x)), (1, Fact.agg (Con.fr m y))] Tryz.func25 rfl rfl (Nat.le_of_ble_eq_true rfl) (fcs ⟨⟨Nat.le_of_ble_eq_true rfl, hv0⟩, fcs ⟨⟨Nat.le_of_ble_eq_true rfl, hv1⟩, fnl⟩⟩) fun a st => ?_
  have hb := Below.refl w.heap.size w
  refine wp_seq ?_
  refine sym_region st [(2, Fact.var' (Con.fr m x)), (3, Fact.var' (Con.fr m y)), (4, Fact.eq (.int .i64 0))] [2, 3] 3 (by kernel_rfl) (by kernel_rfl) (by kernel_rfl) (Nat.le_of_ble_eq_true rfl) (by kernel_rfl) rfl rfl ?_ ?_
  · refine fcs ⟨obn_box 26 0 2 _ (Con.fr m x) rfl rfl rfl (by kernel_rfl) rfl rfl, ?_⟩
    refine fcs ⟨obn_box 26 1 3 _ (Con.fr m y) rfl rfl rfl (by kernel_rfl) rfl rfl, ?_⟩
    refine fcs ⟨Ob.new_ (ob_const (.int .i64 0) 4 (.inr rfl) rfl (.inl rfl) rfl) (by kernel_rfl), ?_⟩
    exact fnl
  intro a1 w1 st1 hbr1 hfr
  have hs1 := hbr1.size
  have hb := up hb hbr1
  obtain ⟨b2, c2⟩ := (show (Fact.var' (Con.fr m x)).holds _ _ from st1.at_ 2)
  have g2 := hfr.ge (s := 2) rfl c2.1
  obtain ⟨b3, c3⟩ := (show (Fact.var' (Con.fr m y)).holds _ _ from st1.at_ 3)
  have g3 := hfr.ge (s := 3) rfl c3.1
  have ne2_3 := hfr.apart (s := 2) (t := 3) rfl rfl (by decide) c2.1 c3.1
  have st : St 37 [(2, Fact.cell b2 (Con.fr m x)), (3, Fact.cell b3 (Con.fr m y)), (4, Fact.eq (.int .i64 0))] a1 w1 := st1.to (fcs ⟨c2, fcs ⟨c3, fcs ⟨st1.at_ 4, fnl⟩⟩⟩)
  clear st1 hbr1 hfr c2 c3
  refine wpList_nil ?_
  refine then_normal ?_
  refine wp_seq ?_
  refine wp_seq ?_
  refine sym_region st [(7, Fact.agg (Con.fr m x)), (8, Fact.agg (Con.sgn (Rt.ng x) (decide (Rt.tp x = 0)))), (9, Fact.agg (Con.fr m y)), (10, Fact.agg (Con.sgn (Rt.ng y) (decide (Rt.tp y = 0)))), (11, Fact.eq (.bool (!((Rt.ng x) == (Rt.ng y) && (decide (Rt.tp x = 0)) == (decide (Rt.tp y = 0))))))] [] 5 (by kernel_rfl) (by kernel_rfl) (by kernel_rfl) (Nat.le_of_ble_eq_true rfl) (by kernel_rfl) rfl rfl ?_ ?_
  · refine fcs ⟨Ob.new_ (ob_read 26 2 7 (Con.fr m x) rfl rfl (.inl rfl) (by kernel_rfl) points_cell rfl row26 info26) (by kernel_rfl), ?_⟩
    refine fcs ⟨Ob.new_ (ob_call1 39 7 8 _ rfl rfl (.inl rfl) (by kernel_rfl) (by kernel_rfl) (q_signOf m x)) (by kernel_rfl), ?_⟩
    refine fcs ⟨Ob.new_ (ob_read 26 3 9 (Con.fr m y) rfl rfl (.inl rfl) (by kernel_rfl) points_cell rfl row26 info26) (by kernel_rfl), ?_⟩
    refine fcs ⟨Ob.new_ (ob_call1 39 9 10 _ rfl rfl (.inl rfl) (by kernel_rfl) (by kernel_rfl) (q_signOf m y)) (by kernel_rfl), ?_⟩
    refine fcs ⟨Ob.new_ (ob_nes 8 10 11 _ (Rt.ng x) (decide (Rt.tp x = 0)) (Rt.ng y) (decide (Rt.tp y = 0)) (!((Rt.ng x) == (Rt.ng y) && (decide (Rt.tp x = 0)) == (decide (Rt.tp y = 0)))) rfl rfl rfl (.inl rfl) (by kernel_rfl) (by kernel_rfl) rfl rfl rfl) (by kernel_rfl), ?_⟩
    exact fnl
  intro a2 w2 st2 hbr2 hfr
  have hs2 := hbr2.size
  have hb := up hb hbr2
  have st : St 37 [(2, Fact.cell b2 (Con.fr m x)), (3, Fact.cell b3 (Con.fr m y)), (4, Fact.eq (.int .i64 0)), (11, Fact.eq (.bool (!((Rt.ng x) == (Rt.ng y) && (decide (Rt.tp x = 0)) == (decide (Rt.tp y = 0))))))] a2 w2 := st2.to (fcs ⟨st2.at_ 2, fcs ⟨st2.at_ 3, fcs ⟨st2.at_ 4, fcs ⟨st2.at_ 11, fnl⟩⟩⟩⟩)
  clear st2 hbr2 hfr
  refine wpList_nil ?_
  refine then_normal ?_
  refine wp_cond_split (st.at_ 11) (fun h11 => ?_) (fun h11 => ?_)
  · skip
    refine wp_seq ?_
    have st := st.to (ks' := [(2, Fact.cell b2 (Con.fr m x)), (3, Fact.cell b3 (Con.fr m y)), (11, Fact.eq (.bool (!((Rt.ng x) == (Rt.ng y) && (decide (Rt.tp x = 0)) == (decide (Rt.tp y = 0))))))]) (fcs ⟨st.at_ 2, fcs ⟨st.at_ 3, fcs ⟨st.at_ 11, fnl⟩⟩⟩)
    refine sym_region st [(12, Fact.agg (Con.fr m x)), (13, Fact.eq (.int .i64 (Rt.sn x))), (14, Fact.agg (Con.fr m y)), (15, Fact.eq (.int .i64 (Rt.sn y))), (16, Fact.eq (.int .i64 (cmpI (Rt.sn x) (Rt.sn y)))), (4, Fact.eq (.int .i64 (cmpI (Rt.sn x) (Rt.sn y))))] [] 6 (by kernel_rfl) (by kernel_rfl) (by kernel_rfl) (Nat.le_of_ble_eq_true rfl) (by kernel_rfl) rfl rfl ?_ ?_
    · refine fcs ⟨Ob.new_ (ob_read 26 2 12 (Con.fr m x) rfl rfl (.inl rfl) (by kernel_rfl) points_cell rfl row26 info26) (by kernel_rfl), ?_⟩
      refine fcs ⟨Ob.new_ (ob_call1 18 12 13 _ rfl rfl (.inl rfl) (by kernel_rfl) (by kernel_rfl) (q_sign m x)) (by kernel_rfl), ?_⟩
      refine fcs ⟨Ob.new_ (ob_read 26 3 14 (Con.fr m y) rfl rfl (.inl rfl) (by kernel_rfl) points_cell rfl row26 info26) (by kernel_rfl), ?_⟩
      refine fcs ⟨Ob.new_ (ob_call1 18 14 15 _ rfl rfl (.inl rfl) (by kernel_rfl) (by kernel_rfl) (q_sign m y)) (by kernel_rfl), ?_⟩
      refine fcs ⟨Ob.new_ (ob_call2 58 13 15 16 _ rfl rfl (.inl rfl) (by kernel_rfl) (by kernel_rfl) (by kernel_rfl) (q_compare (Rt.sn x) (Rt.sn y))) (by kernel_rfl), ?_⟩
      refine fcs ⟨Ob.new_ (ob_copy 16 4 (.inr rfl) rfl (.inl rfl) (by kernel_rfl) rfl) (by kernel_rfl), ?_⟩
      exact fnl
    intro a3 w3 st3 hbr3 hfr
    have hs3 := hbr3.size
    have hb := up hb hbr3
    have st : St 37 [(2, Fact.cell b2 (Con.fr m x)), (3, Fact.cell b3 (Con.fr m y)), (4, Fact.eq (.int .i64 (cmpI (Rt.sn x) (Rt.sn y))))] a3 w3 := st3.to (fcs ⟨st3.at_ 2, fcs ⟨st3.at_ 3, fcs ⟨st3.at_ 4, fnl⟩⟩⟩)
    clear st3 hbr3 hfr
    refine wpList_nil ?_
    refine then_normal ?_
    refine wp_ret ?_
    exact sym_ret1 rfl st.defers (resAt_tmp st 4) hb (fun v h => by rw [← cp_of_sgn h11]; exact h)
  · skip
    refine wp_skip ?_
    refine then_normal ?_
    refine wp_seq ?_
    refine sym_region st [(17, Fact.ptr (Con.nn m (Rt.tp x))), (18, Fact.agg (Con.nn m (Rt.tp x))), (19, Fact.ptr (Con.nn m (Rat.den y))), (20, Fact.agg (Con.nn m (Rat.den y))), (21, Fact.nats m [Rt.tp x, Rat.den y]), (22, Fact.agg (Con.nn (m + m) ((Rt.tp x) * (Rat.den y)))), (23, Fact.ptr (Con.nn m (Rt.tp y))), (24, Fact.agg (Con.nn m (Rt.tp y))), (25, Fact.ptr (Con.nn m (Rat.den x))), (26, Fact.agg (Con.nn m (Rat.den x))), (27, Fact.nats m [Rt.tp y, Rat.den x]), (28, Fact.agg (Con.nn (m + m) ((Rt.tp y) * (Rat.den x)))), (5, Fact.var' (Con.raw 1)), (6, Fact.var' (Con.raw 1))] [5, 6] 14 (by kernel_rfl) (by kernel_rfl) (by kernel_rfl) (Nat.le_of_ble_eq_true rfl) (by kernel_rfl) rfl rfl ?_ ?_
    · refine fcs ⟨Ob.new_ (ob_addr 26 1 2 17 1 (Con.fr m x) (Con.nn m (Rt.tp x)) rfl rfl (.inl rfl) (by kernel_rfl) points_cell rfl (Con.fr_tp m x) field26_1) (by kernel_rfl), ?_⟩
      refine fcs ⟨Ob.new_ (ob_read 24 17 18 (Con.nn m (Rt.tp x)) rfl rfl (.inl rfl) (by kernel_rfl) points_ptr rfl row24 info24) (by kernel_rfl), ?_⟩
      refine fcs ⟨Ob.new_ (ob_addr 26 2 3 19 2 (Con.fr m y) (Con.nn m (Rat.den y)) rfl rfl (.inl rfl) (by kernel_rfl) points_cell rfl (Con.fr_den m y) field26_2) (by kernel_rfl), ?_⟩
      refine fcs ⟨Ob.new_ (ob_read 24 19 20 (Con.nn m (Rat.den y)) rfl rfl (.inl rfl) (by kernel_rfl) points_ptr rfl row24 info24) (by kernel_rfl), ?_⟩
      refine fcs ⟨Ob.new_ (ob_nats2 18 20 21 m m m (Rt.tp x) (Rat.den y) (by omega) (by omega) rfl rfl (.inl rfl) (by kernel_rfl) (by kernel_rfl) rfl rfl rfl) (by kernel_rfl), ?_⟩
      refine fcs ⟨Ob.new_ (ob_call1 38 21 22 _ rfl rfl (.inl rfl) (by kernel_rfl) (by kernel_rfl) (q_product m (Rt.tp x) (Rat.den y) (by omega))) (by kernel_rfl), ?_⟩
      refine fcs ⟨Ob.new_ (ob_addr 26 1 3 23 1 (Con.fr m y) (Con.nn m (Rt.tp y)) rfl rfl (.inl rfl) (by kernel_rfl) points_cell rfl (Con.fr_tp m y) field26_1) (by kernel_rfl), ?_⟩
      refine fcs ⟨Ob.new_ (ob_read 24 23 24 (Con.nn m (Rt.tp y)) rfl rfl (.inl rfl) (by kernel_rfl) points_ptr rfl row24 info24) (by kernel_rfl), ?_⟩
      refine fcs ⟨Ob.new_ (ob_addr 26 2 2 25 2 (Con.fr m x) (Con.nn m (Rat.den x)) rfl rfl (.inl rfl) (by kernel_rfl) points_cell rfl (Con.fr_den m x) field26_2) (by kernel_rfl), ?_⟩
      refine fcs ⟨Ob.new_ (ob_read 24 25 26 (Con.nn m (Rat.den x)) rfl rfl (.inl rfl) (by kernel_rfl) points_ptr rfl row24 info24) (by kernel_rfl), ?_⟩
      refine fcs ⟨Ob.new_ (ob_nats2 24 26 27 m m m (Rt.tp y) (Rat.den x) (by omega) (by omega) rfl rfl (.inl rfl) (by kernel_rfl) (by kernel_rfl) rfl rfl rfl) (by kernel_rfl), ?_⟩
      refine fcs ⟨Ob.new_ (ob_call1 38 27 28 _ rfl rfl (.inl rfl) (by kernel_rfl) (by kernel_rfl) (q_product m (Rt.tp y) (Rat.den x) (by omega))) (by kernel_rfl), ?_⟩
      refine fcs ⟨obn_new 24 5 _ [.slice none 0 0] rfl rfl rfl rfl rfl alloc24, ?_⟩
      refine fcs ⟨obn_new 24 6 _ [.slice none 0 0] rfl rfl rfl rfl rfl alloc24, ?_⟩
      exact fnl
    intro a4 w4 st4 hbr4 hfr
    have hs4 := hbr4.size
    have hb := up hb hbr4
    obtain ⟨b5, c5⟩ := (show (Fact.var' (Con.raw 1)).holds _ _ from st4.at_ 5)
    have g5 := hfr.ge (s := 5) rfl c5.1
    obtain ⟨b6, c6⟩ := (show (Fact.var' (Con.raw 1)).holds _ _ from st4.at_ 6)
    have g6 := hfr.ge (s := 6) rfl c6.1
    have ne5_6 := hfr.apart (s := 5) (t := 6) rfl rfl (by decide) c5.1 c6.1
    have st : St 37 [(2, Fact.cell b2 (Con.fr m x)), (4, Fact.eq (.int .i64 0)), (22, Fact.agg (Con.nn (m + m) ((Rt.tp x) * (Rat.den y)))), (28, Fact.agg (Con.nn (m + m) ((Rt.tp y) * (Rat.den x)))), (5, Fact.cell b5 (Con.raw 1)), (6, Fact.cell b6 (Con.raw 1))] a4 w4 := st4.to (fcs ⟨st4.at_ 2, fcs ⟨st4.at_ 4, fcs ⟨st4.at_ 22, fcs ⟨st4.at_ 28, fcs ⟨c5, fcs ⟨c6, fnl⟩⟩⟩⟩⟩⟩)
    clear st4 hbr4 hfr c5 c6
    refine sym_store st 24 5 22 b5 (Con.raw 1) (Con.nn (m + m) ((Rt.tp x) * (Rat.den y))) [(2, Fact.cell b2 (Con.fr m x)), (4, Fact.eq (.int .i64 0)), (28, Fact.agg (Con.nn (m + m) ((Rt.tp y) * (Rat.den x)))), (5, Fact.cell b5 (Con.nn (m + m) ((Rt.tp x) * (Rat.den y)))), (6, Fact.cell b6 (Con.raw 1))] rfl rfl rfl rfl rfl rfl info24 ?_ ?_
    · exact fcs ⟨.inr ⟨rfl, safe_cell _ (by omega)⟩, fcs ⟨.inr ⟨rfl, safe_eq _ _⟩, fcs ⟨.inr ⟨rfl, safe_agg _ _⟩, fcs ⟨.inl rfl, fcs ⟨.inr ⟨rfl, safe_cell _ (by omega)⟩, fnl⟩⟩⟩⟩⟩
    clear st; intro w5 hB hsz5 st
    have hb := hB _ _ hb (by omega) (by omega)
    clear hB
    refine sym_store st 24 6 28 b6 (Con.raw 1) (Con.nn (m + m) ((Rt.tp y) * (Rat.den x))) [(2, Fact.cell b2 (Con.fr m x)), (4, Fact.eq (.int .i64 0)), (5, Fact.cell b5 (Con.nn (m + m) ((Rt.tp x) * (Rat.den y)))), (6, Fact.cell b6 (Con.nn (m + m) ((Rt.tp y) * (Rat.den x))))] rfl rfl rfl rfl rfl rfl info24 ?_ ?_
    · exact fcs ⟨.inr ⟨rfl, safe_cell _ (by omega)⟩, fcs ⟨.inr ⟨rfl, safe_eq _ _⟩, fcs ⟨.inr ⟨rfl, safe_cell _ (by omega)⟩, fcs ⟨.inl rfl, fnl⟩⟩⟩⟩
    clear st; intro w6 hB hsz6 st
    have hb := hB _ _ hb (by omega) (by omega)
    clear hB
    refine wpList_nil ?_
    refine then_normal ?_
    refine wp_seq ?_
    refine wp_seq ?_
    refine sym_region st [(29, Fact.ptr (Con.bool (Rt.ng x))), (30, Fact.eq (.bool (Rt.ng x)))] [] 2 (by kernel_rfl) (by kernel_rfl) (by kernel_rfl) (Nat.le_of_ble_eq_true rfl) (by kernel_rfl) rfl rfl ?_ ?_
    · refine fcs ⟨Ob.new_ (ob_addr 26 0 2 29 0 (Con.fr m x) (Con.bool (Rt.ng x)) rfl rfl (.inl rfl) (by kernel_rfl) points_cell rfl (Con.fr_ng m x) field26_0) (by kernel_rfl), ?_⟩
      refine fcs ⟨Ob.new_ (ob_readb 29 30 (Rt.ng x) (Rt.ng x) rfl rfl rfl (.inl rfl) (by kernel_rfl) points_ptr rfl) (by kernel_rfl), ?_⟩
      exact fnl
    intro a7 w7 st7 hbr7 hfr
    have hs7 := hbr7.size
    have hb := up hb hbr7
    have st : St 37 [(4, Fact.eq (.int .i64 0)), (5, Fact.cell b5 (Con.nn (m + m) ((Rt.tp x) * (Rat.den y)))), (6, Fact.cell b6 (Con.nn (m + m) ((Rt.tp y) * (Rat.den x)))), (30, Fact.eq (.bool (Rt.ng x)))] a7 w7 := st7.to (fcs ⟨st7.at_ 4, fcs ⟨st7.at_ 5, fcs ⟨st7.at_ 6, fcs ⟨st7.at_ 30, fnl⟩⟩⟩⟩)
    clear st7 hbr7 hfr
    refine wpList_nil ?_
    refine then_normal ?_
    refine wp_cond_split (st.at_ 30) (fun h30 => ?_) (fun h30 => ?_)
    · skip
      refine wp_seq ?_
      have st := st.to (ks' := [(5, Fact.cell b5 (Con.nn (m + m) ((Rt.tp x) * (Rat.den y)))), (6, Fact.cell b6 (Con.nn (m + m) ((Rt.tp y) * (Rat.den x)))), (30, Fact.eq (.bool (Rt.ng x)))]) (fcs ⟨st.at_ 5, fcs ⟨st.at_ 6, fcs ⟨st.at_ 30, fnl⟩⟩⟩)
      refine sym_region st [(31, Fact.agg (Con.nn (m + m) ((Rt.tp y) * (Rat.den x)))), (32, Fact.agg (Con.nn (m + m) ((Rt.tp x) * (Rat.den y)))), (33, Fact.eq (.int .i64 (cmpI ((Rt.tp y) * (Rat.den x)) ((Rt.tp x) * (Rat.den y))))), (4, Fact.eq (.int .i64 (cmpI ((Rt.tp y) * (Rat.den x)) ((Rt.tp x) * (Rat.den y)))))] [] 4 (by kernel_rfl) (by kernel_rfl) (by kernel_rfl) (Nat.le_of_ble_eq_true rfl) (by kernel_rfl) rfl rfl ?_ ?_
      · refine fcs ⟨Ob.new_ (ob_read 24 6 31 (Con.nn (m + m) ((Rt.tp y) * (Rat.den x))) rfl rfl (.inl rfl) (by kernel_rfl) points_cell rfl row24 info24) (by kernel_rfl), ?_⟩
        refine fcs ⟨Ob.new_ (ob_read 24 5 32 (Con.nn (m + m) ((Rt.tp x) * (Rat.den y))) rfl rfl (.inl rfl) (by kernel_rfl) points_cell rfl row24 info24) (by kernel_rfl), ?_⟩
        refine fcs ⟨Ob.new_ (ob_call2 59 31 32 33 _ rfl rfl (.inl rfl) (by kernel_rfl) (by kernel_rfl) (by kernel_rfl) (n_cmp (m + m) (m + m) ((Rt.tp y) * (Rat.den x)) ((Rt.tp x) * (Rat.den y)) _ rfl)) (by kernel_rfl), ?_⟩
        refine fcs ⟨Ob.new_ (ob_copy 33 4 (.inr rfl) rfl (.inl rfl) (by kernel_rfl) rfl) (by kernel_rfl), ?_⟩
        exact fnl
      intro a8 w8 st8 hbr8 hfr
      have hs8 := hbr8.size
      have hb := up hb hbr8
      have st : St 37 [(5, Fact.cell b5 (Con.nn (m + m) ((Rt.tp x) * (Rat.den y)))), (6, Fact.cell b6 (Con.nn (m + m) ((Rt.tp y) * (Rat.den x)))), (4, Fact.eq (.int .i64 (cmpI ((Rt.tp y) * (Rat.den x)) ((Rt.tp x) * (Rat.den y)))))] a8 w8 := st8.to (fcs ⟨st8.at_ 5, fcs ⟨st8.at_ 6, fcs ⟨st8.at_ 4, fnl⟩⟩⟩)
      clear st8 hbr8 hfr
      refine wpList_nil ?_
      refine then_normal ?_
      refine wp_ret ?_
      exact sym_ret1 rfl st.defers (resAt_tmp st 4) hb (fun v h => by rw [Rt.cp_same (cp_of_ng h11), if_pos h30, ← cmpI_cn]; exact h)
    · skip
      refine wp_skip ?_
      refine then_normal ?_
      refine wp_seq ?_
      have st := st.to (ks' := [(5, Fact.cell b5 (Con.nn (m + m) ((Rt.tp x) * (Rat.den y)))), (6, Fact.cell b6 (Con.nn (m + m) ((Rt.tp y) * (Rat.den x)))), (30, Fact.eq (.bool (Rt.ng x)))]) (fcs ⟨st.at_ 5, fcs ⟨st.at_ 6, fcs ⟨st.at_ 30, fnl⟩⟩⟩)
      refine sym_region st [(34, Fact.agg (Con.nn (m + m) ((Rt.tp x) * (Rat.den y)))), (35, Fact.agg (Con.nn (m + m) ((Rt.tp y) * (Rat.den x)))), (36, Fact.eq (.int .i64 (cmpI ((Rt.tp x) * (Rat.den y)) ((Rt.tp y) * (Rat.den x))))), (4, Fact.eq (.int .i64 (cmpI ((Rt.tp x) * (Rat.den y)) ((Rt.tp y) * (Rat.den x)))))] [] 4 (by kernel_rfl) (by kernel_rfl) (by kernel_rfl) (Nat.le_of_ble_eq_true rfl) (by kernel_rfl) rfl rfl ?_ ?_
      · refine fcs ⟨Ob.new_ (ob_read 24 5 34 (Con.nn (m + m) ((Rt.tp x) * (Rat.den y))) rfl rfl (.inl rfl) (by kernel_rfl) points_cell rfl row24 info24) (by kernel_rfl), ?_⟩
        refine fcs ⟨Ob.new_ (ob_read 24 6 35 (Con.nn (m + m) ((Rt.tp y) * (Rat.den x))) rfl rfl (.inl rfl) (by kernel_rfl) points_cell rfl row24 info24) (by kernel_rfl), ?_⟩
        refine fcs ⟨Ob.new_ (ob_call2 59 34 35 36 _ rfl rfl (.inl rfl) (by kernel_rfl) (by kernel_rfl) (by kernel_rfl) (n_cmp (m + m) (m + m) ((Rt.tp x) * (Rat.den y)) ((Rt.tp y) * (Rat.den x)) _ rfl)) (by kernel_rfl), ?_⟩
        refine fcs ⟨Ob.new_ (ob_copy 36 4 (.inr rfl) rfl (.inl rfl) (by kernel_rfl) rfl) (by kernel_rfl), ?_⟩
        exact fnl
      intro a9 w9 st9 hbr9 hfr
      have hs9 := hbr9.size
      have hb := up hb hbr9
      have st : St 37 [(4, Fact.eq (.int .i64 (cmpI ((Rt.tp x) * (Rat.den y)) ((Rt.tp y) * (Rat.den x)))))] a9 w9 := st9.to (fcs ⟨st9.at_ 4, fnl⟩)
      clear st9 hbr9 hfr
      refine wpList_nil ?_
      refine then_normal ?_
      refine wp_ret ?_
      exact sym_ret1 rfl st.defers (resAt_tmp st 4) hb (fun v h => by rw [Rt.cp_same (cp_of_ng h11), if_neg (by rw [h30]; decide), ← cmpI_cn]; exact h)
theorem q_cmp (k l : Nat) (x y : Rat) (hk : 2 * max k l + 1 ≤ 400) : ∀ v0 v1 w, (Fact.fr k x).holds v0 w → (Fact.fr l y).holds v1 w → Calls Tryz.prog 25 #[v0, v1] w (Ret (Fact.eq (.int .i64 (Rt.cp x y))) w) := by
  intro v0 v1 w hv0 hv1
  exact q_cmpm (max k l) x y (by omega) v0 v1 w (Fact.fr_up hv0 (Nat.le_max_left k l)) (Fact.fr_up hv1 (Nat.le_max_right k l))
set_option maxRecDepth 100000 in
theorem z_zero (k p : Nat) (b : Bool) (hbd : decide (p = 0) = b) : ∀ v0 w, (Fact.agg (Con.nn k p)).holds v0 w → Calls Tryz.prog 44 #[v0] w (Ret (Fact.eq (.bool b)) w) := by
  intro v0 w hv0
  refine sym_calls 7 [(0, Fact.agg (Con.nn k p))] Tryz.func44 rfl rfl (Nat.le_of_ble_eq_true rfl) (fcs ⟨⟨Nat.le_of_ble_eq_true rfl, hv0⟩, fnl⟩) fun a st => ?_
  have hb := Below.refl w.heap.size w
  refine wp_seq ?_
  refine sym_region st [(1, Fact.var' (Con.nn k p)), (2, Fact.eq (.bool false))] [1] 2 (by kernel_rfl) (by kernel_rfl) (by kernel_rfl) (Nat.le_of_ble_eq_true rfl) (by kernel_rfl) rfl rfl ?_ ?_
  · refine fcs ⟨obn_box 24 0 1 _ (Con.nn k p) rfl rfl rfl (by kernel_rfl) rfl rfl, ?_⟩
    refine fcs ⟨Ob.new_ (ob_const (.bool false) 2 (.inr rfl) rfl (.inl rfl) rfl) (by kernel_rfl), ?_⟩
    exact fnl
  intro a1 w1 st1 hbr1 hfr
  have hs1 := hbr1.size
  have hb := up hb hbr1
  obtain ⟨b1, c1⟩ := (show (Fact.var' (Con.nn k p)).holds _ _ from st1.at_ 1)
  have g1 := hfr.ge (s := 1) rfl c1.1
  have st : St 7 [(1, Fact.cell b1 (Con.nn k p)), (2, Fact.eq (.bool false))] a1 w1 := st1.to (fcs ⟨c1, fcs ⟨st1.at_ 2, fnl⟩⟩)
  clear st1 hbr1 hfr c1
  refine wpList_nil ?_
  refine then_normal ?_
  refine wp_seq ?_
  have st := st.to (ks' := [(1, Fact.cell b1 (Con.nn k p))]) (fcs ⟨st.at_ 1, fnl⟩)
  refine sym_region st [(3, Fact.ptr (Con.nn k p)), (4, Fact.rown k p), (5, Fact.eq (.int .i64 ((Nm.nat p).length : Int))), (6, Fact.eq (.bool b)), (2, Fact.eq (.bool b))] [] 5 (by kernel_rfl) (by kernel_rfl) (by kernel_rfl) (Nat.le_of_ble_eq_true rfl) (by kernel_rfl) rfl rfl ?_ ?_
  · refine fcs ⟨Ob.new_ (ob_addr 24 0 1 3 0 (Con.nn k p) (Con.nn k p) rfl rfl (.inl rfl) (by kernel_rfl) points_cell rfl (Con.Sub.refl _) field24_0) (by kernel_rfl), ?_⟩
    refine fcs ⟨Ob.new_ (ob_loadrow 3 4 k p rfl rfl (.inl rfl) (by kernel_rfl) points_ptr rfl) (by kernel_rfl), ?_⟩
    refine fcs ⟨Ob.new_ (ob_len 4 5 (Nm.nat p).length 22 rfl (by kernel_rfl) rfl (.inl rfl) (by kernel_rfl) len_rown rfl) (by kernel_rfl), ?_⟩
    refine fcs ⟨Ob.new_ (ob_eqc 5 6 .i64 3 _ ((Nm.nat p).length : Int) 0 b ((natlen_zero p).trans hbd) rfl rfl (.inl rfl) (by kernel_rfl) rfl rfl) (by kernel_rfl), ?_⟩
    refine fcs ⟨Ob.new_ (ob_copy 6 2 (.inr rfl) rfl (.inl rfl) (by kernel_rfl) rfl) (by kernel_rfl), ?_⟩
    exact fnl
  intro a2 w2 st2 hbr2 hfr
  have hs2 := hbr2.size
  have hb := up hb hbr2
  have st : St 7 [(2, Fact.eq (.bool b))] a2 w2 := st2.to (fcs ⟨st2.at_ 2, fnl⟩)
  clear st2 hbr2 hfr
  refine wpList_nil ?_
  refine then_normal ?_
  refine wp_ret ?_
  exact sym_ret1 rfl st.defers (resAt_tmp st 2) hb (fun _ h => h)
set_option maxRecDepth 100000 in
theorem z_make (k l r : Nat) (s : Bool) (p q : Nat) (hq : q ≠ 0) (hkr : k ≤ r) (hlr : l ≤ r) (hr : r ≤ 300) : ∀ v0 v1 v2 w, (Fact.eq (.bool s)).holds v0 w → (Fact.agg (Con.nn k p)).holds v1 w → (Fact.agg (Con.nn l q)).holds v2 w → Calls Tryz.prog 53 #[v0, v1, v2] w (Ret (Fact.two (Fact.fr r (Rt.of s p q)) (Fact.eq (.int .i64 0))) w) := by
  intro v0 v1 v2 w hv0 hv1 hv2
  cases s with
  | false =>
    refine sym_calls 44 [(0, Fact.eq (.bool false)), (1, Fact.agg (Con.nn k p)), (2, Fact.agg (Con.nn l q))] Tryz.func53 rfl rfl (Nat.le_of_ble_eq_true rfl) (fcs ⟨⟨Nat.le_of_ble_eq_true rfl, hv0⟩, fcs ⟨⟨Nat.le_of_ble_eq_true rfl, hv1⟩, fcs ⟨⟨Nat.le_of_ble_eq_true rfl, hv2⟩, fnl⟩⟩⟩) fun a st => ?_
    have hb := Below.refl w.heap.size w
    refine wp_seq ?_
    refine sym_region st [(4, Fact.var' (Con.nn k p)), (5, Fact.var' (Con.nn l q)), (6, Fact.var' (Con.raw 3)), (7, Fact.eq (.int .i64 0))] [4, 5, 6] 4 (by kernel_rfl) (by kernel_rfl) (by kernel_rfl) (Nat.le_of_ble_eq_true rfl) (by kernel_rfl) rfl rfl ?_ ?_
    · refine fcs ⟨obn_box 24 1 4 _ (Con.nn k p) rfl rfl rfl (by kernel_rfl) rfl rfl, ?_⟩
      refine fcs ⟨obn_box 24 2 5 _ (Con.nn l q) rfl rfl rfl (by kernel_rfl) rfl rfl, ?_⟩
      refine fcs ⟨obn_new 26 6 _ [.bool false, .slice none 0 0, .slice none 0 0] rfl rfl rfl rfl rfl alloc26, ?_⟩
      refine fcs ⟨Ob.new_ (ob_const (.int .i64 0) 7 (.inr rfl) rfl (.inl rfl) rfl) (by kernel_rfl), ?_⟩
      exact fnl
    intro a1 w1 st1 hbr1 hfr
    have hs1 := hbr1.size
    have hb := up hb hbr1
    obtain ⟨b4, c4⟩ := (show (Fact.var' (Con.nn k p)).holds _ _ from st1.at_ 4)
    have g4 := hfr.ge (s := 4) rfl c4.1
    obtain ⟨b5, c5⟩ := (show (Fact.var' (Con.nn l q)).holds _ _ from st1.at_ 5)
    have g5 := hfr.ge (s := 5) rfl c5.1
    obtain ⟨b6, c6⟩ := (show (Fact.var' (Con.raw 3)).holds _ _ from st1.at_ 6)
    have g6 := hfr.ge (s := 6) rfl c6.1
    have ne4_5 := hfr.apart (s := 4) (t := 5) rfl rfl (by decide) c4.1 c5.1
    have ne4_6 := hfr.apart (s := 4) (t := 6) rfl rfl (by decide) c4.1 c6.1
    have ne5_6 := hfr.apart (s := 5) (t := 6) rfl rfl (by decide) c5.1 c6.1
    have st : St 44 [(0, Fact.eq (.bool false)), (4, Fact.cell b4 (Con.nn k p)), (5, Fact.cell b5 (Con.nn l q)), (6, Fact.cell b6 (Con.raw 3)), (7, Fact.eq (.int .i64 0))] a1 w1 := st1.to (fcs ⟨st1.at_ 0, fcs ⟨c4, fcs ⟨c5, fcs ⟨c6, fcs ⟨st1.at_ 7, fnl⟩⟩⟩⟩⟩)
    clear st1 hbr1 hfr c4 c5 c6
    refine wpList_nil ?_
    refine then_normal ?_
    refine wp_seq ?_
    refine wp_seq ?_
    refine sym_region st [(15, Fact.agg (Con.nn l q)), (16, Fact.eq (.bool false))] [] 2 (by kernel_rfl) (by kernel_rfl) (by kernel_rfl) (Nat.le_of_ble_eq_true rfl) (by kernel_rfl) rfl rfl ?_ ?_
    · refine fcs ⟨Ob.new_ (ob_read 24 5 15 (Con.nn l q) rfl rfl (.inl rfl) (by kernel_rfl) points_cell rfl row24 info24) (by kernel_rfl), ?_⟩
      refine fcs ⟨Ob.new_ (ob_call1 44 15 16 _ rfl rfl (.inl rfl) (by kernel_rfl) (by kernel_rfl) (z_zero l q false (decide_eq_false hq))) (by kernel_rfl), ?_⟩
      exact fnl
    intro a2 w2 st2 hbr2 hfr
    have hs2 := hbr2.size
    have hb := up hb hbr2
    have st : St 44 [(0, Fact.eq (.bool false)), (4, Fact.cell b4 (Con.nn k p)), (5, Fact.cell b5 (Con.nn l q)), (6, Fact.cell b6 (Con.raw 3)), (7, Fact.eq (.int .i64 0)), (16, Fact.eq (.bool false))] a2 w2 := st2.to (fcs ⟨st2.at_ 0, fcs ⟨st2.at_ 4, fcs ⟨st2.at_ 5, fcs ⟨st2.at_ 6, fcs ⟨st2.at_ 7, fcs ⟨st2.at_ 16, fnl⟩⟩⟩⟩⟩⟩)
    clear st2 hbr2 hfr
    refine wpList_nil ?_
    refine then_normal ?_
    refine wp_cond_false (st.at_ 16) ?_
    refine wp_skip ?_
    refine then_normal ?_
    refine wp_seq ?_
    refine sym_region st [(18, Fact.agg (Con.nn k p)), (19, Fact.agg (Con.nn l q)), (20, Fact.agg (Con.nn l (Nat.gcd p q))), (8, Fact.var' (Con.raw 1))] [8] 4 (by kernel_rfl) (by kernel_rfl) (by kernel_rfl) (Nat.le_of_ble_eq_true rfl) (by kernel_rfl) rfl rfl ?_ ?_
    · refine fcs ⟨Ob.new_ (ob_read 24 4 18 (Con.nn k p) rfl rfl (.inl rfl) (by kernel_rfl) points_cell rfl row24 info24) (by kernel_rfl), ?_⟩
      refine fcs ⟨Ob.new_ (ob_read 24 5 19 (Con.nn l q) rfl rfl (.inl rfl) (by kernel_rfl) points_cell rfl row24 info24) (by kernel_rfl), ?_⟩
      refine fcs ⟨Ob.new_ (ob_call2 46 18 19 20 _ rfl rfl (.inl rfl) (by kernel_rfl) (by kernel_rfl) (by kernel_rfl) (r_gcd k l p q hq (by omega) (by omega))) (by kernel_rfl), ?_⟩
      refine fcs ⟨obn_new 24 8 _ [.slice none 0 0] rfl rfl rfl rfl rfl alloc24, ?_⟩
      exact fnl
    intro a3 w3 st3 hbr3 hfr
    have hs3 := hbr3.size
    have hb := up hb hbr3
    obtain ⟨b8, c8⟩ := (show (Fact.var' (Con.raw 1)).holds _ _ from st3.at_ 8)
    have g8 := hfr.ge (s := 8) rfl c8.1
    have st : St 44 [(0, Fact.eq (.bool false)), (4, Fact.cell b4 (Con.nn k p)), (5, Fact.cell b5 (Con.nn l q)), (6, Fact.cell b6 (Con.raw 3)), (7, Fact.eq (.int .i64 0)), (20, Fact.agg (Con.nn l (Nat.gcd p q))), (8, Fact.cell b8 (Con.raw 1))] a3 w3 := st3.to (fcs ⟨st3.at_ 0, fcs ⟨st3.at_ 4, fcs ⟨st3.at_ 5, fcs ⟨st3.at_ 6, fcs ⟨st3.at_ 7, fcs ⟨st3.at_ 20, fcs ⟨c8, fnl⟩⟩⟩⟩⟩⟩⟩)
    clear st3 hbr3 hfr c8
    refine sym_store st 24 8 20 b8 (Con.raw 1) (Con.nn l (Nat.gcd p q)) [(0, Fact.eq (.bool false)), (4, Fact.cell b4 (Con.nn k p)), (5, Fact.cell b5 (Con.nn l q)), (6, Fact.cell b6 (Con.raw 3)), (7, Fact.eq (.int .i64 0)), (8, Fact.cell b8 (Con.nn l (Nat.gcd p q)))] rfl rfl rfl rfl rfl rfl info24 ?_ ?_
    · exact fcs ⟨.inr ⟨rfl, safe_eq _ _⟩, fcs ⟨.inr ⟨rfl, safe_cell _ (by omega)⟩, fcs ⟨.inr ⟨rfl, safe_cell _ (by omega)⟩, fcs ⟨.inr ⟨rfl, safe_cell _ (by omega)⟩, fcs ⟨.inr ⟨rfl, safe_eq _ _⟩, fcs ⟨.inl rfl, fnl⟩⟩⟩⟩⟩⟩
    clear st; intro w4 hB hsz4 st
    have hb := hB _ _ hb (by omega) (by omega)
    clear hB
    refine wpList_nil ?_
    refine then_normal ?_
    refine wp_seq ?_
    refine sym_region st [(22, Fact.agg (Con.nn k p)), (23, Fact.agg (Con.nn l (Nat.gcd p q))), (24, Fact.three (Fact.agg (Con.nn k (p / (Nat.gcd p q)))) (Fact.agg (Con.nn l (p % (Nat.gcd p q)))) (Fact.eq (.int .i64 0))), (21, Fact.three (Fact.agg (Con.nn k (p / (Nat.gcd p q)))) (Fact.agg (Con.nn l (p % (Nat.gcd p q)))) (Fact.eq (.int .i64 0))), (25, Fact.agg (Con.nn k (p / (Nat.gcd p q)))), (26, Fact.agg (Con.nn l (p % (Nat.gcd p q)))), (27, Fact.eq (.int .i64 0)), (9, Fact.var' (Con.raw 1)), (10, Fact.var' (Con.raw 1))] [9, 10] 9 (by kernel_rfl) (by kernel_rfl) (by kernel_rfl) (Nat.le_of_ble_eq_true rfl) (by kernel_rfl) rfl rfl ?_ ?_
    · refine fcs ⟨Ob.new_ (ob_read 24 4 22 (Con.nn k p) rfl rfl (.inl rfl) (by kernel_rfl) points_cell rfl row24 info24) (by kernel_rfl), ?_⟩
      refine fcs ⟨Ob.new_ (ob_read 24 8 23 (Con.nn l (Nat.gcd p q)) rfl rfl (.inl rfl) (by kernel_rfl) points_cell rfl row24 info24) (by kernel_rfl), ?_⟩
      refine fcs ⟨Ob.new_ (ob_call2 63 22 23 24 _ rfl rfl (.inl rfl) (by kernel_rfl) (by kernel_rfl) (by kernel_rfl) (r_divMod k l p (Nat.gcd p q) (Nat.ne_of_gt (Rt.gcd_pos hq)) (by omega) (by omega))) (by kernel_rfl), ?_⟩
      refine fcs ⟨Ob.new_ (ob_copy 24 21 (.inl rfl) rfl (.inl rfl) (by kernel_rfl) rfl) (by kernel_rfl), ?_⟩
      refine fcs ⟨Ob.new_ (ob_3a 21 25 (Fact.agg (Con.nn k (p / (Nat.gcd p q)))) (Fact.agg (Con.nn l (p % (Nat.gcd p q)))) (Fact.eq (.int .i64 0)) rfl rfl (.inl rfl) (by kernel_rfl) rfl rfl) (by kernel_rfl), ?_⟩
      refine fcs ⟨Ob.new_ (ob_3b 21 26 (Fact.agg (Con.nn k (p / (Nat.gcd p q)))) (Fact.agg (Con.nn l (p % (Nat.gcd p q)))) (Fact.eq (.int .i64 0)) rfl rfl (.inl rfl) (by kernel_rfl) rfl rfl) (by kernel_rfl), ?_⟩
      refine fcs ⟨Ob.new_ (ob_3c 21 27 (Fact.agg (Con.nn k (p / (Nat.gcd p q)))) (Fact.agg (Con.nn l (p % (Nat.gcd p q)))) (Fact.eq (.int .i64 0)) rfl rfl (.inl rfl) (by kernel_rfl) rfl rfl) (by kernel_rfl), ?_⟩
      refine fcs ⟨obn_new 24 9 _ [.slice none 0 0] rfl rfl rfl rfl rfl alloc24, ?_⟩
      refine fcs ⟨obn_new 24 10 _ [.slice none 0 0] rfl rfl rfl rfl rfl alloc24, ?_⟩
      exact fnl
    intro a5 w5 st5 hbr5 hfr
    have hs5 := hbr5.size
    have hb := up hb hbr5
    obtain ⟨b9, c9⟩ := (show (Fact.var' (Con.raw 1)).holds _ _ from st5.at_ 9)
    have g9 := hfr.ge (s := 9) rfl c9.1
    obtain ⟨b10, c10⟩ := (show (Fact.var' (Con.raw 1)).holds _ _ from st5.at_ 10)
    have g10 := hfr.ge (s := 10) rfl c10.1
    have ne9_10 := hfr.apart (s := 9) (t := 10) rfl rfl (by decide) c9.1 c10.1
    have st : St 44 [(0, Fact.eq (.bool false)), (4, Fact.cell b4 (Con.nn k p)), (5, Fact.cell b5 (Con.nn l q)), (6, Fact.cell b6 (Con.raw 3)), (7, Fact.eq (.int .i64 0)), (8, Fact.cell b8 (Con.nn l (Nat.gcd p q))), (25, Fact.agg (Con.nn k (p / (Nat.gcd p q)))), (26, Fact.agg (Con.nn l (p % (Nat.gcd p q)))), (27, Fact.eq (.int .i64 0)), (9, Fact.cell b9 (Con.raw 1)), (10, Fact.cell b10 (Con.raw 1))] a5 w5 := st5.to (fcs ⟨st5.at_ 0, fcs ⟨st5.at_ 4, fcs ⟨st5.at_ 5, fcs ⟨st5.at_ 6, fcs ⟨st5.at_ 7, fcs ⟨st5.at_ 8, fcs ⟨st5.at_ 25, fcs ⟨st5.at_ 26, fcs ⟨st5.at_ 27, fcs ⟨c9, fcs ⟨c10, fnl⟩⟩⟩⟩⟩⟩⟩⟩⟩⟩⟩)
    clear st5 hbr5 hfr c9 c10
    refine sym_store st 24 9 25 b9 (Con.raw 1) (Con.nn k (p / (Nat.gcd p q))) [(0, Fact.eq (.bool false)), (4, Fact.cell b4 (Con.nn k p)), (5, Fact.cell b5 (Con.nn l q)), (6, Fact.cell b6 (Con.raw 3)), (7, Fact.eq (.int .i64 0)), (8, Fact.cell b8 (Con.nn l (Nat.gcd p q))), (26, Fact.agg (Con.nn l (p % (Nat.gcd p q)))), (27, Fact.eq (.int .i64 0)), (9, Fact.cell b9 (Con.nn k (p / (Nat.gcd p q)))), (10, Fact.cell b10 (Con.raw 1))] rfl rfl rfl rfl rfl rfl info24 ?_ ?_
    · exact fcs ⟨.inr ⟨rfl, safe_eq _ _⟩, fcs ⟨.inr ⟨rfl, safe_cell _ (by omega)⟩, fcs ⟨.inr ⟨rfl, safe_cell _ (by omega)⟩, fcs ⟨.inr ⟨rfl, safe_cell _ (by omega)⟩, fcs ⟨.inr ⟨rfl, safe_eq _ _⟩, fcs ⟨.inr ⟨rfl, safe_cell _ (by omega)⟩, fcs ⟨.inr ⟨rfl, safe_agg _ _⟩, fcs ⟨.inr ⟨rfl, safe_eq _ _⟩, fcs ⟨.inl rfl, fcs ⟨.inr ⟨rfl, safe_cell _ (by omega)⟩, fnl⟩⟩⟩⟩⟩⟩⟩⟩⟩⟩
    clear st; intro w6 hB hsz6 st
    have hb := hB _ _ hb (by omega) (by omega)
    clear hB
    refine sym_store st 24 10 26 b10 (Con.raw 1) (Con.nn l (p % (Nat.gcd p q))) [(0, Fact.eq (.bool false)), (4, Fact.cell b4 (Con.nn k p)), (5, Fact.cell b5 (Con.nn l q)), (6, Fact.cell b6 (Con.raw 3)), (7, Fact.eq (.int .i64 0)), (8, Fact.cell b8 (Con.nn l (Nat.gcd p q))), (27, Fact.eq (.int .i64 0)), (9, Fact.cell b9 (Con.nn k (p / (Nat.gcd p q)))), (10, Fact.cell b10 (Con.nn l (p % (Nat.gcd p q))))] rfl rfl rfl rfl rfl rfl info24 ?_ ?_
    · exact fcs ⟨.inr ⟨rfl, safe_eq _ _⟩, fcs ⟨.inr ⟨rfl, safe_cell _ (by omega)⟩, fcs ⟨.inr ⟨rfl, safe_cell _ (by omega)⟩, fcs ⟨.inr ⟨rfl, safe_cell _ (by omega)⟩, fcs ⟨.inr ⟨rfl, safe_eq _ _⟩, fcs ⟨.inr ⟨rfl, safe_cell _ (by omega)⟩, fcs ⟨.inr ⟨rfl, safe_eq _ _⟩, fcs ⟨.inr ⟨rfl, safe_cell _ (by omega)⟩, fcs ⟨.inl rfl, fnl⟩⟩⟩⟩⟩⟩⟩⟩⟩
    clear st; intro w7 hB hsz7 st
    have hb := hB _ _ hb (by omega) (by omega)
    clear hB
    refine sym_op st 11 (Fact.eq (.int .i64 0)) rfl (Nat.le_of_ble_eq_true rfl) rfl rfl (by kernel_rfl) (ob_copy 27 11 (.inr rfl) rfl (.inl rfl) (by kernel_rfl) rfl) ?_
    clear st; intro a8 w8 hbr st; have hs8 := hbr.size; have hb := up hb hbr; clear hbr
    refine wpList_nil ?_
    refine then_normal ?_
    refine wp_seq ?_
    refine sym_region st [(29, Fact.agg (Con.nn l q)), (30, Fact.agg (Con.nn l (Nat.gcd p q))), (31, Fact.three (Fact.agg (Con.nn l (q / (Nat.gcd p q)))) (Fact.agg (Con.nn l (q % (Nat.gcd p q)))) (Fact.eq (.int .i64 0))), (28, Fact.three (Fact.agg (Con.nn l (q / (Nat.gcd p q)))) (Fact.agg (Con.nn l (q % (Nat.gcd p q)))) (Fact.eq (.int .i64 0))), (32, Fact.agg (Con.nn l (q / (Nat.gcd p q)))), (33, Fact.agg (Con.nn l (q % (Nat.gcd p q)))), (34, Fact.eq (.int .i64 0)), (12, Fact.var' (Con.raw 1)), (13, Fact.var' (Con.raw 1))] [12, 13] 9 (by kernel_rfl) (by kernel_rfl) (by kernel_rfl) (Nat.le_of_ble_eq_true rfl) (by kernel_rfl) rfl rfl ?_ ?_
    · refine fcs ⟨Ob.new_ (ob_read 24 5 29 (Con.nn l q) rfl rfl (.inl rfl) (by kernel_rfl) points_cell rfl row24 info24) (by kernel_rfl), ?_⟩
      refine fcs ⟨Ob.new_ (ob_read 24 8 30 (Con.nn l (Nat.gcd p q)) rfl rfl (.inl rfl) (by kernel_rfl) points_cell rfl row24 info24) (by kernel_rfl), ?_⟩
      refine fcs ⟨Ob.new_ (ob_call2 63 29 30 31 _ rfl rfl (.inl rfl) (by kernel_rfl) (by kernel_rfl) (by kernel_rfl) (r_divMod l l q (Nat.gcd p q) (Nat.ne_of_gt (Rt.gcd_pos hq)) (by omega) (by omega))) (by kernel_rfl), ?_⟩
      refine fcs ⟨Ob.new_ (ob_copy 31 28 (.inl rfl) rfl (.inl rfl) (by kernel_rfl) rfl) (by kernel_rfl), ?_⟩
      refine fcs ⟨Ob.new_ (ob_3a 28 32 (Fact.agg (Con.nn l (q / (Nat.gcd p q)))) (Fact.agg (Con.nn l (q % (Nat.gcd p q)))) (Fact.eq (.int .i64 0)) rfl rfl (.inl rfl) (by kernel_rfl) rfl rfl) (by kernel_rfl), ?_⟩
      refine fcs ⟨Ob.new_ (ob_3b 28 33 (Fact.agg (Con.nn l (q / (Nat.gcd p q)))) (Fact.agg (Con.nn l (q % (Nat.gcd p q)))) (Fact.eq (.int .i64 0)) rfl rfl (.inl rfl) (by kernel_rfl) rfl rfl) (by kernel_rfl), ?_⟩
      refine fcs ⟨Ob.new_ (ob_3c 28 34 (Fact.agg (Con.nn l (q / (Nat.gcd p q)))) (Fact.agg (Con.nn l (q % (Nat.gcd p q)))) (Fact.eq (.int .i64 0)) rfl rfl (.inl rfl) (by kernel_rfl) rfl rfl) (by kernel_rfl), ?_⟩
      refine fcs ⟨obn_new 24 12 _ [.slice none 0 0] rfl rfl rfl rfl rfl alloc24, ?_⟩
      refine fcs ⟨obn_new 24 13 _ [.slice none 0 0] rfl rfl rfl rfl rfl alloc24, ?_⟩
      exact fnl
    intro a9 w9 st9 hbr9 hfr
    have hs9 := hbr9.size
    have hb := up hb hbr9
    obtain ⟨b12, c12⟩ := (show (Fact.var' (Con.raw 1)).holds _ _ from st9.at_ 12)
    have g12 := hfr.ge (s := 12) rfl c12.1
    obtain ⟨b13, c13⟩ := (show (Fact.var' (Con.raw 1)).holds _ _ from st9.at_ 13)
    have g13 := hfr.ge (s := 13) rfl c13.1
    have ne12_13 := hfr.apart (s := 12) (t := 13) rfl rfl (by decide) c12.1 c13.1
    have st : St 44 [(0, Fact.eq (.bool false)), (4, Fact.cell b4 (Con.nn k p)), (6, Fact.cell b6 (Con.raw 3)), (7, Fact.eq (.int .i64 0)), (9, Fact.cell b9 (Con.nn k (p / (Nat.gcd p q)))), (32, Fact.agg (Con.nn l (q / (Nat.gcd p q)))), (33, Fact.agg (Con.nn l (q % (Nat.gcd p q)))), (34, Fact.eq (.int .i64 0)), (12, Fact.cell b12 (Con.raw 1)), (13, Fact.cell b13 (Con.raw 1))] a9 w9 := st9.to (fcs ⟨st9.at_ 0, fcs ⟨st9.at_ 4, fcs ⟨st9.at_ 6, fcs ⟨st9.at_ 7, fcs ⟨st9.at_ 9, fcs ⟨st9.at_ 32, fcs ⟨st9.at_ 33, fcs ⟨st9.at_ 34, fcs ⟨c12, fcs ⟨c13, fnl⟩⟩⟩⟩⟩⟩⟩⟩⟩⟩)
    clear st9 hbr9 hfr c12 c13
    refine sym_store st 24 12 32 b12 (Con.raw 1) (Con.nn l (q / (Nat.gcd p q))) [(0, Fact.eq (.bool false)), (4, Fact.cell b4 (Con.nn k p)), (6, Fact.cell b6 (Con.raw 3)), (7, Fact.eq (.int .i64 0)), (9, Fact.cell b9 (Con.nn k (p / (Nat.gcd p q)))), (33, Fact.agg (Con.nn l (q % (Nat.gcd p q)))), (34, Fact.eq (.int .i64 0)), (12, Fact.cell b12 (Con.nn l (q / (Nat.gcd p q)))), (13, Fact.cell b13 (Con.raw 1))] rfl rfl rfl rfl rfl rfl info24 ?_ ?_
    · exact fcs ⟨.inr ⟨rfl, safe_eq _ _⟩, fcs ⟨.inr ⟨rfl, safe_cell _ (by omega)⟩, fcs ⟨.inr ⟨rfl, safe_cell _ (by omega)⟩, fcs ⟨.inr ⟨rfl, safe_eq _ _⟩, fcs ⟨.inr ⟨rfl, safe_cell _ (by omega)⟩, fcs ⟨.inr ⟨rfl, safe_agg _ _⟩, fcs ⟨.inr ⟨rfl, safe_eq _ _⟩, fcs ⟨.inl rfl, fcs ⟨.inr ⟨rfl, safe_cell _ (by omega)⟩, fnl⟩⟩⟩⟩⟩⟩⟩⟩⟩
    clear st; intro w10 hB hsz10 st
    have hb := hB _ _ hb (by omega) (by omega)
    clear hB
    refine sym_store st 24 13 33 b13 (Con.raw 1) (Con.nn l (q % (Nat.gcd p q))) [(0, Fact.eq (.bool false)), (4, Fact.cell b4 (Con.nn k p)), (6, Fact.cell b6 (Con.raw 3)), (7, Fact.eq (.int .i64 0)), (9, Fact.cell b9 (Con.nn k (p / (Nat.gcd p q)))), (34, Fact.eq (.int .i64 0)), (12, Fact.cell b12 (Con.nn l (q / (Nat.gcd p q)))), (13, Fact.cell b13 (Con.nn l (q % (Nat.gcd p q))))] rfl rfl rfl rfl rfl rfl info24 ?_ ?_
    · exact fcs ⟨.inr ⟨rfl, safe_eq _ _⟩, fcs ⟨.inr ⟨rfl, safe_cell _ (by omega)⟩, fcs ⟨.inr ⟨rfl, safe_cell _ (by omega)⟩, fcs ⟨.inr ⟨rfl, safe_eq _ _⟩, fcs ⟨.inr ⟨rfl, safe_cell _ (by omega)⟩, fcs ⟨.inr ⟨rfl, safe_eq _ _⟩, fcs ⟨.inr ⟨rfl, safe_cell _ (by omega)⟩, fcs ⟨.inl rfl, fnl⟩⟩⟩⟩⟩⟩⟩⟩
    clear st; intro w11 hB hsz11 st
    have hb := hB _ _ hb (by omega) (by omega)
    clear hB
    refine sym_op st 14 (Fact.eq (.int .i64 0)) rfl (Nat.le_of_ble_eq_true rfl) rfl rfl (by kernel_rfl) (ob_copy 34 14 (.inr rfl) rfl (.inl rfl) (by kernel_rfl) rfl) ?_
    clear st; intro a12 w12 hbr st; have hs12 := hbr.size; have hb := up hb hbr; clear hbr
    refine wpList_nil ?_
    refine then_normal ?_
    refine wp_seq ?_
    have st := st.to (ks' := [(0, Fact.eq (.bool false)), (4, Fact.cell b4 (Con.nn k p)), (6, Fact.cell b6 (Con.raw 3)), (9, Fact.cell b9 (Con.nn k (p / (Nat.gcd p q)))), (12, Fact.cell b12 (Con.nn l (q / (Nat.gcd p q))))]) (fcs ⟨st.at_ 0, fcs ⟨st.at_ 4, fcs ⟨st.at_ 6, fcs ⟨st.at_ 9, fcs ⟨st.at_ 12, fnl⟩⟩⟩⟩⟩)
    refine sym_region st [(35, Fact.eq (.bool false)), (36, Fact.eq (.bool false)), (37, Fact.eq undef), (38, Fact.eq undef), (39, Fact.eq undef), (40, Fact.eq (.bool false)), (41, Fact.agg (Con.nn k (p / (Nat.gcd p q)))), (42, Fact.agg (Con.nn l (q / (Nat.gcd p q)))), (43, Fact.agg (Con.tri k l false (p / (Nat.gcd p q)) (q / (Nat.gcd p q))))] [] 9 (by kernel_rfl) (by kernel_rfl) (by kernel_rfl) (Nat.le_of_ble_eq_true rfl) (by kernel_rfl) rfl rfl ?_ ?_
    · refine fcs ⟨Ob.new_ (ob_copy 0 35 (.inl rfl) rfl (.inl rfl) (by kernel_rfl) rfl) (by kernel_rfl), ?_⟩
      refine fcs ⟨Ob.new_ (ob_copy 35 36 (.inl rfl) rfl (.inl rfl) (by kernel_rfl) rfl) (by kernel_rfl), ?_⟩
      refine fcs ⟨Ob.new_ (ob_skip 1 36 37 true rfl rfl (by kernel_rfl) (by decide) rfl rfl rfl) (by kernel_rfl), ?_⟩
      refine fcs ⟨Ob.new_ (ob_skip 1 36 38 true rfl rfl (by kernel_rfl) (by decide) rfl rfl rfl) (by kernel_rfl), ?_⟩
      refine fcs ⟨Ob.new_ (ob_skip 1 36 39 true rfl rfl (by kernel_rfl) (by decide) rfl rfl rfl) (by kernel_rfl), ?_⟩
      refine fcs ⟨Ob.new_ (ob_pick_no 36 39 40 (.bool false) rfl rfl (.inl rfl) (by kernel_rfl) rfl rfl) (by kernel_rfl), ?_⟩
      refine fcs ⟨Ob.new_ (ob_read 24 9 41 (Con.nn k (p / (Nat.gcd p q))) rfl rfl (.inl rfl) (by kernel_rfl) points_cell rfl row24 info24) (by kernel_rfl), ?_⟩
      refine fcs ⟨Ob.new_ (ob_read 24 12 42 (Con.nn l (q / (Nat.gcd p q))) rfl rfl (.inl rfl) (by kernel_rfl) points_cell rfl row24 info24) (by kernel_rfl), ?_⟩
      refine fcs ⟨Ob.new_ (ob_buildtri 40 41 42 43 k l (p / (Nat.gcd p q)) (q / (Nat.gcd p q)) false rfl rfl (.inl rfl) (by kernel_rfl) (by kernel_rfl) (by kernel_rfl) rfl rfl rfl rfl) (by kernel_rfl), ?_⟩
      exact fnl
    intro a13 w13 st13 hbr13 hfr
    have hs13 := hbr13.size
    have hb := up hb hbr13
    have st : St 44 [(6, Fact.cell b6 (Con.raw 3)), (43, Fact.agg (Con.tri k l false (p / (Nat.gcd p q)) (q / (Nat.gcd p q))))] a13 w13 := st13.to (fcs ⟨st13.at_ 6, fcs ⟨st13.at_ 43, fnl⟩⟩)
    clear st13 hbr13 hfr
    refine sym_store st 26 6 43 b6 (Con.raw 3) (Con.tri k l false (p / (Nat.gcd p q)) (q / (Nat.gcd p q))) [(6, Fact.cell b6 (Con.tri k l false (p / (Nat.gcd p q)) (q / (Nat.gcd p q))))] rfl rfl rfl rfl rfl rfl info26 ?_ ?_
    · exact fcs ⟨.inl rfl, fnl⟩
    clear st; intro w14 hB hsz14 st
    have hb := hB _ _ hb (by omega) (by omega)
    clear hB
    refine sym_op st 7 (Fact.eq (.int .i64 0)) rfl (Nat.le_of_ble_eq_true rfl) rfl rfl (by kernel_rfl) (ob_const (.int .i64 0) 7 (.inr rfl) rfl (.inl rfl) rfl) ?_
    clear st; intro a15 w15 hbr st; have hs15 := hbr.size; have hb := up hb hbr; clear hbr
    refine wpList_nil ?_
    refine then_normal ?_
    refine wp_ret ?_
    exact sym_ret2 rfl st.defers (resAt_cell st 6 b6 26 (Con.tri k l false (p / (Nat.gcd p q)) (q / (Nat.gcd p q))) rfl row26 info26) (resAt_tmp st 7) hb (fun v u h1 h2 => ⟨v, u, rfl, Fact.tri_fr h1 hq (rfl) rfl rfl rfl hkr hlr, h2⟩)
  | true =>
    refine sym_calls 44 [(0, Fact.eq (.bool true)), (1, Fact.agg (Con.nn k p)), (2, Fact.agg (Con.nn l q))] Tryz.func53 rfl rfl (Nat.le_of_ble_eq_true rfl) (fcs ⟨⟨Nat.le_of_ble_eq_true rfl, hv0⟩, fcs ⟨⟨Nat.le_of_ble_eq_true rfl, hv1⟩, fcs ⟨⟨Nat.le_of_ble_eq_true rfl, hv2⟩, fnl⟩⟩⟩) fun a st => ?_
    have hb := Below.refl w.heap.size w
    refine wp_seq ?_
    refine sym_region st [(4, Fact.var' (Con.nn k p)), (5, Fact.var' (Con.nn l q)), (6, Fact.var' (Con.raw 3)), (7, Fact.eq (.int .i64 0))] [4, 5, 6] 4 (by kernel_rfl) (by kernel_rfl) (by kernel_rfl) (Nat.le_of_ble_eq_true rfl) (by kernel_rfl) rfl rfl ?_ ?_
    · refine fcs ⟨obn_box 24 1 4 _ (Con.nn k p) rfl rfl rfl (by kernel_rfl) rfl rfl, ?_⟩
      refine fcs ⟨obn_box 24 2 5 _ (Con.nn l q) rfl rfl rfl (by kernel_rfl) rfl rfl, ?_⟩
      refine fcs ⟨obn_new 26 6 _ [.bool false, .slice none 0 0, .slice none 0 0] rfl rfl rfl rfl rfl alloc26, ?_⟩
      refine fcs ⟨Ob.new_ (ob_const (.int .i64 0) 7 (.inr rfl) rfl (.inl rfl) rfl) (by kernel_rfl), ?_⟩
      exact fnl
    intro a1 w1 st1 hbr1 hfr
    have hs1 := hbr1.size
    have hb := up hb hbr1
    obtain ⟨b4, c4⟩ := (show (Fact.var' (Con.nn k p)).holds _ _ from st1.at_ 4)
    have g4 := hfr.ge (s := 4) rfl c4.1
    obtain ⟨b5, c5⟩ := (show (Fact.var' (Con.nn l q)).holds _ _ from st1.at_ 5)
    have g5 := hfr.ge (s := 5) rfl c5.1
    obtain ⟨b6, c6⟩ := (show (Fact.var' (Con.raw 3)).holds _ _ from st1.at_ 6)
    have g6 := hfr.ge (s := 6) rfl c6.1
    have ne4_5 := hfr.apart (s := 4) (t := 5) rfl rfl (by decide) c4.1 c5.1
    have ne4_6 := hfr.apart (s := 4) (t := 6) rfl rfl (by decide) c4.1 c6.1
    have ne5_6 := hfr.apart (s := 5) (t := 6) rfl rfl (by decide) c5.1 c6.1
    have st : St 44 [(0, Fact.eq (.bool true)), (4, Fact.cell b4 (Con.nn k p)), (5, Fact.cell b5 (Con.nn l q)), (6, Fact.cell b6 (Con.raw 3)), (7, Fact.eq (.int .i64 0))] a1 w1 := st1.to (fcs ⟨st1.at_ 0, fcs ⟨c4, fcs ⟨c5, fcs ⟨c6, fcs ⟨st1.at_ 7, fnl⟩⟩⟩⟩⟩)
    clear st1 hbr1 hfr c4 c5 c6
    refine wpList_nil ?_
    refine then_normal ?_
    refine wp_seq ?_
    refine wp_seq ?_
    refine sym_region st [(15, Fact.agg (Con.nn l q)), (16, Fact.eq (.bool false))] [] 2 (by kernel_rfl) (by kernel_rfl) (by kernel_rfl) (Nat.le_of_ble_eq_true rfl) (by kernel_rfl) rfl rfl ?_ ?_
    · refine fcs ⟨Ob.new_ (ob_read 24 5 15 (Con.nn l q) rfl rfl (.inl rfl) (by kernel_rfl) points_cell rfl row24 info24) (by kernel_rfl), ?_⟩
      refine fcs ⟨Ob.new_ (ob_call1 44 15 16 _ rfl rfl (.inl rfl) (by kernel_rfl) (by kernel_rfl) (z_zero l q false (decide_eq_false hq))) (by kernel_rfl), ?_⟩
      exact fnl
    intro a2 w2 st2 hbr2 hfr
    have hs2 := hbr2.size
    have hb := up hb hbr2
    have st : St 44 [(0, Fact.eq (.bool true)), (4, Fact.cell b4 (Con.nn k p)), (5, Fact.cell b5 (Con.nn l q)), (6, Fact.cell b6 (Con.raw 3)), (7, Fact.eq (.int .i64 0)), (16, Fact.eq (.bool false))] a2 w2 := st2.to (fcs ⟨st2.at_ 0, fcs ⟨st2.at_ 4, fcs ⟨st2.at_ 5, fcs ⟨st2.at_ 6, fcs ⟨st2.at_ 7, fcs ⟨st2.at_ 16, fnl⟩⟩⟩⟩⟩⟩)
    clear st2 hbr2 hfr
    refine wpList_nil ?_
    refine then_normal ?_
    refine wp_cond_false (st.at_ 16) ?_
    refine wp_skip ?_
    refine then_normal ?_
    refine wp_seq ?_
    refine sym_region st [(18, Fact.agg (Con.nn k p)), (19, Fact.agg (Con.nn l q)), (20, Fact.agg (Con.nn l (Nat.gcd p q))), (8, Fact.var' (Con.raw 1))] [8] 4 (by kernel_rfl) (by kernel_rfl) (by kernel_rfl) (Nat.le_of_ble_eq_true rfl) (by kernel_rfl) rfl rfl ?_ ?_
    · refine fcs ⟨Ob.new_ (ob_read 24 4 18 (Con.nn k p) rfl rfl (.inl rfl) (by kernel_rfl) points_cell rfl row24 info24) (by kernel_rfl), ?_⟩
      refine fcs ⟨Ob.new_ (ob_read 24 5 19 (Con.nn l q) rfl rfl (.inl rfl) (by kernel_rfl) points_cell rfl row24 info24) (by kernel_rfl), ?_⟩
      refine fcs ⟨Ob.new_ (ob_call2 46 18 19 20 _ rfl rfl (.inl rfl) (by kernel_rfl) (by kernel_rfl) (by kernel_rfl) (r_gcd k l p q hq (by omega) (by omega))) (by kernel_rfl), ?_⟩
      refine fcs ⟨obn_new 24 8 _ [.slice none 0 0] rfl rfl rfl rfl rfl alloc24, ?_⟩
      exact fnl
    intro a3 w3 st3 hbr3 hfr
    have hs3 := hbr3.size
    have hb := up hb hbr3
    obtain ⟨b8, c8⟩ := (show (Fact.var' (Con.raw 1)).holds _ _ from st3.at_ 8)
    have g8 := hfr.ge (s := 8) rfl c8.1
    have st : St 44 [(0, Fact.eq (.bool true)), (4, Fact.cell b4 (Con.nn k p)), (5, Fact.cell b5 (Con.nn l q)), (6, Fact.cell b6 (Con.raw 3)), (7, Fact.eq (.int .i64 0)), (20, Fact.agg (Con.nn l (Nat.gcd p q))), (8, Fact.cell b8 (Con.raw 1))] a3 w3 := st3.to (fcs ⟨st3.at_ 0, fcs ⟨st3.at_ 4, fcs ⟨st3.at_ 5, fcs ⟨st3.at_ 6, fcs ⟨st3.at_ 7, fcs ⟨st3.at_ 20, fcs ⟨c8, fnl⟩⟩⟩⟩⟩⟩⟩)
    clear st3 hbr3 hfr c8
    refine sym_store st 24 8 20 b8 (Con.raw 1) (Con.nn l (Nat.gcd p q)) [(0, Fact.eq (.bool true)), (4, Fact.cell b4 (Con.nn k p)), (5, Fact.cell b5 (Con.nn l q)), (6, Fact.cell b6 (Con.raw 3)), (7, Fact.eq (.int .i64 0)), (8, Fact.cell b8 (Con.nn l (Nat.gcd p q)))] rfl rfl rfl rfl rfl rfl info24 ?_ ?_
    · exact fcs ⟨.inr ⟨rfl, safe_eq _ _⟩, fcs ⟨.inr ⟨rfl, safe_cell _ (by omega)⟩, fcs ⟨.inr ⟨rfl, safe_cell _ (by omega)⟩, fcs ⟨.inr ⟨rfl, safe_cell _ (by omega)⟩, fcs ⟨.inr ⟨rfl, safe_eq _ _⟩, fcs ⟨.inl rfl, fnl⟩⟩⟩⟩⟩⟩
    clear st; intro w4 hB hsz4 st
    have hb := hB _ _ hb (by omega) (by omega)
    clear hB
    refine wpList_nil ?_
    refine then_normal ?_
    refine wp_seq ?_
    refine sym_region st [(22, Fact.agg (Con.nn k p)), (23, Fact.agg (Con.nn l (Nat.gcd p q))), (24, Fact.three (Fact.agg (Con.nn k (p / (Nat.gcd p q)))) (Fact.agg (Con.nn l (p % (Nat.gcd p q)))) (Fact.eq (.int .i64 0))), (21, Fact.three (Fact.agg (Con.nn k (p / (Nat.gcd p q)))) (Fact.agg (Con.nn l (p % (Nat.gcd p q)))) (Fact.eq (.int .i64 0))), (25, Fact.agg (Con.nn k (p / (Nat.gcd p q)))), (26, Fact.agg (Con.nn l (p % (Nat.gcd p q)))), (27, Fact.eq (.int .i64 0)), (9, Fact.var' (Con.raw 1)), (10, Fact.var' (Con.raw 1))] [9, 10] 9 (by kernel_rfl) (by kernel_rfl) (by kernel_rfl) (Nat.le_of_ble_eq_true rfl) (by kernel_rfl) rfl rfl ?_ ?_
    · refine fcs ⟨Ob.new_ (ob_read 24 4 22 (Con.nn k p) rfl rfl (.inl rfl) (by kernel_rfl) points_cell rfl row24 info24) (by kernel_rfl), ?_⟩
      refine fcs ⟨Ob.new_ (ob_read 24 8 23 (Con.nn l (Nat.gcd p q)) rfl rfl (.inl rfl) (by kernel_rfl) points_cell rfl row24 info24) (by kernel_rfl), ?_⟩
      refine fcs ⟨Ob.new_ (ob_call2 63 22 23 24 _ rfl rfl (.inl rfl) (by kernel_rfl) (by kernel_rfl) (by kernel_rfl) (r_divMod k l p (Nat.gcd p q) (Nat.ne_of_gt (Rt.gcd_pos hq)) (by omega) (by omega))) (by kernel_rfl), ?_⟩
      refine fcs ⟨Ob.new_ (ob_copy 24 21 (.inl rfl) rfl (.inl rfl) (by kernel_rfl) rfl) (by kernel_rfl), ?_⟩
      refine fcs ⟨Ob.new_ (ob_3a 21 25 (Fact.agg (Con.nn k (p / (Nat.gcd p q)))) (Fact.agg (Con.nn l (p % (Nat.gcd p q)))) (Fact.eq (.int .i64 0)) rfl rfl (.inl rfl) (by kernel_rfl) rfl rfl) (by kernel_rfl), ?_⟩
      refine fcs ⟨Ob.new_ (ob_3b 21 26 (Fact.agg (Con.nn k (p / (Nat.gcd p q)))) (Fact.agg (Con.nn l (p % (Nat.gcd p q)))) (Fact.eq (.int .i64 0)) rfl rfl (.inl rfl) (by kernel_rfl) rfl rfl) (by kernel_rfl), ?_⟩
      refine fcs ⟨Ob.new_ (ob_3c 21 27 (Fact.agg (Con.nn k (p / (Nat.gcd p q)))) (Fact.agg (Con.nn l (p % (Nat.gcd p q)))) (Fact.eq (.int .i64 0)) rfl rfl (.inl rfl) (by kernel_rfl) rfl rfl) (by kernel_rfl), ?_⟩
      refine fcs ⟨obn_new 24 9 _ [.slice none 0 0] rfl rfl rfl rfl rfl alloc24, ?_⟩
      refine fcs ⟨obn_new 24 10 _ [.slice none 0 0] rfl rfl rfl rfl rfl alloc24, ?_⟩
      exact fnl
    intro a5 w5 st5 hbr5 hfr
    have hs5 := hbr5.size
    have hb := up hb hbr5
    obtain ⟨b9, c9⟩ := (show (Fact.var' (Con.raw 1)).holds _ _ from st5.at_ 9)
    have g9 := hfr.ge (s := 9) rfl c9.1
    obtain ⟨b10, c10⟩ := (show (Fact.var' (Con.raw 1)).holds _ _ from st5.at_ 10)
    have g10 := hfr.ge (s := 10) rfl c10.1
    have ne9_10 := hfr.apart (s := 9) (t := 10) rfl rfl (by decide) c9.1 c10.1
    have st : St 44 [(0, Fact.eq (.bool true)), (4, Fact.cell b4 (Con.nn k p)), (5, Fact.cell b5 (Con.nn l q)), (6, Fact.cell b6 (Con.raw 3)), (7, Fact.eq (.int .i64 0)), (8, Fact.cell b8 (Con.nn l (Nat.gcd p q))), (25, Fact.agg (Con.nn k (p / (Nat.gcd p q)))), (26, Fact.agg (Con.nn l (p % (Nat.gcd p q)))), (27, Fact.eq (.int .i64 0)), (9, Fact.cell b9 (Con.raw 1)), (10, Fact.cell b10 (Con.raw 1))] a5 w5 := st5.to (fcs ⟨st5.at_ 0, fcs ⟨st5.at_ 4, fcs ⟨st5.at_ 5, fcs ⟨st5.at_ 6, fcs ⟨st5.at_ 7, fcs ⟨st5.at_ 8, fcs ⟨st5.at_ 25, fcs ⟨st5.at_ 26, fcs ⟨st5.at_ 27, fcs ⟨c9, fcs ⟨c10, fnl⟩⟩⟩⟩⟩⟩⟩⟩⟩⟩⟩)
    clear st5 hbr5 hfr c9 c10
    refine sym_store st 24 9 25 b9 (Con.raw 1) (Con.nn k (p / (Nat.gcd p q))) [(0, Fact.eq (.bool true)), (4, Fact.cell b4 (Con.nn k p)), (5, Fact.cell b5 (Con.nn l q)), (6, Fact.cell b6 (Con.raw 3)), (7, Fact.eq (.int .i64 0)), (8, Fact.cell b8 (Con.nn l (Nat.gcd p q))), (26, Fact.agg (Con.nn l (p % (Nat.gcd p q)))), (27, Fact.eq (.int .i64 0)), (9, Fact.cell b9 (Con.nn k (p / (Nat.gcd p q)))), (10, Fact.cell b10 (Con.raw 1))] rfl rfl rfl rfl rfl rfl info24 ?_ ?_
    · exact fcs ⟨.inr ⟨rfl, safe_eq _ _⟩, fcs ⟨.inr ⟨rfl, safe_cell _ (by omega)⟩, fcs ⟨.inr ⟨rfl, safe_cell _ (by omega)⟩, fcs ⟨.inr ⟨rfl, safe_cell _ (by omega)⟩, fcs ⟨.inr ⟨rfl, safe_eq _ _⟩, fcs ⟨.inr ⟨rfl, safe_cell _ (by omega)⟩, fcs ⟨.inr ⟨rfl, safe_agg _ _⟩, fcs ⟨.inr ⟨rfl, safe_eq _ _⟩, fcs ⟨.inl rfl, fcs ⟨.inr ⟨rfl, safe_cell _ (by omega)⟩, fnl⟩⟩⟩⟩⟩⟩⟩⟩⟩⟩
    clear st; intro w6 hB hsz6 st
    have hb := hB _ _ hb (by omega) (by omega)
    clear hB
    refine sym_store st 24 10 26 b10 (Con.raw 1) (Con.nn l (p % (Nat.gcd p q))) [(0, Fact.eq (.bool true)), (4, Fact.cell b4 (Con.nn k p)), (5, Fact.cell b5 (Con.nn l q)), (6, Fact.cell b6 (Con.raw 3)), (7, Fact.eq (.int .i64 0)), (8, Fact.cell b8 (Con.nn l (Nat.gcd p q))), (27, Fact.eq (.int .i64 0)), (9, Fact.cell b9 (Con.nn k (p / (Nat.gcd p q)))), (10, Fact.cell b10 (Con.nn l (p % (Nat.gcd p q))))] rfl rfl rfl rfl rfl rfl info24 ?_ ?_
    · exact fcs ⟨.inr ⟨rfl, safe_eq _ _⟩, fcs ⟨.inr ⟨rfl, safe_cell _ (by omega)⟩, fcs ⟨.inr ⟨rfl, safe_cell _ (by omega)⟩, fcs ⟨.inr ⟨rfl, safe_cell _ (by omega)⟩, fcs ⟨.inr ⟨rfl, safe_eq _ _⟩, fcs ⟨.inr ⟨rfl, safe_cell _ (by omega)⟩, fcs ⟨.inr ⟨rfl, safe_eq _ _⟩, fcs ⟨.inr ⟨rfl, safe_cell _ (by omega)⟩, fcs ⟨.inl rfl, fnl⟩⟩⟩⟩⟩⟩⟩⟩⟩
    clear st; intro w7 hB hsz7 st
    have hb := hB _ _ hb (by omega) (by omega)
    clear hB
    refine sym_op st 11 (Fact.eq (.int .i64 0)) rfl (Nat.le_of_ble_eq_true rfl) rfl rfl (by kernel_rfl) (ob_copy 27 11 (.inr rfl) rfl (.inl rfl) (by kernel_rfl) rfl) ?_
    clear st; intro a8 w8 hbr st; have hs8 := hbr.size; have hb := up hb hbr; clear hbr
    refine wpList_nil ?_
    refine then_normal ?_
    refine wp_seq ?_
    refine sym_region st [(29, Fact.agg (Con.nn l q)), (30, Fact.agg (Con.nn l (Nat.gcd p q))), (31, Fact.three (Fact.agg (Con.nn l (q / (Nat.gcd p q)))) (Fact.agg (Con.nn l (q % (Nat.gcd p q)))) (Fact.eq (.int .i64 0))), (28, Fact.three (Fact.agg (Con.nn l (q / (Nat.gcd p q)))) (Fact.agg (Con.nn l (q % (Nat.gcd p q)))) (Fact.eq (.int .i64 0))), (32, Fact.agg (Con.nn l (q / (Nat.gcd p q)))), (33, Fact.agg (Con.nn l (q % (Nat.gcd p q)))), (34, Fact.eq (.int .i64 0)), (12, Fact.var' (Con.raw 1)), (13, Fact.var' (Con.raw 1))] [12, 13] 9 (by kernel_rfl) (by kernel_rfl) (by kernel_rfl) (Nat.le_of_ble_eq_true rfl) (by kernel_rfl) rfl rfl ?_ ?_
    · refine fcs ⟨Ob.new_ (ob_read 24 5 29 (Con.nn l q) rfl rfl (.inl rfl) (by kernel_rfl) points_cell rfl row24 info24) (by kernel_rfl), ?_⟩
      refine fcs ⟨Ob.new_ (ob_read 24 8 30 (Con.nn l (Nat.gcd p q)) rfl rfl (.inl rfl) (by kernel_rfl) points_cell rfl row24 info24) (by kernel_rfl), ?_⟩
      refine fcs ⟨Ob.new_ (ob_call2 63 29 30 31 _ rfl rfl (.inl rfl) (by kernel_rfl) (by kernel_rfl) (by kernel_rfl) (r_divMod l l q (Nat.gcd p q) (Nat.ne_of_gt (Rt.gcd_pos hq)) (by omega) (by omega))) (by kernel_rfl), ?_⟩
      refine fcs ⟨Ob.new_ (ob_copy 31 28 (.inl rfl) rfl (.inl rfl) (by kernel_rfl) rfl) (by kernel_rfl), ?_⟩
      refine fcs ⟨Ob.new_ (ob_3a 28 32 (Fact.agg (Con.nn l (q / (Nat.gcd p q)))) (Fact.agg (Con.nn l (q % (Nat.gcd p q)))) (Fact.eq (.int .i64 0)) rfl rfl (.inl rfl) (by kernel_rfl) rfl rfl) (by kernel_rfl), ?_⟩
      refine fcs ⟨Ob.new_ (ob_3b 28 33 (Fact.agg (Con.nn l (q / (Nat.gcd p q)))) (Fact.agg (Con.nn l (q % (Nat.gcd p q)))) (Fact.eq (.int .i64 0)) rfl rfl (.inl rfl) (by kernel_rfl) rfl rfl) (by kernel_rfl), ?_⟩
      refine fcs ⟨Ob.new_ (ob_3c 28 34 (Fact.agg (Con.nn l (q / (Nat.gcd p q)))) (Fact.agg (Con.nn l (q % (Nat.gcd p q)))) (Fact.eq (.int .i64 0)) rfl rfl (.inl rfl) (by kernel_rfl) rfl rfl) (by kernel_rfl), ?_⟩
      refine fcs ⟨obn_new 24 12 _ [.slice none 0 0] rfl rfl rfl rfl rfl alloc24, ?_⟩
      refine fcs ⟨obn_new 24 13 _ [.slice none 0 0] rfl rfl rfl rfl rfl alloc24, ?_⟩
      exact fnl
    intro a9 w9 st9 hbr9 hfr
    have hs9 := hbr9.size
    have hb := up hb hbr9
    obtain ⟨b12, c12⟩ := (show (Fact.var' (Con.raw 1)).holds _ _ from st9.at_ 12)
    have g12 := hfr.ge (s := 12) rfl c12.1
    obtain ⟨b13, c13⟩ := (show (Fact.var' (Con.raw 1)).holds _ _ from st9.at_ 13)
    have g13 := hfr.ge (s := 13) rfl c13.1
    have ne12_13 := hfr.apart (s := 12) (t := 13) rfl rfl (by decide) c12.1 c13.1
    have st : St 44 [(0, Fact.eq (.bool true)), (4, Fact.cell b4 (Con.nn k p)), (6, Fact.cell b6 (Con.raw 3)), (7, Fact.eq (.int .i64 0)), (9, Fact.cell b9 (Con.nn k (p / (Nat.gcd p q)))), (32, Fact.agg (Con.nn l (q / (Nat.gcd p q)))), (33, Fact.agg (Con.nn l (q % (Nat.gcd p q)))), (34, Fact.eq (.int .i64 0)), (12, Fact.cell b12 (Con.raw 1)), (13, Fact.cell b13 (Con.raw 1))] a9 w9 := st9.to (fcs ⟨st9.at_ 0, fcs ⟨st9.at_ 4, fcs ⟨st9.at_ 6, fcs ⟨st9.at_ 7, fcs ⟨st9.at_ 9, fcs ⟨st9.at_ 32, fcs ⟨st9.at_ 33, fcs ⟨st9.at_ 34, fcs ⟨c12, fcs ⟨c13, fnl⟩⟩⟩⟩⟩⟩⟩⟩⟩⟩)
    clear st9 hbr9 hfr c12 c13
    refine sym_store st 24 12 32 b12 (Con.raw 1) (Con.nn l (q / (Nat.gcd p q))) [(0, Fact.eq (.bool true)), (4, Fact.cell b4 (Con.nn k p)), (6, Fact.cell b6 (Con.raw 3)), (7, Fact.eq (.int .i64 0)), (9, Fact.cell b9 (Con.nn k (p / (Nat.gcd p q)))), (33, Fact.agg (Con.nn l (q % (Nat.gcd p q)))), (34, Fact.eq (.int .i64 0)), (12, Fact.cell b12 (Con.nn l (q / (Nat.gcd p q)))), (13, Fact.cell b13 (Con.raw 1))] rfl rfl rfl rfl rfl rfl info24 ?_ ?_
    · exact fcs ⟨.inr ⟨rfl, safe_eq _ _⟩, fcs ⟨.inr ⟨rfl, safe_cell _ (by omega)⟩, fcs ⟨.inr ⟨rfl, safe_cell _ (by omega)⟩, fcs ⟨.inr ⟨rfl, safe_eq _ _⟩, fcs ⟨.inr ⟨rfl, safe_cell _ (by omega)⟩, fcs ⟨.inr ⟨rfl, safe_agg _ _⟩, fcs ⟨.inr ⟨rfl, safe_eq _ _⟩, fcs ⟨.inl rfl, fcs ⟨.inr ⟨rfl, safe_cell _ (by omega)⟩, fnl⟩⟩⟩⟩⟩⟩⟩⟩⟩
    clear st; intro w10 hB hsz10 st
    have hb := hB _ _ hb (by omega) (by omega)
    clear hB
    refine sym_store st 24 13 33 b13 (Con.raw 1) (Con.nn l (q % (Nat.gcd p q))) [(0, Fact.eq (.bool true)), (4, Fact.cell b4 (Con.nn k p)), (6, Fact.cell b6 (Con.raw 3)), (7, Fact.eq (.int .i64 0)), (9, Fact.cell b9 (Con.nn k (p / (Nat.gcd p q)))), (34, Fact.eq (.int .i64 0)), (12, Fact.cell b12 (Con.nn l (q / (Nat.gcd p q)))), (13, Fact.cell b13 (Con.nn l (q % (Nat.gcd p q))))] rfl rfl rfl rfl rfl rfl info24 ?_ ?_
    · exact fcs ⟨.inr ⟨rfl, safe_eq _ _⟩, fcs ⟨.inr ⟨rfl, safe_cell _ (by omega)⟩, fcs ⟨.inr ⟨rfl, safe_cell _ (by omega)⟩, fcs ⟨.inr ⟨rfl, safe_eq _ _⟩, fcs ⟨.inr ⟨rfl, safe_cell _ (by omega)⟩, fcs ⟨.inr ⟨rfl, safe_eq _ _⟩, fcs ⟨.inr ⟨rfl, safe_cell _ (by omega)⟩, fcs ⟨.inl rfl, fnl⟩⟩⟩⟩⟩⟩⟩⟩
    clear st; intro w11 hB hsz11 st
    have hb := hB _ _ hb (by omega) (by omega)
    clear hB
    refine sym_op st 14 (Fact.eq (.int .i64 0)) rfl (Nat.le_of_ble_eq_true rfl) rfl rfl (by kernel_rfl) (ob_copy 34 14 (.inr rfl) rfl (.inl rfl) (by kernel_rfl) rfl) ?_
    clear st; intro a12 w12 hbr st; have hs12 := hbr.size; have hb := up hb hbr; clear hbr
    refine wpList_nil ?_
    refine then_normal ?_
    refine wp_seq ?_
    have st := st.to (ks' := [(0, Fact.eq (.bool true)), (4, Fact.cell b4 (Con.nn k p)), (6, Fact.cell b6 (Con.raw 3)), (9, Fact.cell b9 (Con.nn k (p / (Nat.gcd p q)))), (12, Fact.cell b12 (Con.nn l (q / (Nat.gcd p q))))]) (fcs ⟨st.at_ 0, fcs ⟨st.at_ 4, fcs ⟨st.at_ 6, fcs ⟨st.at_ 9, fcs ⟨st.at_ 12, fnl⟩⟩⟩⟩⟩)
    refine sym_region st [(35, Fact.eq (.bool true)), (36, Fact.eq (.bool true)), (37, Fact.agg (Con.nn k p)), (38, Fact.eq (.bool (decide (p = 0)))), (39, Fact.eq (.bool (!(decide (p = 0))))), (40, Fact.eq (.bool (!(decide (p = 0))))), (41, Fact.agg (Con.nn k (p / (Nat.gcd p q)))), (42, Fact.agg (Con.nn l (q / (Nat.gcd p q)))), (43, Fact.agg (Con.tri k l (!(decide (p = 0))) (p / (Nat.gcd p q)) (q / (Nat.gcd p q))))] [] 9 (by kernel_rfl) (by kernel_rfl) (by kernel_rfl) (Nat.le_of_ble_eq_true rfl) (by kernel_rfl) rfl rfl ?_ ?_
    · refine fcs ⟨Ob.new_ (ob_copy 0 35 (.inl rfl) rfl (.inl rfl) (by kernel_rfl) rfl) (by kernel_rfl), ?_⟩
      refine fcs ⟨Ob.new_ (ob_copy 35 36 (.inl rfl) rfl (.inl rfl) (by kernel_rfl) rfl) (by kernel_rfl), ?_⟩
      refine fcs ⟨Ob.new_ (ob_read 24 4 37 (Con.nn k p) rfl rfl (.inr ⟨_, _, _, rfl, rfl, by kernel_rfl, by decide, rfl⟩) (by kernel_rfl) points_cell rfl row24 info24) (by kernel_rfl), ?_⟩
      refine fcs ⟨Ob.new_ (ob_call1 44 37 38 _ rfl rfl (.inr ⟨_, _, _, rfl, rfl, by kernel_rfl, by decide, rfl⟩) (by kernel_rfl) (by kernel_rfl) (z_zero k p (decide (p = 0)) rfl)) (by kernel_rfl), ?_⟩
      refine fcs ⟨Ob.new_ (ob_not 38 39 (decide (p = 0)) (!(decide (p = 0))) rfl rfl rfl (.inr ⟨_, _, _, rfl, rfl, by kernel_rfl, by decide, rfl⟩) (by kernel_rfl) rfl rfl) (by kernel_rfl), ?_⟩
      refine fcs ⟨Ob.new_ (ob_pick 36 39 40 _ rfl rfl (.inl rfl) (by kernel_rfl) (by kernel_rfl) rfl rfl) (by kernel_rfl), ?_⟩
      refine fcs ⟨Ob.new_ (ob_read 24 9 41 (Con.nn k (p / (Nat.gcd p q))) rfl rfl (.inl rfl) (by kernel_rfl) points_cell rfl row24 info24) (by kernel_rfl), ?_⟩
      refine fcs ⟨Ob.new_ (ob_read 24 12 42 (Con.nn l (q / (Nat.gcd p q))) rfl rfl (.inl rfl) (by kernel_rfl) points_cell rfl row24 info24) (by kernel_rfl), ?_⟩
      refine fcs ⟨Ob.new_ (ob_buildtri 40 41 42 43 k l (p / (Nat.gcd p q)) (q / (Nat.gcd p q)) (!(decide (p = 0))) rfl rfl (.inl rfl) (by kernel_rfl) (by kernel_rfl) (by kernel_rfl) rfl rfl rfl rfl) (by kernel_rfl), ?_⟩
      exact fnl
    intro a13 w13 st13 hbr13 hfr
    have hs13 := hbr13.size
    have hb := up hb hbr13
    have st : St 44 [(6, Fact.cell b6 (Con.raw 3)), (43, Fact.agg (Con.tri k l (!(decide (p = 0))) (p / (Nat.gcd p q)) (q / (Nat.gcd p q))))] a13 w13 := st13.to (fcs ⟨st13.at_ 6, fcs ⟨st13.at_ 43, fnl⟩⟩)
    clear st13 hbr13 hfr
    refine sym_store st 26 6 43 b6 (Con.raw 3) (Con.tri k l (!(decide (p = 0))) (p / (Nat.gcd p q)) (q / (Nat.gcd p q))) [(6, Fact.cell b6 (Con.tri k l (!(decide (p = 0))) (p / (Nat.gcd p q)) (q / (Nat.gcd p q))))] rfl rfl rfl rfl rfl rfl info26 ?_ ?_
    · exact fcs ⟨.inl rfl, fnl⟩
    clear st; intro w14 hB hsz14 st
    have hb := hB _ _ hb (by omega) (by omega)
    clear hB
    refine sym_op st 7 (Fact.eq (.int .i64 0)) rfl (Nat.le_of_ble_eq_true rfl) rfl rfl (by kernel_rfl) (ob_const (.int .i64 0) 7 (.inr rfl) rfl (.inl rfl) rfl) ?_
    clear st; intro a15 w15 hbr st; have hs15 := hbr.size; have hb := up hb hbr; clear hbr
    refine wpList_nil ?_
    refine then_normal ?_
    refine wp_ret ?_
    exact sym_ret2 rfl st.defers (resAt_cell st 6 b6 26 (Con.tri k l (!(decide (p = 0))) (p / (Nat.gcd p q)) (q / (Nat.gcd p q))) rfl row26 info26) (resAt_tmp st 7) hb (fun v u h1 h2 => ⟨v, u, rfl, Fact.tri_fr h1 hq (by simp) rfl rfl rfl hkr hlr, h2⟩)
set_option maxRecDepth 100000 in
theorem z_make0 (k l : Nat) (s : Bool) (p q : Nat) (hq : q = 0) : ∀ v0 v1 v2 w, (Fact.eq (.bool s)).holds v0 w → (Fact.agg (Con.nn k p)).holds v1 w → (Fact.agg (Con.nn l q)).holds v2 w → Calls Tryz.prog 53 #[v0, v1, v2] w (Ret (Fact.two (Fact.agg (Con.tri 1 1 false 0 0)) (Fact.eq (.int .i64 8))) w) := by
  intro v0 v1 v2 w hv0 hv1 hv2
  refine sym_calls 44 [(0, Fact.eq (.bool s)), (1, Fact.agg (Con.nn k p)), (2, Fact.agg (Con.nn l q))] Tryz.func53 rfl rfl (Nat.le_of_ble_eq_true rfl) (fcs ⟨⟨Nat.le_of_ble_eq_true rfl, hv0⟩, fcs ⟨⟨Nat.le_of_ble_eq_true rfl, hv1⟩, fcs ⟨⟨Nat.le_of_ble_eq_true rfl, hv2⟩, fnl⟩⟩⟩) fun a st => ?_
  have hb := Below.refl w.heap.size w
  refine wp_seq ?_
  refine sym_region st [(4, Fact.var' (Con.nn k p)), (5, Fact.var' (Con.nn l q)), (6, Fact.var' (Con.raw 3)), (7, Fact.eq (.int .i64 0))] [4, 5, 6] 4 (by kernel_rfl) (by kernel_rfl) (by kernel_rfl) (Nat.le_of_ble_eq_true rfl) (by kernel_rfl) rfl rfl ?_ ?_
  · refine fcs ⟨obn_box 24 1 4 _ (Con.nn k p) rfl rfl rfl (by kernel_rfl) rfl rfl, ?_⟩
    refine fcs ⟨obn_box 24 2 5 _ (Con.nn l q) rfl rfl rfl (by kernel_rfl) rfl rfl, ?_⟩
    refine fcs ⟨obn_new 26 6 _ [.bool false, .slice none 0 0, .slice none 0 0] rfl rfl rfl rfl rfl alloc26, ?_⟩
    refine fcs ⟨Ob.new_ (ob_const (.int .i64 0) 7 (.inr rfl) rfl (.inl rfl) rfl) (by kernel_rfl), ?_⟩
    exact fnl
  intro a1 w1 st1 hbr1 hfr
  have hs1 := hbr1.size
  have hb := up hb hbr1
  obtain ⟨b4, c4⟩ := (show (Fact.var' (Con.nn k p)).holds _ _ from st1.at_ 4)
  have g4 := hfr.ge (s := 4) rfl c4.1
  obtain ⟨b5, c5⟩ := (show (Fact.var' (Con.nn l q)).holds _ _ from st1.at_ 5)
  have g5 := hfr.ge (s := 5) rfl c5.1
  obtain ⟨b6, c6⟩ := (show (Fact.var' (Con.raw 3)).holds _ _ from st1.at_ 6)
  have g6 := hfr.ge (s := 6) rfl c6.1
  have ne4_5 := hfr.apart (s := 4) (t := 5) rfl rfl (by decide) c4.1 c5.1
  have ne4_6 := hfr.apart (s := 4) (t := 6) rfl rfl (by decide) c4.1 c6.1
  have ne5_6 := hfr.apart (s := 5) (t := 6) rfl rfl (by decide) c5.1 c6.1
  have st : St 44 [(0, Fact.eq (.bool s)), (4, Fact.cell b4 (Con.nn k p)), (5, Fact.cell b5 (Con.nn l q)), (6, Fact.cell b6 (Con.raw 3)), (7, Fact.eq (.int .i64 0))] a1 w1 := st1.to (fcs ⟨st1.at_ 0, fcs ⟨c4, fcs ⟨c5, fcs ⟨c6, fcs ⟨st1.at_ 7, fnl⟩⟩⟩⟩⟩)
  clear st1 hbr1 hfr c4 c5 c6
  refine wpList_nil ?_
  refine then_normal ?_
  refine wp_seq ?_
  refine wp_seq ?_
  refine sym_region st [(15, Fact.agg (Con.nn l q)), (16, Fact.eq (.bool true))] [] 2 (by kernel_rfl) (by kernel_rfl) (by kernel_rfl) (Nat.le_of_ble_eq_true rfl) (by kernel_rfl) rfl rfl ?_ ?_
  · refine fcs ⟨Ob.new_ (ob_read 24 5 15 (Con.nn l q) rfl rfl (.inl rfl) (by kernel_rfl) points_cell rfl row24 info24) (by kernel_rfl), ?_⟩
    refine fcs ⟨Ob.new_ (ob_call1 44 15 16 _ rfl rfl (.inl rfl) (by kernel_rfl) (by kernel_rfl) (z_zero l q true (decide_eq_true hq))) (by kernel_rfl), ?_⟩
    exact fnl
  intro a2 w2 st2 hbr2 hfr
  have hs2 := hbr2.size
  have hb := up hb hbr2
  have st : St 44 [(0, Fact.eq (.bool s)), (4, Fact.cell b4 (Con.nn k p)), (5, Fact.cell b5 (Con.nn l q)), (6, Fact.cell b6 (Con.raw 3)), (7, Fact.eq (.int .i64 0)), (16, Fact.eq (.bool true))] a2 w2 := st2.to (fcs ⟨st2.at_ 0, fcs ⟨st2.at_ 4, fcs ⟨st2.at_ 5, fcs ⟨st2.at_ 6, fcs ⟨st2.at_ 7, fcs ⟨st2.at_ 16, fnl⟩⟩⟩⟩⟩⟩)
  clear st2 hbr2 hfr
  refine wpList_nil ?_
  refine then_normal ?_
  refine wp_cond_true (st.at_ 16) ?_
  refine wp_seq ?_
  have st := st.to (ks' := [(0, Fact.eq (.bool s)), (4, Fact.cell b4 (Con.nn k p)), (5, Fact.cell b5 (Con.nn l q)), (6, Fact.cell b6 (Con.raw 3)), (16, Fact.eq (.bool true))]) (fcs ⟨st.at_ 0, fcs ⟨st.at_ 4, fcs ⟨st.at_ 5, fcs ⟨st.at_ 6, fcs ⟨st.at_ 16, fnl⟩⟩⟩⟩⟩)
  refine sym_region st [(17, Fact.agg (Con.tri 1 1 false 0 0))] [] 1 (by kernel_rfl) (by kernel_rfl) (by kernel_rfl) (Nat.le_of_ble_eq_true rfl) (by kernel_rfl) rfl rfl ?_ ?_
  · refine fcs ⟨Ob.new_ (ob_buildzero 17 rfl rfl (.inl rfl) rfl) (by kernel_rfl), ?_⟩
    exact fnl
  intro a3 w3 st3 hbr3 hfr
  have hs3 := hbr3.size
  have hb := up hb hbr3
  have st : St 44 [(0, Fact.eq (.bool s)), (4, Fact.cell b4 (Con.nn k p)), (5, Fact.cell b5 (Con.nn l q)), (6, Fact.cell b6 (Con.raw 3)), (17, Fact.agg (Con.tri 1 1 false 0 0))] a3 w3 := st3.to (fcs ⟨st3.at_ 0, fcs ⟨st3.at_ 4, fcs ⟨st3.at_ 5, fcs ⟨st3.at_ 6, fcs ⟨st3.at_ 17, fnl⟩⟩⟩⟩⟩)
  clear st3 hbr3 hfr
  refine sym_store st 26 6 17 b6 (Con.raw 3) (Con.tri 1 1 false 0 0) [(0, Fact.eq (.bool s)), (4, Fact.cell b4 (Con.nn k p)), (5, Fact.cell b5 (Con.nn l q)), (6, Fact.cell b6 (Con.tri 1 1 false 0 0))] rfl rfl rfl rfl rfl rfl info26 ?_ ?_
  · exact fcs ⟨.inr ⟨rfl, safe_eq _ _⟩, fcs ⟨.inr ⟨rfl, safe_cell _ (by omega)⟩, fcs ⟨.inr ⟨rfl, safe_cell _ (by omega)⟩, fcs ⟨.inl rfl, fnl⟩⟩⟩⟩
  clear st; intro w4 hB hsz4 st
  have hb := hB _ _ hb (by omega) (by omega)
  clear hB
  refine sym_op st 7 (Fact.eq (.int .i64 8)) rfl (Nat.le_of_ble_eq_true rfl) rfl rfl (by kernel_rfl) (ob_const (.int .i64 8) 7 (.inr rfl) rfl (.inl rfl) rfl) ?_
  clear st; intro a5 w5 hbr st; have hs5 := hbr.size; have hb := up hb hbr; clear hbr
  refine wpList_nil ?_
  refine then_normal ?_
  refine wp_ret ?_
  exact sym_ret2 rfl st.defers (resAt_cell st 6 b6 26 (Con.tri 1 1 false 0 0) rfl row26 info26) (resAt_tmp st 7) hb (fun v u h1 h2 => ⟨v, u, rfl, h1, h2⟩)
set_option maxRecDepth 100000 in
theorem z_neg (k : Nat) (x : Rat) : ∀ v0 w, (Fact.agg (Con.fr k x)).holds v0 w → Calls Tryz.prog 24 #[v0] w (Ret (Fact.fr k (-x)) w) := by
  intro v0 w hv0
  cases hng : Rt.ng x with
  | false =>
    refine sym_calls 17 [(0, Fact.agg (Con.fr k x))] Tryz.func24 rfl rfl (Nat.le_of_ble_eq_true rfl) (fcs ⟨⟨Nat.le_of_ble_eq_true rfl, hv0⟩, fnl⟩) fun a st => ?_
    have hb := Below.refl w.heap.size w
    refine wp_seq ?_
    refine sym_region st [(1, Fact.var' (Con.fr k x)), (2, Fact.var' (Con.raw 3))] [1, 2] 2 (by kernel_rfl) (by kernel_rfl) (by kernel_rfl) (Nat.le_of_ble_eq_true rfl) (by kernel_rfl) rfl rfl ?_ ?_
    · refine fcs ⟨obn_box 26 0 1 _ (Con.fr k x) rfl rfl rfl (by kernel_rfl) rfl rfl, ?_⟩
      refine fcs ⟨obn_new 26 2 _ [.bool false, .slice none 0 0, .slice none 0 0] rfl rfl rfl rfl rfl alloc26, ?_⟩
      exact fnl
    intro a1 w1 st1 hbr1 hfr
    have hs1 := hbr1.size
    have hb := up hb hbr1
    obtain ⟨b1, c1⟩ := (show (Fact.var' (Con.fr k x)).holds _ _ from st1.at_ 1)
    have g1 := hfr.ge (s := 1) rfl c1.1
    obtain ⟨b2, c2⟩ := (show (Fact.var' (Con.raw 3)).holds _ _ from st1.at_ 2)
    have g2 := hfr.ge (s := 2) rfl c2.1
    have ne1_2 := hfr.apart (s := 1) (t := 2) rfl rfl (by decide) c1.1 c2.1
    have st : St 17 [(1, Fact.cell b1 (Con.fr k x)), (2, Fact.cell b2 (Con.raw 3))] a1 w1 := st1.to (fcs ⟨c1, fcs ⟨c2, fnl⟩⟩)
    clear st1 hbr1 hfr c1 c2
    refine wpList_nil ?_
    refine then_normal ?_
    refine wp_seq ?_
    refine sym_region st [(3, Fact.ptr (Con.bool (Rt.ng x))), (4, Fact.eq (.bool false)), (5, Fact.eq (.bool true)), (6, Fact.eq (.bool true)), (7, Fact.ptr (Con.nn k (Rt.tp x))), (8, Fact.agg (Con.nn k (Rt.tp x))), (9, Fact.eq (.bool (decide (Rt.tp x = 0)))), (10, Fact.eq (.bool (!(decide (Rt.tp x = 0))))), (11, Fact.eq (.bool (!(decide (Rt.tp x = 0))))), (12, Fact.ptr (Con.nn k (Rt.tp x))), (13, Fact.agg (Con.nn k (Rt.tp x))), (14, Fact.ptr (Con.nn k (Rat.den x))), (15, Fact.agg (Con.nn k (Rat.den x))), (16, Fact.agg (Con.tri k k (!(decide (Rt.tp x = 0))) (Rt.tp x) (Rat.den x)))] [] 14 (by kernel_rfl) (by kernel_rfl) (by kernel_rfl) (Nat.le_of_ble_eq_true rfl) (by kernel_rfl) rfl rfl ?_ ?_
    · refine fcs ⟨Ob.new_ (ob_addr 26 0 1 3 0 (Con.fr k x) (Con.bool (Rt.ng x)) rfl rfl (.inl rfl) (by kernel_rfl) points_cell rfl (Con.fr_ng k x) field26_0) (by kernel_rfl), ?_⟩
      refine fcs ⟨Ob.new_ (ob_readb 3 4 (Rt.ng x) false hng rfl rfl (.inl rfl) (by kernel_rfl) points_ptr rfl) (by kernel_rfl), ?_⟩
      refine fcs ⟨Ob.new_ (ob_not 4 5 false true rfl rfl rfl (.inl rfl) (by kernel_rfl) rfl rfl) (by kernel_rfl), ?_⟩
      refine fcs ⟨Ob.new_ (ob_copy 5 6 (.inl rfl) rfl (.inl rfl) (by kernel_rfl) rfl) (by kernel_rfl), ?_⟩
      refine fcs ⟨Ob.new_ (ob_addr 26 1 1 7 1 (Con.fr k x) (Con.nn k (Rt.tp x)) rfl rfl (.inr ⟨_, _, _, rfl, rfl, by kernel_rfl, by decide, rfl⟩) (by kernel_rfl) points_cell rfl (Con.fr_tp k x) field26_1) (by kernel_rfl), ?_⟩
      refine fcs ⟨Ob.new_ (ob_read 24 7 8 (Con.nn k (Rt.tp x)) rfl rfl (.inr ⟨_, _, _, rfl, rfl, by kernel_rfl, by decide, rfl⟩) (by kernel_rfl) points_ptr rfl row24 info24) (by kernel_rfl), ?_⟩
      refine fcs ⟨Ob.new_ (ob_call1 44 8 9 _ rfl rfl (.inr ⟨_, _, _, rfl, rfl, by kernel_rfl, by decide, rfl⟩) (by kernel_rfl) (by kernel_rfl) (z_zero k (Rt.tp x) (decide (Rt.tp x = 0)) rfl)) (by kernel_rfl), ?_⟩
      refine fcs ⟨Ob.new_ (ob_not 9 10 (decide (Rt.tp x = 0)) (!(decide (Rt.tp x = 0))) rfl rfl rfl (.inr ⟨_, _, _, rfl, rfl, by kernel_rfl, by decide, rfl⟩) (by kernel_rfl) rfl rfl) (by kernel_rfl), ?_⟩
      refine fcs ⟨Ob.new_ (ob_pick 6 10 11 _ rfl rfl (.inl rfl) (by kernel_rfl) (by kernel_rfl) rfl rfl) (by kernel_rfl), ?_⟩
      refine fcs ⟨Ob.new_ (ob_addr 26 1 1 12 1 (Con.fr k x) (Con.nn k (Rt.tp x)) rfl rfl (.inl rfl) (by kernel_rfl) points_cell rfl (Con.fr_tp k x) field26_1) (by kernel_rfl), ?_⟩
      refine fcs ⟨Ob.new_ (ob_read 24 12 13 (Con.nn k (Rt.tp x)) rfl rfl (.inl rfl) (by kernel_rfl) points_ptr rfl row24 info24) (by kernel_rfl), ?_⟩
      refine fcs ⟨Ob.new_ (ob_addr 26 2 1 14 2 (Con.fr k x) (Con.nn k (Rat.den x)) rfl rfl (.inl rfl) (by kernel_rfl) points_cell rfl (Con.fr_den k x) field26_2) (by kernel_rfl), ?_⟩
      refine fcs ⟨Ob.new_ (ob_read 24 14 15 (Con.nn k (Rat.den x)) rfl rfl (.inl rfl) (by kernel_rfl) points_ptr rfl row24 info24) (by kernel_rfl), ?_⟩
      refine fcs ⟨Ob.new_ (ob_buildtri 11 13 15 16 k k (Rt.tp x) (Rat.den x) (!(decide (Rt.tp x = 0))) rfl rfl (.inl rfl) (by kernel_rfl) (by kernel_rfl) (by kernel_rfl) rfl rfl rfl rfl) (by kernel_rfl), ?_⟩
      exact fnl
    intro a2 w2 st2 hbr2 hfr
    have hs2 := hbr2.size
    have hb := up hb hbr2
    have st : St 17 [(2, Fact.cell b2 (Con.raw 3)), (16, Fact.agg (Con.tri k k (!(decide (Rt.tp x = 0))) (Rt.tp x) (Rat.den x)))] a2 w2 := st2.to (fcs ⟨st2.at_ 2, fcs ⟨st2.at_ 16, fnl⟩⟩)
    clear st2 hbr2 hfr
    refine sym_store st 26 2 16 b2 (Con.raw 3) (Con.tri k k (!(decide (Rt.tp x = 0))) (Rt.tp x) (Rat.den x)) [(2, Fact.cell b2 (Con.tri k k (!(decide (Rt.tp x = 0))) (Rt.tp x) (Rat.den x)))] rfl rfl rfl rfl rfl rfl info26 ?_ ?_
    · exact fcs ⟨.inl rfl, fnl⟩
    clear st; intro w3 hB hsz3 st
    have hb := hB _ _ hb (by omega) (by omega)
    clear hB
    refine wpList_nil ?_
    refine then_normal ?_
    refine wp_ret ?_
    exact sym_ret1 rfl st.defers (resAt_cell st 2 b2 26 (Con.tri k k (!(decide (Rt.tp x = 0))) (Rt.tp x) (Rat.den x)) rfl row26 info26) hb (fun _ h => Fact.tri_eq (x := -x) h ((by rw [Rt.neg_ng, hng]; rfl)) (Rt.neg_tp x).symm rfl)
  | true =>
    refine sym_calls 17 [(0, Fact.agg (Con.fr k x))] Tryz.func24 rfl rfl (Nat.le_of_ble_eq_true rfl) (fcs ⟨⟨Nat.le_of_ble_eq_true rfl, hv0⟩, fnl⟩) fun a st => ?_
    have hb := Below.refl w.heap.size w
    refine wp_seq ?_
    refine sym_region st [(1, Fact.var' (Con.fr k x)), (2, Fact.var' (Con.raw 3))] [1, 2] 2 (by kernel_rfl) (by kernel_rfl) (by kernel_rfl) (Nat.le_of_ble_eq_true rfl) (by kernel_rfl) rfl rfl ?_ ?_
    · refine fcs ⟨obn_box 26 0 1 _ (Con.fr k x) rfl rfl rfl (by kernel_rfl) rfl rfl, ?_⟩
      refine fcs ⟨obn_new 26 2 _ [.bool false, .slice none 0 0, .slice none 0 0] rfl rfl rfl rfl rfl alloc26, ?_⟩
      exact fnl
    intro a1 w1 st1 hbr1 hfr
    have hs1 := hbr1.size
    have hb := up hb hbr1
    obtain ⟨b1, c1⟩ := (show (Fact.var' (Con.fr k x)).holds _ _ from st1.at_ 1)
    have g1 := hfr.ge (s := 1) rfl c1.1
    obtain ⟨b2, c2⟩ := (show (Fact.var' (Con.raw 3)).holds _ _ from st1.at_ 2)
    have g2 := hfr.ge (s := 2) rfl c2.1
    have ne1_2 := hfr.apart (s := 1) (t := 2) rfl rfl (by decide) c1.1 c2.1
    have st : St 17 [(1, Fact.cell b1 (Con.fr k x)), (2, Fact.cell b2 (Con.raw 3))] a1 w1 := st1.to (fcs ⟨c1, fcs ⟨c2, fnl⟩⟩)
    clear st1 hbr1 hfr c1 c2
    refine wpList_nil ?_
    refine then_normal ?_
    refine wp_seq ?_
    refine sym_region st [(3, Fact.ptr (Con.bool (Rt.ng x))), (4, Fact.eq (.bool true)), (5, Fact.eq (.bool false)), (6, Fact.eq (.bool false)), (7, Fact.eq undef), (8, Fact.eq undef), (9, Fact.eq undef), (10, Fact.eq undef), (11, Fact.eq (.bool false)), (12, Fact.ptr (Con.nn k (Rt.tp x))), (13, Fact.agg (Con.nn k (Rt.tp x))), (14, Fact.ptr (Con.nn k (Rat.den x))), (15, Fact.agg (Con.nn k (Rat.den x))), (16, Fact.agg (Con.tri k k false (Rt.tp x) (Rat.den x)))] [] 14 (by kernel_rfl) (by kernel_rfl) (by kernel_rfl) (Nat.le_of_ble_eq_true rfl) (by kernel_rfl) rfl rfl ?_ ?_
    · refine fcs ⟨Ob.new_ (ob_addr 26 0 1 3 0 (Con.fr k x) (Con.bool (Rt.ng x)) rfl rfl (.inl rfl) (by kernel_rfl) points_cell rfl (Con.fr_ng k x) field26_0) (by kernel_rfl), ?_⟩
      refine fcs ⟨Ob.new_ (ob_readb 3 4 (Rt.ng x) true hng rfl rfl (.inl rfl) (by kernel_rfl) points_ptr rfl) (by kernel_rfl), ?_⟩
      refine fcs ⟨Ob.new_ (ob_not 4 5 true false rfl rfl rfl (.inl rfl) (by kernel_rfl) rfl rfl) (by kernel_rfl), ?_⟩
      refine fcs ⟨Ob.new_ (ob_copy 5 6 (.inl rfl) rfl (.inl rfl) (by kernel_rfl) rfl) (by kernel_rfl), ?_⟩
      refine fcs ⟨Ob.new_ (ob_skip 3 6 7 true rfl rfl (by kernel_rfl) (by decide) rfl rfl rfl) (by kernel_rfl), ?_⟩
      refine fcs ⟨Ob.new_ (ob_skip 3 6 8 true rfl rfl (by kernel_rfl) (by decide) rfl rfl rfl) (by kernel_rfl), ?_⟩
      refine fcs ⟨Ob.new_ (ob_skip 3 6 9 true rfl rfl (by kernel_rfl) (by decide) rfl rfl rfl) (by kernel_rfl), ?_⟩
      refine fcs ⟨Ob.new_ (ob_skip 3 6 10 true rfl rfl (by kernel_rfl) (by decide) rfl rfl rfl) (by kernel_rfl), ?_⟩
      refine fcs ⟨Ob.new_ (ob_pick_no 6 10 11 (.bool false) rfl rfl (.inl rfl) (by kernel_rfl) rfl rfl) (by kernel_rfl), ?_⟩
      refine fcs ⟨Ob.new_ (ob_addr 26 1 1 12 1 (Con.fr k x) (Con.nn k (Rt.tp x)) rfl rfl (.inl rfl) (by kernel_rfl) points_cell rfl (Con.fr_tp k x) field26_1) (by kernel_rfl), ?_⟩
      refine fcs ⟨Ob.new_ (ob_read 24 12 13 (Con.nn k (Rt.tp x)) rfl rfl (.inl rfl) (by kernel_rfl) points_ptr rfl row24 info24) (by kernel_rfl), ?_⟩
      refine fcs ⟨Ob.new_ (ob_addr 26 2 1 14 2 (Con.fr k x) (Con.nn k (Rat.den x)) rfl rfl (.inl rfl) (by kernel_rfl) points_cell rfl (Con.fr_den k x) field26_2) (by kernel_rfl), ?_⟩
      refine fcs ⟨Ob.new_ (ob_read 24 14 15 (Con.nn k (Rat.den x)) rfl rfl (.inl rfl) (by kernel_rfl) points_ptr rfl row24 info24) (by kernel_rfl), ?_⟩
      refine fcs ⟨Ob.new_ (ob_buildtri 11 13 15 16 k k (Rt.tp x) (Rat.den x) false rfl rfl (.inl rfl) (by kernel_rfl) (by kernel_rfl) (by kernel_rfl) rfl rfl rfl rfl) (by kernel_rfl), ?_⟩
      exact fnl
    intro a2 w2 st2 hbr2 hfr
    have hs2 := hbr2.size
    have hb := up hb hbr2
    have st : St 17 [(2, Fact.cell b2 (Con.raw 3)), (16, Fact.agg (Con.tri k k false (Rt.tp x) (Rat.den x)))] a2 w2 := st2.to (fcs ⟨st2.at_ 2, fcs ⟨st2.at_ 16, fnl⟩⟩)
    clear st2 hbr2 hfr
    refine sym_store st 26 2 16 b2 (Con.raw 3) (Con.tri k k false (Rt.tp x) (Rat.den x)) [(2, Fact.cell b2 (Con.tri k k false (Rt.tp x) (Rat.den x)))] rfl rfl rfl rfl rfl rfl info26 ?_ ?_
    · exact fcs ⟨.inl rfl, fnl⟩
    clear st; intro w3 hB hsz3 st
    have hb := hB _ _ hb (by omega) (by omega)
    clear hB
    refine wpList_nil ?_
    refine then_normal ?_
    refine wp_ret ?_
    exact sym_ret1 rfl st.defers (resAt_cell st 2 b2 26 (Con.tri k k false (Rt.tp x) (Rat.den x)) rfl row26 info26) hb (fun _ h => Fact.tri_eq (x := -x) h ((by rw [Rt.neg_ng, hng]; rfl)) (Rt.neg_tp x).symm rfl)
theorem cmp_lt {a b : Nat} (h : decide (cmpI a b < 0) = true) : a < b := by
  rw [cmpI_cn] at h
  unfold Rt.cn at h
  have := of_decide_eq_true h
  split at this
  · assumption
  · split at this <;> omega
theorem cmp_ge {a b : Nat} (h : decide (cmpI a b < 0) = false) : b ≤ a := by
  rw [cmpI_cn] at h
  unfold Rt.cn at h
  have := of_decide_eq_false h
  split at this
  · omega
  · omega
set_option maxRecDepth 100000 in
theorem z_addm (m : Nat) (x y : Rat) (hm : 2 * m + 1 ≤ 300) : ∀ v0 v1 w, (Fact.agg (Con.fr m x)).holds v0 w → (Fact.agg (Con.fr m y)).holds v1 w → Calls Tryz.prog 21 #[v0, v1] w (Ret (Fact.fr (m + m + 1) (x + y)) w) := by
  intro v0 v1 w hv0 hv1
  refine sym_calls 83 [(0, Fact.agg (Con.fr m x)), (1, Fact.agg (Con.fr m y))] Tryz.func21 rfl rfl (Nat.le_of_ble_eq_true rfl) (fcs ⟨⟨Nat.le_of_ble_eq_true rfl, hv0⟩, fcs ⟨⟨Nat.le_of_ble_eq_true rfl, hv1⟩, fnl⟩⟩) fun a st => ?_
  have hb := Below.refl w.heap.size w
  refine wp_seq ?_
  refine sym_region st [(2, Fact.var' (Con.fr m x)), (3, Fact.var' (Con.fr m y)), (4, Fact.var' (Con.raw 3))] [2, 3, 4] 3 (by kernel_rfl) (by kernel_rfl) (by kernel_rfl) (Nat.le_of_ble_eq_true rfl) (by kernel_rfl) rfl rfl ?_ ?_
  · refine fcs ⟨obn_box 26 0 2 _ (Con.fr m x) rfl rfl rfl (by kernel_rfl) rfl rfl, ?_⟩
    refine fcs ⟨obn_box 26 1 3 _ (Con.fr m y) rfl rfl rfl (by kernel_rfl) rfl rfl, ?_⟩
    refine fcs ⟨obn_new 26 4 _ [.bool false, .slice none 0 0, .slice none 0 0] rfl rfl rfl rfl rfl alloc26, ?_⟩
    exact fnl
  intro a1 w1 st1 hbr1 hfr
  have hs1 := hbr1.size
  have hb := up hb hbr1
  obtain ⟨b2, c2⟩ := (show (Fact.var' (Con.fr m x)).holds _ _ from st1.at_ 2)
  have g2 := hfr.ge (s := 2) rfl c2.1
  obtain ⟨b3, c3⟩ := (show (Fact.var' (Con.fr m y)).holds _ _ from st1.at_ 3)
  have g3 := hfr.ge (s := 3) rfl c3.1
  obtain ⟨b4, c4⟩ := (show (Fact.var' (Con.raw 3)).holds _ _ from st1.at_ 4)
  have g4 := hfr.ge (s := 4) rfl c4.1
  have ne2_3 := hfr.apart (s := 2) (t := 3) rfl rfl (by decide) c2.1 c3.1
  have ne2_4 := hfr.apart (s := 2) (t := 4) rfl rfl (by decide) c2.1 c4.1
  have ne3_4 := hfr.apart (s := 3) (t := 4) rfl rfl (by decide) c3.1 c4.1
  have st : St 83 [(2, Fact.cell b2 (Con.fr m x)), (3, Fact.cell b3 (Con.fr m y)), (4, Fact.cell b4 (Con.raw 3))] a1 w1 := st1.to (fcs ⟨c2, fcs ⟨c3, fcs ⟨c4, fnl⟩⟩⟩)
  clear st1 hbr1 hfr c2 c3 c4
  refine wpList_nil ?_
  refine then_normal ?_
  refine wp_seq ?_
  refine sym_region st [(18, Fact.ptr (Con.nn m (Rt.tp x))), (19, Fact.agg (Con.nn m (Rt.tp x))), (20, Fact.ptr (Con.nn m (Rat.den y))), (21, Fact.agg (Con.nn m (Rat.den y))), (22, Fact.agg (Con.nn (m + m) ((Rt.tp x) * (Rat.den y)))), (5, Fact.var' (Con.raw 1))] [5] 6 (by kernel_rfl) (by kernel_rfl) (by kernel_rfl) (Nat.le_of_ble_eq_true rfl) (by kernel_rfl) rfl rfl ?_ ?_
  · refine fcs ⟨Ob.new_ (ob_addr 26 1 2 18 1 (Con.fr m x) (Con.nn m (Rt.tp x)) rfl rfl (.inl rfl) (by kernel_rfl) points_cell rfl (Con.fr_tp m x) field26_1) (by kernel_rfl), ?_⟩
    refine fcs ⟨Ob.new_ (ob_read 24 18 19 (Con.nn m (Rt.tp x)) rfl rfl (.inl rfl) (by kernel_rfl) points_ptr rfl row24 info24) (by kernel_rfl), ?_⟩
    refine fcs ⟨Ob.new_ (ob_addr 26 2 3 20 2 (Con.fr m y) (Con.nn m (Rat.den y)) rfl rfl (.inl rfl) (by kernel_rfl) points_cell rfl (Con.fr_den m y) field26_2) (by kernel_rfl), ?_⟩
    refine fcs ⟨Ob.new_ (ob_read 24 20 21 (Con.nn m (Rat.den y)) rfl rfl (.inl rfl) (by kernel_rfl) points_ptr rfl row24 info24) (by kernel_rfl), ?_⟩
    refine fcs ⟨Ob.new_ (ob_call2 54 19 21 22 _ rfl rfl (.inl rfl) (by kernel_rfl) (by kernel_rfl) (by kernel_rfl) (r_mul m m (Rt.tp x) (Rat.den y) (by omega))) (by kernel_rfl), ?_⟩
    refine fcs ⟨obn_new 24 5 _ [.slice none 0 0] rfl rfl rfl rfl rfl alloc24, ?_⟩
    exact fnl
  intro a2 w2 st2 hbr2 hfr
  have hs2 := hbr2.size
  have hb := up hb hbr2
  obtain ⟨b5, c5⟩ := (show (Fact.var' (Con.raw 1)).holds _ _ from st2.at_ 5)
  have g5 := hfr.ge (s := 5) rfl c5.1
  have st : St 83 [(2, Fact.cell b2 (Con.fr m x)), (3, Fact.cell b3 (Con.fr m y)), (4, Fact.cell b4 (Con.raw 3)), (22, Fact.agg (Con.nn (m + m) ((Rt.tp x) * (Rat.den y)))), (5, Fact.cell b5 (Con.raw 1))] a2 w2 := st2.to (fcs ⟨st2.at_ 2, fcs ⟨st2.at_ 3, fcs ⟨st2.at_ 4, fcs ⟨st2.at_ 22, fcs ⟨c5, fnl⟩⟩⟩⟩⟩)
  clear st2 hbr2 hfr c5
  refine sym_store st 24 5 22 b5 (Con.raw 1) (Con.nn (m + m) ((Rt.tp x) * (Rat.den y))) [(2, Fact.cell b2 (Con.fr m x)), (3, Fact.cell b3 (Con.fr m y)), (4, Fact.cell b4 (Con.raw 3)), (5, Fact.cell b5 (Con.nn (m + m) ((Rt.tp x) * (Rat.den y))))] rfl rfl rfl rfl rfl rfl info24 ?_ ?_
  · exact fcs ⟨.inr ⟨rfl, safe_cell _ (by omega)⟩, fcs ⟨.inr ⟨rfl, safe_cell _ (by omega)⟩, fcs ⟨.inr ⟨rfl, safe_cell _ (by omega)⟩, fcs ⟨.inl rfl, fnl⟩⟩⟩⟩
  clear st; intro w3 hB hsz3 st
  have hb := hB _ _ hb (by omega) (by omega)
  clear hB
  refine wpList_nil ?_
  refine then_normal ?_
  refine wp_seq ?_
  refine sym_region st [(23, Fact.ptr (Con.nn m (Rt.tp y))), (24, Fact.agg (Con.nn m (Rt.tp y))), (25, Fact.ptr (Con.nn m (Rat.den x))), (26, Fact.agg (Con.nn m (Rat.den x))), (27, Fact.agg (Con.nn (m + m) ((Rt.tp y) * (Rat.den x)))), (6, Fact.var' (Con.raw 1))] [6] 6 (by kernel_rfl) (by kernel_rfl) (by kernel_rfl) (Nat.le_of_ble_eq_true rfl) (by kernel_rfl) rfl rfl ?_ ?_
  · refine fcs ⟨Ob.new_ (ob_addr 26 1 3 23 1 (Con.fr m y) (Con.nn m (Rt.tp y)) rfl rfl (.inl rfl) (by kernel_rfl) points_cell rfl (Con.fr_tp m y) field26_1) (by kernel_rfl), ?_⟩
    refine fcs ⟨Ob.new_ (ob_read 24 23 24 (Con.nn m (Rt.tp y)) rfl rfl (.inl rfl) (by kernel_rfl) points_ptr rfl row24 info24) (by kernel_rfl), ?_⟩
    refine fcs ⟨Ob.new_ (ob_addr 26 2 2 25 2 (Con.fr m x) (Con.nn m (Rat.den x)) rfl rfl (.inl rfl) (by kernel_rfl) points_cell rfl (Con.fr_den m x) field26_2) (by kernel_rfl), ?_⟩
    refine fcs ⟨Ob.new_ (ob_read 24 25 26 (Con.nn m (Rat.den x)) rfl rfl (.inl rfl) (by kernel_rfl) points_ptr rfl row24 info24) (by kernel_rfl), ?_⟩
    refine fcs ⟨Ob.new_ (ob_call2 54 24 26 27 _ rfl rfl (.inl rfl) (by kernel_rfl) (by kernel_rfl) (by kernel_rfl) (r_mul m m (Rt.tp y) (Rat.den x) (by omega))) (by kernel_rfl), ?_⟩
    refine fcs ⟨obn_new 24 6 _ [.slice none 0 0] rfl rfl rfl rfl rfl alloc24, ?_⟩
    exact fnl
  intro a4 w4 st4 hbr4 hfr
  have hs4 := hbr4.size
  have hb := up hb hbr4
  obtain ⟨b6, c6⟩ := (show (Fact.var' (Con.raw 1)).holds _ _ from st4.at_ 6)
  have g6 := hfr.ge (s := 6) rfl c6.1
  have st : St 83 [(2, Fact.cell b2 (Con.fr m x)), (3, Fact.cell b3 (Con.fr m y)), (4, Fact.cell b4 (Con.raw 3)), (5, Fact.cell b5 (Con.nn (m + m) ((Rt.tp x) * (Rat.den y)))), (27, Fact.agg (Con.nn (m + m) ((Rt.tp y) * (Rat.den x)))), (6, Fact.cell b6 (Con.raw 1))] a4 w4 := st4.to (fcs ⟨st4.at_ 2, fcs ⟨st4.at_ 3, fcs ⟨st4.at_ 4, fcs ⟨st4.at_ 5, fcs ⟨st4.at_ 27, fcs ⟨c6, fnl⟩⟩⟩⟩⟩⟩)
  clear st4 hbr4 hfr c6
  refine sym_store st 24 6 27 b6 (Con.raw 1) (Con.nn (m + m) ((Rt.tp y) * (Rat.den x))) [(2, Fact.cell b2 (Con.fr m x)), (3, Fact.cell b3 (Con.fr m y)), (4, Fact.cell b4 (Con.raw 3)), (5, Fact.cell b5 (Con.nn (m + m) ((Rt.tp x) * (Rat.den y)))), (6, Fact.cell b6 (Con.nn (m + m) ((Rt.tp y) * (Rat.den x))))] rfl rfl rfl rfl rfl rfl info24 ?_ ?_
  · exact fcs ⟨.inr ⟨rfl, safe_cell _ (by omega)⟩, fcs ⟨.inr ⟨rfl, safe_cell _ (by omega)⟩, fcs ⟨.inr ⟨rfl, safe_cell _ (by omega)⟩, fcs ⟨.inr ⟨rfl, safe_cell _ (by omega)⟩, fcs ⟨.inl rfl, fnl⟩⟩⟩⟩⟩
  clear st; intro w5 hB hsz5 st
  have hb := hB _ _ hb (by omega) (by omega)
  clear hB
  refine wpList_nil ?_
  refine then_normal ?_
  refine wp_seq ?_
  refine sym_region st [(28, Fact.ptr (Con.nn m (Rat.den x))), (29, Fact.agg (Con.nn m (Rat.den x))), (30, Fact.ptr (Con.nn m (Rat.den y))), (31, Fact.agg (Con.nn m (Rat.den y))), (32, Fact.agg (Con.nn (m + m) ((Rat.den x) * (Rat.den y)))), (7, Fact.var' (Con.raw 1))] [7] 6 (by kernel_rfl) (by kernel_rfl) (by kernel_rfl) (Nat.le_of_ble_eq_true rfl) (by kernel_rfl) rfl rfl ?_ ?_
  · refine fcs ⟨Ob.new_ (ob_addr 26 2 2 28 2 (Con.fr m x) (Con.nn m (Rat.den x)) rfl rfl (.inl rfl) (by kernel_rfl) points_cell rfl (Con.fr_den m x) field26_2) (by kernel_rfl), ?_⟩
    refine fcs ⟨Ob.new_ (ob_read 24 28 29 (Con.nn m (Rat.den x)) rfl rfl (.inl rfl) (by kernel_rfl) points_ptr rfl row24 info24) (by kernel_rfl), ?_⟩
    refine fcs ⟨Ob.new_ (ob_addr 26 2 3 30 2 (Con.fr m y) (Con.nn m (Rat.den y)) rfl rfl (.inl rfl) (by kernel_rfl) points_cell rfl (Con.fr_den m y) field26_2) (by kernel_rfl), ?_⟩
    refine fcs ⟨Ob.new_ (ob_read 24 30 31 (Con.nn m (Rat.den y)) rfl rfl (.inl rfl) (by kernel_rfl) points_ptr rfl row24 info24) (by kernel_rfl), ?_⟩
    refine fcs ⟨Ob.new_ (ob_call2 54 29 31 32 _ rfl rfl (.inl rfl) (by kernel_rfl) (by kernel_rfl) (by kernel_rfl) (r_mul m m (Rat.den x) (Rat.den y) (by omega))) (by kernel_rfl), ?_⟩
    refine fcs ⟨obn_new 24 7 _ [.slice none 0 0] rfl rfl rfl rfl rfl alloc24, ?_⟩
    exact fnl
  intro a6 w6 st6 hbr6 hfr
  have hs6 := hbr6.size
  have hb := up hb hbr6
  obtain ⟨b7, c7⟩ := (show (Fact.var' (Con.raw 1)).holds _ _ from st6.at_ 7)
  have g7 := hfr.ge (s := 7) rfl c7.1
  have st : St 83 [(2, Fact.cell b2 (Con.fr m x)), (3, Fact.cell b3 (Con.fr m y)), (4, Fact.cell b4 (Con.raw 3)), (5, Fact.cell b5 (Con.nn (m + m) ((Rt.tp x) * (Rat.den y)))), (6, Fact.cell b6 (Con.nn (m + m) ((Rt.tp y) * (Rat.den x)))), (32, Fact.agg (Con.nn (m + m) ((Rat.den x) * (Rat.den y)))), (7, Fact.cell b7 (Con.raw 1))] a6 w6 := st6.to (fcs ⟨st6.at_ 2, fcs ⟨st6.at_ 3, fcs ⟨st6.at_ 4, fcs ⟨st6.at_ 5, fcs ⟨st6.at_ 6, fcs ⟨st6.at_ 32, fcs ⟨c7, fnl⟩⟩⟩⟩⟩⟩⟩)
  clear st6 hbr6 hfr c7
  refine sym_store st 24 7 32 b7 (Con.raw 1) (Con.nn (m + m) ((Rat.den x) * (Rat.den y))) [(2, Fact.cell b2 (Con.fr m x)), (3, Fact.cell b3 (Con.fr m y)), (4, Fact.cell b4 (Con.raw 3)), (5, Fact.cell b5 (Con.nn (m + m) ((Rt.tp x) * (Rat.den y)))), (6, Fact.cell b6 (Con.nn (m + m) ((Rt.tp y) * (Rat.den x)))), (7, Fact.cell b7 (Con.nn (m + m) ((Rat.den x) * (Rat.den y))))] rfl rfl rfl rfl rfl rfl info24 ?_ ?_
  · exact fcs ⟨.inr ⟨rfl, safe_cell _ (by omega)⟩, fcs ⟨.inr ⟨rfl, safe_cell _ (by omega)⟩, fcs ⟨.inr ⟨rfl, safe_cell _ (by omega)⟩, fcs ⟨.inr ⟨rfl, safe_cell _ (by omega)⟩, fcs ⟨.inr ⟨rfl, safe_cell _ (by omega)⟩, fcs ⟨.inl rfl, fnl⟩⟩⟩⟩⟩⟩
  clear st; intro w7 hB hsz7 st
  have hb := hB _ _ hb (by omega) (by omega)
  clear hB
  refine wpList_nil ?_
  refine then_normal ?_
  refine wp_seq ?_
  refine wp_seq ?_
  refine sym_region st [(33, Fact.ptr (Con.bool (Rt.ng x))), (34, Fact.eq (.bool (Rt.ng x))), (35, Fact.ptr (Con.bool (Rt.ng y))), (36, Fact.eq (.bool (Rt.ng y))), (37, Fact.eq (.bool ((Rt.ng x) == (Rt.ng y))))] [] 5 (by kernel_rfl) (by kernel_rfl) (by kernel_rfl) (Nat.le_of_ble_eq_true rfl) (by kernel_rfl) rfl rfl ?_ ?_
  · refine fcs ⟨Ob.new_ (ob_addr 26 0 2 33 0 (Con.fr m x) (Con.bool (Rt.ng x)) rfl rfl (.inl rfl) (by kernel_rfl) points_cell rfl (Con.fr_ng m x) field26_0) (by kernel_rfl), ?_⟩
    refine fcs ⟨Ob.new_ (ob_readb 33 34 (Rt.ng x) (Rt.ng x) rfl rfl rfl (.inl rfl) (by kernel_rfl) points_ptr rfl) (by kernel_rfl), ?_⟩
    refine fcs ⟨Ob.new_ (ob_addr 26 0 3 35 0 (Con.fr m y) (Con.bool (Rt.ng y)) rfl rfl (.inl rfl) (by kernel_rfl) points_cell rfl (Con.fr_ng m y) field26_0) (by kernel_rfl), ?_⟩
    refine fcs ⟨Ob.new_ (ob_readb 35 36 (Rt.ng y) (Rt.ng y) rfl rfl rfl (.inl rfl) (by kernel_rfl) points_ptr rfl) (by kernel_rfl), ?_⟩
    refine fcs ⟨Ob.new_ (ob_eqb 34 36 37 (Rt.ng x) (Rt.ng y) ((Rt.ng x) == (Rt.ng y)) rfl rfl rfl (.inl rfl) (by kernel_rfl) (by kernel_rfl) rfl rfl rfl) (by kernel_rfl), ?_⟩
    exact fnl
  intro a8 w8 st8 hbr8 hfr
  have hs8 := hbr8.size
  have hb := up hb hbr8
  have st : St 83 [(2, Fact.cell b2 (Con.fr m x)), (3, Fact.cell b3 (Con.fr m y)), (4, Fact.cell b4 (Con.raw 3)), (5, Fact.cell b5 (Con.nn (m + m) ((Rt.tp x) * (Rat.den y)))), (6, Fact.cell b6 (Con.nn (m + m) ((Rt.tp y) * (Rat.den x)))), (7, Fact.cell b7 (Con.nn (m + m) ((Rat.den x) * (Rat.den y)))), (37, Fact.eq (.bool ((Rt.ng x) == (Rt.ng y))))] a8 w8 := st8.to (fcs ⟨st8.at_ 2, fcs ⟨st8.at_ 3, fcs ⟨st8.at_ 4, fcs ⟨st8.at_ 5, fcs ⟨st8.at_ 6, fcs ⟨st8.at_ 7, fcs ⟨st8.at_ 37, fnl⟩⟩⟩⟩⟩⟩⟩)
  clear st8 hbr8 hfr
  refine wpList_nil ?_
  refine then_normal ?_
  refine wp_cond_split (st.at_ 37) (fun h37 => ?_) (fun h37 => ?_)
  · skip
    refine wp_seq ?_
    refine sym_made st [(39, Fact.low' w8.heap.size (Con.bool (Rt.ng x))), (40, Fact.eq (.bool (Rt.ng x))), (41, Fact.agg (Con.nn (m + m) ((Rt.tp x) * (Rat.den y)))), (42, Fact.agg (Con.nn (m + m) ((Rt.tp y) * (Rat.den x)))), (43, Fact.agg (Con.nn ((m + m) + 1) (((Rt.tp x) * (Rat.den y)) + ((Rt.tp y) * (Rat.den x))))), (44, Fact.agg (Con.nn (m + m) ((Rat.den x) * (Rat.den y)))), (45, Fact.two (Fact.agg (Con.fr (max ((m + m) + 1) (m + m)) (Rt.of (Rt.ng x) (((Rt.tp x) * (Rat.den y)) + ((Rt.tp y) * (Rat.den x))) ((Rat.den x) * (Rat.den y))))) (Fact.eq (.int .i64 0))), (38, Fact.two (Fact.agg (Con.fr (max ((m + m) + 1) (m + m)) (Rt.of (Rt.ng x) (((Rt.tp x) * (Rat.den y)) + ((Rt.tp y) * (Rat.den x))) ((Rat.den x) * (Rat.den y))))) (Fact.eq (.int .i64 0))), (46, Fact.agg (Con.fr (max ((m + m) + 1) (m + m)) (Rt.of (Rt.ng x) (((Rt.tp x) * (Rat.den y)) + ((Rt.tp y) * (Rat.den x))) ((Rat.den x) * (Rat.den y))))), (47, Fact.eq (.int .i64 0)), (8, Fact.any), (9, Fact.eq (.int .i64 0))] [⟨8, 11, 46, 26, Con.fr (max ((m + m) + 1) (m + m)) (Rt.of (Rt.ng x) (((Rt.tp x) * (Rat.den y)) + ((Rt.tp y) * (Rat.den x))) ((Rat.den x) * (Rat.den y))), [.bool false, .slice none 0 0, .slice none 0 0]⟩] (by kernel_rfl) (by kernel_rfl) (by kernel_rfl) rfl rfl (fcs ⟨safeG_cell _ (by omega), fcs ⟨safeG_cell _ (by omega), fcs ⟨safeG_cell _ (by omega), fcs ⟨safeG_cell _ (by omega), fcs ⟨safeG_cell _ (by omega), fcs ⟨safeG_cell _ (by omega), fcs ⟨safeG_eq _, fcs ⟨safeG_low _, fcs ⟨safeG_eq _, fcs ⟨safeG_agg _, fcs ⟨safeG_agg _, fcs ⟨safeG_agg _, fcs ⟨safeG_agg _, fcs ⟨safeG_two (safeG_agg _) (safeG_eq _), fcs ⟨safeG_two (safeG_agg _) (safeG_eq _), fcs ⟨safeG_agg _, fcs ⟨safeG_eq _, fcs ⟨safeG_any, fcs ⟨safeG_eq _, fnl⟩⟩⟩⟩⟩⟩⟩⟩⟩⟩⟩⟩⟩⟩⟩⟩⟩⟩⟩) ?_ ?_
    · refine fcs ⟨.plain (ob_addrlow _ 26 0 2 39 0 b2 (Con.fr m x) (Con.bool (Rt.ng x)) (by omega) rfl rfl (.inl rfl) (by kernel_rfl) rfl rfl (Con.fr_ng m x) field26_0) rfl, ?_⟩
      refine fcs ⟨.plain (ob_readb 39 40 (Rt.ng x) (Rt.ng x) rfl rfl rfl (.inl rfl) (by kernel_rfl) points_low rfl) rfl, ?_⟩
      refine fcs ⟨.plain (ob_read 24 5 41 (Con.nn (m + m) ((Rt.tp x) * (Rat.den y))) rfl rfl (.inl rfl) (by kernel_rfl) points_cell rfl row24 info24) rfl, ?_⟩
      refine fcs ⟨.plain (ob_read 24 6 42 (Con.nn (m + m) ((Rt.tp y) * (Rat.den x))) rfl rfl (.inl rfl) (by kernel_rfl) points_cell rfl row24 info24) rfl, ?_⟩
      refine fcs ⟨.plain (ob_call2 55 41 42 43 _ rfl rfl (.inl rfl) (by kernel_rfl) (by kernel_rfl) (by kernel_rfl) (r_addr (m + m) (m + m) (m + m) ((Rt.tp x) * (Rat.den y)) ((Rt.tp y) * (Rat.den x)) (by omega) (by omega) (by omega))) rfl, ?_⟩
      refine fcs ⟨.plain (ob_read 24 7 44 (Con.nn (m + m) ((Rat.den x) * (Rat.den y))) rfl rfl (.inl rfl) (by kernel_rfl) points_cell rfl row24 info24) rfl, ?_⟩
      refine fcs ⟨.plain (ob_call3 53 40 43 44 45 _ rfl rfl (.inl rfl) (by kernel_rfl) (by kernel_rfl) (by kernel_rfl) (by kernel_rfl) (z_make ((m + m) + 1) (m + m) (max ((m + m) + 1) (m + m)) (Rt.ng x) (((Rt.tp x) * (Rat.den y)) + ((Rt.tp y) * (Rat.den x))) ((Rat.den x) * (Rat.den y)) (Rt.den_mul_ne x y) (by omega) (by omega) (by omega))) rfl, ?_⟩
      refine fcs ⟨.plain (ob_copy 45 38 (.inl rfl) rfl (.inl rfl) (by kernel_rfl) rfl) rfl, ?_⟩
      refine fcs ⟨.plain (ob_fst 38 46 (Fact.agg (Con.fr (max ((m + m) + 1) (m + m)) (Rt.of (Rt.ng x) (((Rt.tp x) * (Rat.den y)) + ((Rt.tp y) * (Rat.den x))) ((Rat.den x) * (Rat.den y))))) (Fact.eq (.int .i64 0)) rfl rfl (.inl rfl) (by kernel_rfl) rfl rfl) rfl, ?_⟩
      refine fcs ⟨.plain (ob_snd 38 47 (Fact.agg (Con.fr (max ((m + m) + 1) (m + m)) (Rt.of (Rt.ng x) (((Rt.tp x) * (Rat.den y)) + ((Rt.tp y) * (Rat.den x))) ((Rat.den x) * (Rat.den y))))) (Fact.eq (.int .i64 0)) rfl rfl (.inl rfl) (by kernel_rfl) rfl rfl) rfl, ?_⟩
      refine fcs ⟨.alloc _ (List.mem_of_getElem? (i := 0) rfl) rfl rfl rfl rfl rfl rfl alloc26, ?_⟩
      refine fcs ⟨.store _ (List.mem_of_getElem? (i := 0) rfl) rfl rfl rfl rfl (by kernel_rfl) (by kernel_rfl) rfl info26 rfl (fcs ⟨fun _ => rfl, fnl⟩), ?_⟩
      refine fcs ⟨.plain (ob_copy 47 9 (.inr rfl) rfl (.inl rfl) (by kernel_rfl) rfl) rfl, ?_⟩
      exact fnl
    intro a9 w9 st9 hbr9 hpp hap
    have hs9 := hbr9.size
    have hb := up hb hbr9
    obtain ⟨b8, c8, g8, l8⟩ := hpp _ (List.mem_of_getElem? (i := 0) rfl)
    have st : St 83 [(2, Fact.cell b2 (Con.fr m x)), (3, Fact.cell b3 (Con.fr m y)), (4, Fact.cell b4 (Con.raw 3)), (5, Fact.cell b5 (Con.nn (m + m) ((Rt.tp x) * (Rat.den y)))), (6, Fact.cell b6 (Con.nn (m + m) ((Rt.tp y) * (Rat.den x)))), (7, Fact.cell b7 (Con.nn (m + m) ((Rat.den x) * (Rat.den y)))), (8, Fact.cell b8 (Con.fr (max ((m + m) + 1) (m + m)) (Rt.of (Rt.ng x) (((Rt.tp x) * (Rat.den y)) + ((Rt.tp y) * (Rat.den x))) ((Rat.den x) * (Rat.den y)))))] a9 w9 := st9.to (fcs ⟨st9.at_ 2, fcs ⟨st9.at_ 3, fcs ⟨st9.at_ 4, fcs ⟨st9.at_ 5, fcs ⟨st9.at_ 6, fcs ⟨st9.at_ 7, fcs ⟨c8, fnl⟩⟩⟩⟩⟩⟩⟩)
    clear st9 hbr9 hpp hap c8
    refine then_normal ?_
    refine wp_seq ?_
    refine sym_region st [(48, Fact.agg (Con.fr (max ((m + m) + 1) (m + m)) (Rt.of (Rt.ng x) (((Rt.tp x) * (Rat.den y)) + ((Rt.tp y) * (Rat.den x))) ((Rat.den x) * (Rat.den y)))))] [] 1 (by kernel_rfl) (by kernel_rfl) (by kernel_rfl) (Nat.le_of_ble_eq_true rfl) (by kernel_rfl) rfl rfl ?_ ?_
    · refine fcs ⟨Ob.new_ (ob_read 26 8 48 (Con.fr (max ((m + m) + 1) (m + m)) (Rt.of (Rt.ng x) (((Rt.tp x) * (Rat.den y)) + ((Rt.tp y) * (Rat.den x))) ((Rat.den x) * (Rat.den y)))) rfl rfl (.inl rfl) (by kernel_rfl) points_cell rfl row26 info26) (by kernel_rfl), ?_⟩
      exact fnl
    intro a10 w10 st10 hbr10 hfr
    have hs10 := hbr10.size
    have hb := up hb hbr10
    have st : St 83 [(2, Fact.cell b2 (Con.fr m x)), (3, Fact.cell b3 (Con.fr m y)), (4, Fact.cell b4 (Con.raw 3)), (5, Fact.cell b5 (Con.nn (m + m) ((Rt.tp x) * (Rat.den y)))), (6, Fact.cell b6 (Con.nn (m + m) ((Rt.tp y) * (Rat.den x)))), (7, Fact.cell b7 (Con.nn (m + m) ((Rat.den x) * (Rat.den y)))), (48, Fact.agg (Con.fr (max ((m + m) + 1) (m + m)) (Rt.of (Rt.ng x) (((Rt.tp x) * (Rat.den y)) + ((Rt.tp y) * (Rat.den x))) ((Rat.den x) * (Rat.den y)))))] a10 w10 := st10.to (fcs ⟨st10.at_ 2, fcs ⟨st10.at_ 3, fcs ⟨st10.at_ 4, fcs ⟨st10.at_ 5, fcs ⟨st10.at_ 6, fcs ⟨st10.at_ 7, fcs ⟨st10.at_ 48, fnl⟩⟩⟩⟩⟩⟩⟩)
    clear st10 hbr10 hfr
    refine sym_store st 26 4 48 b4 (Con.raw 3) (Con.fr (max ((m + m) + 1) (m + m)) (Rt.of (Rt.ng x) (((Rt.tp x) * (Rat.den y)) + ((Rt.tp y) * (Rat.den x))) ((Rat.den x) * (Rat.den y)))) [(2, Fact.cell b2 (Con.fr m x)), (3, Fact.cell b3 (Con.fr m y)), (4, Fact.cell b4 (Con.fr (max ((m + m) + 1) (m + m)) (Rt.of (Rt.ng x) (((Rt.tp x) * (Rat.den y)) + ((Rt.tp y) * (Rat.den x))) ((Rat.den x) * (Rat.den y))))), (5, Fact.cell b5 (Con.nn (m + m) ((Rt.tp x) * (Rat.den y)))), (6, Fact.cell b6 (Con.nn (m + m) ((Rt.tp y) * (Rat.den x)))), (7, Fact.cell b7 (Con.nn (m + m) ((Rat.den x) * (Rat.den y))))] rfl rfl rfl rfl rfl rfl info26 ?_ ?_
    · exact fcs ⟨.inr ⟨rfl, safe_cell _ (by omega)⟩, fcs ⟨.inr ⟨rfl, safe_cell _ (by omega)⟩, fcs ⟨.inl rfl, fcs ⟨.inr ⟨rfl, safe_cell _ (by omega)⟩, fcs ⟨.inr ⟨rfl, safe_cell _ (by omega)⟩, fcs ⟨.inr ⟨rfl, safe_cell _ (by omega)⟩, fnl⟩⟩⟩⟩⟩⟩
    clear st; intro w11 hB hsz11 st
    have hb := hB _ _ hb (by omega) (by omega)
    clear hB
    refine wpList_nil ?_
    refine then_normal ?_
    refine wp_ret ?_
    exact sym_ret1 rfl st.defers (resAt_cell st 4 b4 26 (Con.fr (max ((m + m) + 1) (m + m)) (Rt.of (Rt.ng x) (((Rt.tp x) * (Rat.den y)) + ((Rt.tp y) * (Rat.den x))) ((Rat.den x) * (Rat.den y)))) rfl row26 info26) hb (fun v h => by rw [Rt.add_same (eq_of_beq h37)]; exact Fact.fr_up h (by omega))
  · skip
    refine wp_skip ?_
    refine then_normal ?_
    refine wp_seq ?_
    refine wp_seq ?_
    refine sym_region st [(49, Fact.agg (Con.nn (m + m) ((Rt.tp x) * (Rat.den y)))), (50, Fact.agg (Con.nn (m + m) ((Rt.tp y) * (Rat.den x)))), (51, Fact.eq (.int .i64 (cmpI ((Rt.tp x) * (Rat.den y)) ((Rt.tp y) * (Rat.den x))))), (52, Fact.eq (.bool (decide ((cmpI ((Rt.tp x) * (Rat.den y)) ((Rt.tp y) * (Rat.den x))) < 0))))] [] 4 (by kernel_rfl) (by kernel_rfl) (by kernel_rfl) (Nat.le_of_ble_eq_true rfl) (by kernel_rfl) rfl rfl ?_ ?_
    · refine fcs ⟨Ob.new_ (ob_read 24 5 49 (Con.nn (m + m) ((Rt.tp x) * (Rat.den y))) rfl rfl (.inl rfl) (by kernel_rfl) points_cell rfl row24 info24) (by kernel_rfl), ?_⟩
      refine fcs ⟨Ob.new_ (ob_read 24 6 50 (Con.nn (m + m) ((Rt.tp y) * (Rat.den x))) rfl rfl (.inl rfl) (by kernel_rfl) points_cell rfl row24 info24) (by kernel_rfl), ?_⟩
      refine fcs ⟨Ob.new_ (ob_call2 56 49 50 51 _ rfl rfl (.inl rfl) (by kernel_rfl) (by kernel_rfl) (by kernel_rfl) (r_cmp (m + m) (m + m) ((Rt.tp x) * (Rat.den y)) ((Rt.tp y) * (Rat.den x)) _ rfl)) (by kernel_rfl), ?_⟩
      refine fcs ⟨Ob.new_ (ob_ltc 51 52 .i64 3 _ (cmpI ((Rt.tp x) * (Rat.den y)) ((Rt.tp y) * (Rat.den x))) 0 (decide ((cmpI ((Rt.tp x) * (Rat.den y)) ((Rt.tp y) * (Rat.den x))) < 0)) rfl rfl rfl (.inl rfl) (by kernel_rfl) rfl rfl) (by kernel_rfl), ?_⟩
      exact fnl
    intro a12 w12 st12 hbr12 hfr
    have hs12 := hbr12.size
    have hb := up hb hbr12
    have st : St 83 [(2, Fact.cell b2 (Con.fr m x)), (3, Fact.cell b3 (Con.fr m y)), (4, Fact.cell b4 (Con.raw 3)), (5, Fact.cell b5 (Con.nn (m + m) ((Rt.tp x) * (Rat.den y)))), (6, Fact.cell b6 (Con.nn (m + m) ((Rt.tp y) * (Rat.den x)))), (7, Fact.cell b7 (Con.nn (m + m) ((Rat.den x) * (Rat.den y)))), (52, Fact.eq (.bool (decide ((cmpI ((Rt.tp x) * (Rat.den y)) ((Rt.tp y) * (Rat.den x))) < 0))))] a12 w12 := st12.to (fcs ⟨st12.at_ 2, fcs ⟨st12.at_ 3, fcs ⟨st12.at_ 4, fcs ⟨st12.at_ 5, fcs ⟨st12.at_ 6, fcs ⟨st12.at_ 7, fcs ⟨st12.at_ 52, fnl⟩⟩⟩⟩⟩⟩⟩)
    clear st12 hbr12 hfr
    refine wpList_nil ?_
    refine then_normal ?_
    refine wp_cond_split (st.at_ 52) (fun h52 => ?_) (fun h52 => ?_)
    · skip
      have hlt := cmp_lt h52
      refine wp_seq ?_
      refine sym_region st [(54, Fact.agg (Con.nn (m + m) ((Rt.tp y) * (Rat.den x)))), (55, Fact.agg (Con.nn (m + m) ((Rt.tp x) * (Rat.den y)))), (56, Fact.two (Fact.agg (Con.nn (m + m) (((Rt.tp y) * (Rat.den x)) - ((Rt.tp x) * (Rat.den y))))) (Fact.eq (.bool true))), (53, Fact.two (Fact.agg (Con.nn (m + m) (((Rt.tp y) * (Rat.den x)) - ((Rt.tp x) * (Rat.den y))))) (Fact.eq (.bool true))), (57, Fact.agg (Con.nn (m + m) (((Rt.tp y) * (Rat.den x)) - ((Rt.tp x) * (Rat.den y))))), (58, Fact.eq (.bool true)), (10, Fact.var' (Con.raw 1))] [10] 7 (by kernel_rfl) (by kernel_rfl) (by kernel_rfl) (Nat.le_of_ble_eq_true rfl) (by kernel_rfl) rfl rfl ?_ ?_
      · refine fcs ⟨Ob.new_ (ob_read 24 6 54 (Con.nn (m + m) ((Rt.tp y) * (Rat.den x))) rfl rfl (.inl rfl) (by kernel_rfl) points_cell rfl row24 info24) (by kernel_rfl), ?_⟩
        refine fcs ⟨Ob.new_ (ob_read 24 5 55 (Con.nn (m + m) ((Rt.tp x) * (Rat.den y))) rfl rfl (.inl rfl) (by kernel_rfl) points_cell rfl row24 info24) (by kernel_rfl), ?_⟩
        refine fcs ⟨Ob.new_ (ob_call2 57 54 55 56 _ rfl rfl (.inl rfl) (by kernel_rfl) (by kernel_rfl) (by kernel_rfl) (r_sub (m + m) (m + m) ((Rt.tp y) * (Rat.den x)) ((Rt.tp x) * (Rat.den y)) (by omega) true (decide_eq_true (Nat.le_of_lt hlt)))) (by kernel_rfl), ?_⟩
        refine fcs ⟨Ob.new_ (ob_copy 56 53 (.inl rfl) rfl (.inl rfl) (by kernel_rfl) rfl) (by kernel_rfl), ?_⟩
        refine fcs ⟨Ob.new_ (ob_fst 53 57 (Fact.agg (Con.nn (m + m) (((Rt.tp y) * (Rat.den x)) - ((Rt.tp x) * (Rat.den y))))) (Fact.eq (.bool true)) rfl rfl (.inl rfl) (by kernel_rfl) rfl rfl) (by kernel_rfl), ?_⟩
        refine fcs ⟨Ob.new_ (ob_snd 53 58 (Fact.agg (Con.nn (m + m) (((Rt.tp y) * (Rat.den x)) - ((Rt.tp x) * (Rat.den y))))) (Fact.eq (.bool true)) rfl rfl (.inl rfl) (by kernel_rfl) rfl rfl) (by kernel_rfl), ?_⟩
        refine fcs ⟨obn_new 24 10 _ [.slice none 0 0] rfl rfl rfl rfl rfl alloc24, ?_⟩
        exact fnl
      intro a13 w13 st13 hbr13 hfr
      have hs13 := hbr13.size
      have hb := up hb hbr13
      obtain ⟨b10, c10⟩ := (show (Fact.var' (Con.raw 1)).holds _ _ from st13.at_ 10)
      have g10 := hfr.ge (s := 10) rfl c10.1
      have st : St 83 [(2, Fact.cell b2 (Con.fr m x)), (3, Fact.cell b3 (Con.fr m y)), (4, Fact.cell b4 (Con.raw 3)), (5, Fact.cell b5 (Con.nn (m + m) ((Rt.tp x) * (Rat.den y)))), (6, Fact.cell b6 (Con.nn (m + m) ((Rt.tp y) * (Rat.den x)))), (7, Fact.cell b7 (Con.nn (m + m) ((Rat.den x) * (Rat.den y)))), (57, Fact.agg (Con.nn (m + m) (((Rt.tp y) * (Rat.den x)) - ((Rt.tp x) * (Rat.den y))))), (58, Fact.eq (.bool true)), (10, Fact.cell b10 (Con.raw 1))] a13 w13 := st13.to (fcs ⟨st13.at_ 2, fcs ⟨st13.at_ 3, fcs ⟨st13.at_ 4, fcs ⟨st13.at_ 5, fcs ⟨st13.at_ 6, fcs ⟨st13.at_ 7, fcs ⟨st13.at_ 57, fcs ⟨st13.at_ 58, fcs ⟨c10, fnl⟩⟩⟩⟩⟩⟩⟩⟩⟩)
      clear st13 hbr13 hfr c10
      refine sym_store st 24 10 57 b10 (Con.raw 1) (Con.nn (m + m) (((Rt.tp y) * (Rat.den x)) - ((Rt.tp x) * (Rat.den y)))) [(2, Fact.cell b2 (Con.fr m x)), (3, Fact.cell b3 (Con.fr m y)), (4, Fact.cell b4 (Con.raw 3)), (5, Fact.cell b5 (Con.nn (m + m) ((Rt.tp x) * (Rat.den y)))), (6, Fact.cell b6 (Con.nn (m + m) ((Rt.tp y) * (Rat.den x)))), (7, Fact.cell b7 (Con.nn (m + m) ((Rat.den x) * (Rat.den y)))), (58, Fact.eq (.bool true)), (10, Fact.cell b10 (Con.nn (m + m) (((Rt.tp y) * (Rat.den x)) - ((Rt.tp x) * (Rat.den y)))))] rfl rfl rfl rfl rfl rfl info24 ?_ ?_
      · exact fcs ⟨.inr ⟨rfl, safe_cell _ (by omega)⟩, fcs ⟨.inr ⟨rfl, safe_cell _ (by omega)⟩, fcs ⟨.inr ⟨rfl, safe_cell _ (by omega)⟩, fcs ⟨.inr ⟨rfl, safe_cell _ (by omega)⟩, fcs ⟨.inr ⟨rfl, safe_cell _ (by omega)⟩, fcs ⟨.inr ⟨rfl, safe_cell _ (by omega)⟩, fcs ⟨.inr ⟨rfl, safe_eq _ _⟩, fcs ⟨.inl rfl, fnl⟩⟩⟩⟩⟩⟩⟩⟩
      clear st; intro w14 hB hsz14 st
      have hb := hB _ _ hb (by omega) (by omega)
      clear hB
      refine sym_op st 11 (Fact.eq (.bool true)) rfl (Nat.le_of_ble_eq_true rfl) rfl rfl (by kernel_rfl) (ob_copy 58 11 (.inr rfl) rfl (.inl rfl) (by kernel_rfl) rfl) ?_
      clear st; intro a15 w15 hbr st; have hs15 := hbr.size; have hb := up hb hbr; clear hbr
      refine wpList_nil ?_
      refine then_normal ?_
      refine wp_seq ?_
      refine sym_region st [(60, Fact.ptr (Con.bool (Rt.ng y))), (61, Fact.eq (.bool (Rt.ng y))), (62, Fact.agg (Con.nn (m + m) (((Rt.tp y) * (Rat.den x)) - ((Rt.tp x) * (Rat.den y))))), (63, Fact.agg (Con.nn (m + m) ((Rat.den x) * (Rat.den y)))), (64, Fact.two (Fact.agg (Con.fr (m + m) (Rt.of (Rt.ng y) (((Rt.tp y) * (Rat.den x)) - ((Rt.tp x) * (Rat.den y))) ((Rat.den x) * (Rat.den y))))) (Fact.eq (.int .i64 0))), (59, Fact.two (Fact.agg (Con.fr (m + m) (Rt.of (Rt.ng y) (((Rt.tp y) * (Rat.den x)) - ((Rt.tp x) * (Rat.den y))) ((Rat.den x) * (Rat.den y))))) (Fact.eq (.int .i64 0))), (65, Fact.agg (Con.fr (m + m) (Rt.of (Rt.ng y) (((Rt.tp y) * (Rat.den x)) - ((Rt.tp x) * (Rat.den y))) ((Rat.den x) * (Rat.den y))))), (66, Fact.eq (.int .i64 0)), (12, Fact.var' (Con.raw 3))] [12] 9 (by kernel_rfl) (by kernel_rfl) (by kernel_rfl) (Nat.le_of_ble_eq_true rfl) (by kernel_rfl) rfl rfl ?_ ?_
      · refine fcs ⟨Ob.new_ (ob_addr 26 0 3 60 0 (Con.fr m y) (Con.bool (Rt.ng y)) rfl rfl (.inl rfl) (by kernel_rfl) points_cell rfl (Con.fr_ng m y) field26_0) (by kernel_rfl), ?_⟩
        refine fcs ⟨Ob.new_ (ob_readb 60 61 (Rt.ng y) (Rt.ng y) rfl rfl rfl (.inl rfl) (by kernel_rfl) points_ptr rfl) (by kernel_rfl), ?_⟩
        refine fcs ⟨Ob.new_ (ob_read 24 10 62 (Con.nn (m + m) (((Rt.tp y) * (Rat.den x)) - ((Rt.tp x) * (Rat.den y)))) rfl rfl (.inl rfl) (by kernel_rfl) points_cell rfl row24 info24) (by kernel_rfl), ?_⟩
        refine fcs ⟨Ob.new_ (ob_read 24 7 63 (Con.nn (m + m) ((Rat.den x) * (Rat.den y))) rfl rfl (.inl rfl) (by kernel_rfl) points_cell rfl row24 info24) (by kernel_rfl), ?_⟩
        refine fcs ⟨Ob.new_ (ob_call3 53 61 62 63 64 _ rfl rfl (.inl rfl) (by kernel_rfl) (by kernel_rfl) (by kernel_rfl) (by kernel_rfl) (z_make (m + m) (m + m) (m + m) (Rt.ng y) (((Rt.tp y) * (Rat.den x)) - ((Rt.tp x) * (Rat.den y))) ((Rat.den x) * (Rat.den y)) (Rt.den_mul_ne x y) (by omega) (by omega) (by omega))) (by kernel_rfl), ?_⟩
        refine fcs ⟨Ob.new_ (ob_copy 64 59 (.inl rfl) rfl (.inl rfl) (by kernel_rfl) rfl) (by kernel_rfl), ?_⟩
        refine fcs ⟨Ob.new_ (ob_fst 59 65 (Fact.agg (Con.fr (m + m) (Rt.of (Rt.ng y) (((Rt.tp y) * (Rat.den x)) - ((Rt.tp x) * (Rat.den y))) ((Rat.den x) * (Rat.den y))))) (Fact.eq (.int .i64 0)) rfl rfl (.inl rfl) (by kernel_rfl) rfl rfl) (by kernel_rfl), ?_⟩
        refine fcs ⟨Ob.new_ (ob_snd 59 66 (Fact.agg (Con.fr (m + m) (Rt.of (Rt.ng y) (((Rt.tp y) * (Rat.den x)) - ((Rt.tp x) * (Rat.den y))) ((Rat.den x) * (Rat.den y))))) (Fact.eq (.int .i64 0)) rfl rfl (.inl rfl) (by kernel_rfl) rfl rfl) (by kernel_rfl), ?_⟩
        refine fcs ⟨obn_new 26 12 _ [.bool false, .slice none 0 0, .slice none 0 0] rfl rfl rfl rfl rfl alloc26, ?_⟩
        exact fnl
      intro a16 w16 st16 hbr16 hfr
      have hs16 := hbr16.size
      have hb := up hb hbr16
      obtain ⟨b12, c12⟩ := (show (Fact.var' (Con.raw 3)).holds _ _ from st16.at_ 12)
      have g12 := hfr.ge (s := 12) rfl c12.1
      have st : St 83 [(2, Fact.cell b2 (Con.fr m x)), (4, Fact.cell b4 (Con.raw 3)), (5, Fact.cell b5 (Con.nn (m + m) ((Rt.tp x) * (Rat.den y)))), (6, Fact.cell b6 (Con.nn (m + m) ((Rt.tp y) * (Rat.den x)))), (7, Fact.cell b7 (Con.nn (m + m) ((Rat.den x) * (Rat.den y)))), (65, Fact.agg (Con.fr (m + m) (Rt.of (Rt.ng y) (((Rt.tp y) * (Rat.den x)) - ((Rt.tp x) * (Rat.den y))) ((Rat.den x) * (Rat.den y))))), (66, Fact.eq (.int .i64 0)), (12, Fact.cell b12 (Con.raw 3))] a16 w16 := st16.to (fcs ⟨st16.at_ 2, fcs ⟨st16.at_ 4, fcs ⟨st16.at_ 5, fcs ⟨st16.at_ 6, fcs ⟨st16.at_ 7, fcs ⟨st16.at_ 65, fcs ⟨st16.at_ 66, fcs ⟨c12, fnl⟩⟩⟩⟩⟩⟩⟩⟩)
      clear st16 hbr16 hfr c12
      refine sym_store st 26 12 65 b12 (Con.raw 3) (Con.fr (m + m) (Rt.of (Rt.ng y) (((Rt.tp y) * (Rat.den x)) - ((Rt.tp x) * (Rat.den y))) ((Rat.den x) * (Rat.den y)))) [(2, Fact.cell b2 (Con.fr m x)), (4, Fact.cell b4 (Con.raw 3)), (5, Fact.cell b5 (Con.nn (m + m) ((Rt.tp x) * (Rat.den y)))), (6, Fact.cell b6 (Con.nn (m + m) ((Rt.tp y) * (Rat.den x)))), (7, Fact.cell b7 (Con.nn (m + m) ((Rat.den x) * (Rat.den y)))), (66, Fact.eq (.int .i64 0)), (12, Fact.cell b12 (Con.fr (m + m) (Rt.of (Rt.ng y) (((Rt.tp y) * (Rat.den x)) - ((Rt.tp x) * (Rat.den y))) ((Rat.den x) * (Rat.den y)))))] rfl rfl rfl rfl rfl rfl info26 ?_ ?_
      · exact fcs ⟨.inr ⟨rfl, safe_cell _ (by omega)⟩, fcs ⟨.inr ⟨rfl, safe_cell _ (by omega)⟩, fcs ⟨.inr ⟨rfl, safe_cell _ (by omega)⟩, fcs ⟨.inr ⟨rfl, safe_cell _ (by omega)⟩, fcs ⟨.inr ⟨rfl, safe_cell _ (by omega)⟩, fcs ⟨.inr ⟨rfl, safe_eq _ _⟩, fcs ⟨.inl rfl, fnl⟩⟩⟩⟩⟩⟩⟩
      clear st; intro w17 hB hsz17 st
      have hb := hB _ _ hb (by omega) (by omega)
      clear hB
      refine sym_op st 13 (Fact.eq (.int .i64 0)) rfl (Nat.le_of_ble_eq_true rfl) rfl rfl (by kernel_rfl) (ob_copy 66 13 (.inr rfl) rfl (.inl rfl) (by kernel_rfl) rfl) ?_
      clear st; intro a18 w18 hbr st; have hs18 := hbr.size; have hb := up hb hbr; clear hbr
      refine wpList_nil ?_
      refine then_normal ?_
      refine wp_seq ?_
      refine sym_region st [(67, Fact.agg (Con.fr (m + m) (Rt.of (Rt.ng y) (((Rt.tp y) * (Rat.den x)) - ((Rt.tp x) * (Rat.den y))) ((Rat.den x) * (Rat.den y)))))] [] 1 (by kernel_rfl) (by kernel_rfl) (by kernel_rfl) (Nat.le_of_ble_eq_true rfl) (by kernel_rfl) rfl rfl ?_ ?_
      · refine fcs ⟨Ob.new_ (ob_read 26 12 67 (Con.fr (m + m) (Rt.of (Rt.ng y) (((Rt.tp y) * (Rat.den x)) - ((Rt.tp x) * (Rat.den y))) ((Rat.den x) * (Rat.den y)))) rfl rfl (.inl rfl) (by kernel_rfl) points_cell rfl row26 info26) (by kernel_rfl), ?_⟩
        exact fnl
      intro a19 w19 st19 hbr19 hfr
      have hs19 := hbr19.size
      have hb := up hb hbr19
      have st : St 83 [(2, Fact.cell b2 (Con.fr m x)), (4, Fact.cell b4 (Con.raw 3)), (5, Fact.cell b5 (Con.nn (m + m) ((Rt.tp x) * (Rat.den y)))), (6, Fact.cell b6 (Con.nn (m + m) ((Rt.tp y) * (Rat.den x)))), (7, Fact.cell b7 (Con.nn (m + m) ((Rat.den x) * (Rat.den y)))), (67, Fact.agg (Con.fr (m + m) (Rt.of (Rt.ng y) (((Rt.tp y) * (Rat.den x)) - ((Rt.tp x) * (Rat.den y))) ((Rat.den x) * (Rat.den y)))))] a19 w19 := st19.to (fcs ⟨st19.at_ 2, fcs ⟨st19.at_ 4, fcs ⟨st19.at_ 5, fcs ⟨st19.at_ 6, fcs ⟨st19.at_ 7, fcs ⟨st19.at_ 67, fnl⟩⟩⟩⟩⟩⟩)
      clear st19 hbr19 hfr
      refine sym_store st 26 4 67 b4 (Con.raw 3) (Con.fr (m + m) (Rt.of (Rt.ng y) (((Rt.tp y) * (Rat.den x)) - ((Rt.tp x) * (Rat.den y))) ((Rat.den x) * (Rat.den y)))) [(2, Fact.cell b2 (Con.fr m x)), (4, Fact.cell b4 (Con.fr (m + m) (Rt.of (Rt.ng y) (((Rt.tp y) * (Rat.den x)) - ((Rt.tp x) * (Rat.den y))) ((Rat.den x) * (Rat.den y))))), (5, Fact.cell b5 (Con.nn (m + m) ((Rt.tp x) * (Rat.den y)))), (6, Fact.cell b6 (Con.nn (m + m) ((Rt.tp y) * (Rat.den x)))), (7, Fact.cell b7 (Con.nn (m + m) ((Rat.den x) * (Rat.den y))))] rfl rfl rfl rfl rfl rfl info26 ?_ ?_
      · exact fcs ⟨.inr ⟨rfl, safe_cell _ (by omega)⟩, fcs ⟨.inl rfl, fcs ⟨.inr ⟨rfl, safe_cell _ (by omega)⟩, fcs ⟨.inr ⟨rfl, safe_cell _ (by omega)⟩, fcs ⟨.inr ⟨rfl, safe_cell _ (by omega)⟩, fnl⟩⟩⟩⟩⟩
      clear st; intro w20 hB hsz20 st
      have hb := hB _ _ hb (by omega) (by omega)
      clear hB
      refine wpList_nil ?_
      refine then_normal ?_
      refine wp_ret ?_
      exact sym_ret1 rfl st.defers (resAt_cell st 4 b4 26 (Con.fr (m + m) (Rt.of (Rt.ng y) (((Rt.tp y) * (Rat.den x)) - ((Rt.tp x) * (Rat.den y))) ((Rat.den x) * (Rat.den y)))) rfl row26 info26) hb (fun v h => by rw [Rt.add_lt (by simpa using h37) (hlt)]; exact Fact.fr_up h (by omega))
    · skip
      have hle := decide_eq_true (cmp_ge h52)
      refine wp_skip ?_
      refine then_normal ?_
      refine wp_seq ?_
      refine sym_region st [(69, Fact.agg (Con.nn (m + m) ((Rt.tp x) * (Rat.den y)))), (70, Fact.agg (Con.nn (m + m) ((Rt.tp y) * (Rat.den x)))), (71, Fact.two (Fact.agg (Con.nn (m + m) (((Rt.tp x) * (Rat.den y)) - ((Rt.tp y) * (Rat.den x))))) (Fact.eq (.bool true))), (68, Fact.two (Fact.agg (Con.nn (m + m) (((Rt.tp x) * (Rat.den y)) - ((Rt.tp y) * (Rat.den x))))) (Fact.eq (.bool true))), (72, Fact.agg (Con.nn (m + m) (((Rt.tp x) * (Rat.den y)) - ((Rt.tp y) * (Rat.den x))))), (73, Fact.eq (.bool true)), (14, Fact.var' (Con.raw 1))] [14] 7 (by kernel_rfl) (by kernel_rfl) (by kernel_rfl) (Nat.le_of_ble_eq_true rfl) (by kernel_rfl) rfl rfl ?_ ?_
      · refine fcs ⟨Ob.new_ (ob_read 24 5 69 (Con.nn (m + m) ((Rt.tp x) * (Rat.den y))) rfl rfl (.inl rfl) (by kernel_rfl) points_cell rfl row24 info24) (by kernel_rfl), ?_⟩
        refine fcs ⟨Ob.new_ (ob_read 24 6 70 (Con.nn (m + m) ((Rt.tp y) * (Rat.den x))) rfl rfl (.inl rfl) (by kernel_rfl) points_cell rfl row24 info24) (by kernel_rfl), ?_⟩
        refine fcs ⟨Ob.new_ (ob_call2 57 69 70 71 _ rfl rfl (.inl rfl) (by kernel_rfl) (by kernel_rfl) (by kernel_rfl) (r_sub (m + m) (m + m) ((Rt.tp x) * (Rat.den y)) ((Rt.tp y) * (Rat.den x)) (by omega) true hle)) (by kernel_rfl), ?_⟩
        refine fcs ⟨Ob.new_ (ob_copy 71 68 (.inl rfl) rfl (.inl rfl) (by kernel_rfl) rfl) (by kernel_rfl), ?_⟩
        refine fcs ⟨Ob.new_ (ob_fst 68 72 (Fact.agg (Con.nn (m + m) (((Rt.tp x) * (Rat.den y)) - ((Rt.tp y) * (Rat.den x))))) (Fact.eq (.bool true)) rfl rfl (.inl rfl) (by kernel_rfl) rfl rfl) (by kernel_rfl), ?_⟩
        refine fcs ⟨Ob.new_ (ob_snd 68 73 (Fact.agg (Con.nn (m + m) (((Rt.tp x) * (Rat.den y)) - ((Rt.tp y) * (Rat.den x))))) (Fact.eq (.bool true)) rfl rfl (.inl rfl) (by kernel_rfl) rfl rfl) (by kernel_rfl), ?_⟩
        refine fcs ⟨obn_new 24 14 _ [.slice none 0 0] rfl rfl rfl rfl rfl alloc24, ?_⟩
        exact fnl
      intro a21 w21 st21 hbr21 hfr
      have hs21 := hbr21.size
      have hb := up hb hbr21
      obtain ⟨b14, c14⟩ := (show (Fact.var' (Con.raw 1)).holds _ _ from st21.at_ 14)
      have g14 := hfr.ge (s := 14) rfl c14.1
      have st : St 83 [(2, Fact.cell b2 (Con.fr m x)), (4, Fact.cell b4 (Con.raw 3)), (7, Fact.cell b7 (Con.nn (m + m) ((Rat.den x) * (Rat.den y)))), (72, Fact.agg (Con.nn (m + m) (((Rt.tp x) * (Rat.den y)) - ((Rt.tp y) * (Rat.den x))))), (73, Fact.eq (.bool true)), (14, Fact.cell b14 (Con.raw 1))] a21 w21 := st21.to (fcs ⟨st21.at_ 2, fcs ⟨st21.at_ 4, fcs ⟨st21.at_ 7, fcs ⟨st21.at_ 72, fcs ⟨st21.at_ 73, fcs ⟨c14, fnl⟩⟩⟩⟩⟩⟩)
      clear st21 hbr21 hfr c14
      refine sym_store st 24 14 72 b14 (Con.raw 1) (Con.nn (m + m) (((Rt.tp x) * (Rat.den y)) - ((Rt.tp y) * (Rat.den x)))) [(2, Fact.cell b2 (Con.fr m x)), (4, Fact.cell b4 (Con.raw 3)), (7, Fact.cell b7 (Con.nn (m + m) ((Rat.den x) * (Rat.den y)))), (73, Fact.eq (.bool true)), (14, Fact.cell b14 (Con.nn (m + m) (((Rt.tp x) * (Rat.den y)) - ((Rt.tp y) * (Rat.den x)))))] rfl rfl rfl rfl rfl rfl info24 ?_ ?_
      · exact fcs ⟨.inr ⟨rfl, safe_cell _ (by omega)⟩, fcs ⟨.inr ⟨rfl, safe_cell _ (by omega)⟩, fcs ⟨.inr ⟨rfl, safe_cell _ (by omega)⟩, fcs ⟨.inr ⟨rfl, safe_eq _ _⟩, fcs ⟨.inl rfl, fnl⟩⟩⟩⟩⟩
      clear st; intro w22 hB hsz22 st
      have hb := hB _ _ hb (by omega) (by omega)
      clear hB
      refine sym_op st 15 (Fact.eq (.bool true)) rfl (Nat.le_of_ble_eq_true rfl) rfl rfl (by kernel_rfl) (ob_copy 73 15 (.inr rfl) rfl (.inl rfl) (by kernel_rfl) rfl) ?_
      clear st; intro a23 w23 hbr st; have hs23 := hbr.size; have hb := up hb hbr; clear hbr
      refine wpList_nil ?_
      refine then_normal ?_
      refine wp_seq ?_
      refine sym_region st [(75, Fact.ptr (Con.bool (Rt.ng x))), (76, Fact.eq (.bool (Rt.ng x))), (77, Fact.agg (Con.nn (m + m) (((Rt.tp x) * (Rat.den y)) - ((Rt.tp y) * (Rat.den x))))), (78, Fact.agg (Con.nn (m + m) ((Rat.den x) * (Rat.den y)))), (79, Fact.two (Fact.agg (Con.fr (m + m) (Rt.of (Rt.ng x) (((Rt.tp x) * (Rat.den y)) - ((Rt.tp y) * (Rat.den x))) ((Rat.den x) * (Rat.den y))))) (Fact.eq (.int .i64 0))), (74, Fact.two (Fact.agg (Con.fr (m + m) (Rt.of (Rt.ng x) (((Rt.tp x) * (Rat.den y)) - ((Rt.tp y) * (Rat.den x))) ((Rat.den x) * (Rat.den y))))) (Fact.eq (.int .i64 0))), (80, Fact.agg (Con.fr (m + m) (Rt.of (Rt.ng x) (((Rt.tp x) * (Rat.den y)) - ((Rt.tp y) * (Rat.den x))) ((Rat.den x) * (Rat.den y))))), (81, Fact.eq (.int .i64 0)), (16, Fact.var' (Con.raw 3))] [16] 9 (by kernel_rfl) (by kernel_rfl) (by kernel_rfl) (Nat.le_of_ble_eq_true rfl) (by kernel_rfl) rfl rfl ?_ ?_
      · refine fcs ⟨Ob.new_ (ob_addr 26 0 2 75 0 (Con.fr m x) (Con.bool (Rt.ng x)) rfl rfl (.inl rfl) (by kernel_rfl) points_cell rfl (Con.fr_ng m x) field26_0) (by kernel_rfl), ?_⟩
        refine fcs ⟨Ob.new_ (ob_readb 75 76 (Rt.ng x) (Rt.ng x) rfl rfl rfl (.inl rfl) (by kernel_rfl) points_ptr rfl) (by kernel_rfl), ?_⟩
        refine fcs ⟨Ob.new_ (ob_read 24 14 77 (Con.nn (m + m) (((Rt.tp x) * (Rat.den y)) - ((Rt.tp y) * (Rat.den x)))) rfl rfl (.inl rfl) (by kernel_rfl) points_cell rfl row24 info24) (by kernel_rfl), ?_⟩
        refine fcs ⟨Ob.new_ (ob_read 24 7 78 (Con.nn (m + m) ((Rat.den x) * (Rat.den y))) rfl rfl (.inl rfl) (by kernel_rfl) points_cell rfl row24 info24) (by kernel_rfl), ?_⟩
        refine fcs ⟨Ob.new_ (ob_call3 53 76 77 78 79 _ rfl rfl (.inl rfl) (by kernel_rfl) (by kernel_rfl) (by kernel_rfl) (by kernel_rfl) (z_make (m + m) (m + m) (m + m) (Rt.ng x) (((Rt.tp x) * (Rat.den y)) - ((Rt.tp y) * (Rat.den x))) ((Rat.den x) * (Rat.den y)) (Rt.den_mul_ne x y) (by omega) (by omega) (by omega))) (by kernel_rfl), ?_⟩
        refine fcs ⟨Ob.new_ (ob_copy 79 74 (.inl rfl) rfl (.inl rfl) (by kernel_rfl) rfl) (by kernel_rfl), ?_⟩
        refine fcs ⟨Ob.new_ (ob_fst 74 80 (Fact.agg (Con.fr (m + m) (Rt.of (Rt.ng x) (((Rt.tp x) * (Rat.den y)) - ((Rt.tp y) * (Rat.den x))) ((Rat.den x) * (Rat.den y))))) (Fact.eq (.int .i64 0)) rfl rfl (.inl rfl) (by kernel_rfl) rfl rfl) (by kernel_rfl), ?_⟩
        refine fcs ⟨Ob.new_ (ob_snd 74 81 (Fact.agg (Con.fr (m + m) (Rt.of (Rt.ng x) (((Rt.tp x) * (Rat.den y)) - ((Rt.tp y) * (Rat.den x))) ((Rat.den x) * (Rat.den y))))) (Fact.eq (.int .i64 0)) rfl rfl (.inl rfl) (by kernel_rfl) rfl rfl) (by kernel_rfl), ?_⟩
        refine fcs ⟨obn_new 26 16 _ [.bool false, .slice none 0 0, .slice none 0 0] rfl rfl rfl rfl rfl alloc26, ?_⟩
        exact fnl
      intro a24 w24 st24 hbr24 hfr
      have hs24 := hbr24.size
      have hb := up hb hbr24
      obtain ⟨b16, c16⟩ := (show (Fact.var' (Con.raw 3)).holds _ _ from st24.at_ 16)
      have g16 := hfr.ge (s := 16) rfl c16.1
      have st : St 83 [(4, Fact.cell b4 (Con.raw 3)), (80, Fact.agg (Con.fr (m + m) (Rt.of (Rt.ng x) (((Rt.tp x) * (Rat.den y)) - ((Rt.tp y) * (Rat.den x))) ((Rat.den x) * (Rat.den y))))), (81, Fact.eq (.int .i64 0)), (16, Fact.cell b16 (Con.raw 3))] a24 w24 := st24.to (fcs ⟨st24.at_ 4, fcs ⟨st24.at_ 80, fcs ⟨st24.at_ 81, fcs ⟨c16, fnl⟩⟩⟩⟩)
      clear st24 hbr24 hfr c16
      refine sym_store st 26 16 80 b16 (Con.raw 3) (Con.fr (m + m) (Rt.of (Rt.ng x) (((Rt.tp x) * (Rat.den y)) - ((Rt.tp y) * (Rat.den x))) ((Rat.den x) * (Rat.den y)))) [(4, Fact.cell b4 (Con.raw 3)), (81, Fact.eq (.int .i64 0)), (16, Fact.cell b16 (Con.fr (m + m) (Rt.of (Rt.ng x) (((Rt.tp x) * (Rat.den y)) - ((Rt.tp y) * (Rat.den x))) ((Rat.den x) * (Rat.den y)))))] rfl rfl rfl rfl rfl rfl info26 ?_ ?_
      · exact fcs ⟨.inr ⟨rfl, safe_cell _ (by omega)⟩, fcs ⟨.inr ⟨rfl, safe_eq _ _⟩, fcs ⟨.inl rfl, fnl⟩⟩⟩
      clear st; intro w25 hB hsz25 st
      have hb := hB _ _ hb (by omega) (by omega)
      clear hB
      refine sym_op st 17 (Fact.eq (.int .i64 0)) rfl (Nat.le_of_ble_eq_true rfl) rfl rfl (by kernel_rfl) (ob_copy 81 17 (.inr rfl) rfl (.inl rfl) (by kernel_rfl) rfl) ?_
      clear st; intro a26 w26 hbr st; have hs26 := hbr.size; have hb := up hb hbr; clear hbr
      refine wpList_nil ?_
      refine then_normal ?_
      refine wp_seq ?_
      refine sym_region st [(82, Fact.agg (Con.fr (m + m) (Rt.of (Rt.ng x) (((Rt.tp x) * (Rat.den y)) - ((Rt.tp y) * (Rat.den x))) ((Rat.den x) * (Rat.den y)))))] [] 1 (by kernel_rfl) (by kernel_rfl) (by kernel_rfl) (Nat.le_of_ble_eq_true rfl) (by kernel_rfl) rfl rfl ?_ ?_
      · refine fcs ⟨Ob.new_ (ob_read 26 16 82 (Con.fr (m + m) (Rt.of (Rt.ng x) (((Rt.tp x) * (Rat.den y)) - ((Rt.tp y) * (Rat.den x))) ((Rat.den x) * (Rat.den y)))) rfl rfl (.inl rfl) (by kernel_rfl) points_cell rfl row26 info26) (by kernel_rfl), ?_⟩
        exact fnl
      intro a27 w27 st27 hbr27 hfr
      have hs27 := hbr27.size
      have hb := up hb hbr27
      have st : St 83 [(4, Fact.cell b4 (Con.raw 3)), (82, Fact.agg (Con.fr (m + m) (Rt.of (Rt.ng x) (((Rt.tp x) * (Rat.den y)) - ((Rt.tp y) * (Rat.den x))) ((Rat.den x) * (Rat.den y)))))] a27 w27 := st27.to (fcs ⟨st27.at_ 4, fcs ⟨st27.at_ 82, fnl⟩⟩)
      clear st27 hbr27 hfr
      refine sym_store st 26 4 82 b4 (Con.raw 3) (Con.fr (m + m) (Rt.of (Rt.ng x) (((Rt.tp x) * (Rat.den y)) - ((Rt.tp y) * (Rat.den x))) ((Rat.den x) * (Rat.den y)))) [(4, Fact.cell b4 (Con.fr (m + m) (Rt.of (Rt.ng x) (((Rt.tp x) * (Rat.den y)) - ((Rt.tp y) * (Rat.den x))) ((Rat.den x) * (Rat.den y)))))] rfl rfl rfl rfl rfl rfl info26 ?_ ?_
      · exact fcs ⟨.inl rfl, fnl⟩
      clear st; intro w28 hB hsz28 st
      have hb := hB _ _ hb (by omega) (by omega)
      clear hB
      refine wpList_nil ?_
      refine then_normal ?_
      refine wp_ret ?_
      exact sym_ret1 rfl st.defers (resAt_cell st 4 b4 26 (Con.fr (m + m) (Rt.of (Rt.ng x) (((Rt.tp x) * (Rat.den y)) - ((Rt.tp y) * (Rat.den x))) ((Rat.den x) * (Rat.den y)))) rfl row26 info26) hb (fun v h => by rw [Rt.add_ge (by simpa using h37) (of_decide_eq_true hle)]; exact Fact.fr_up h (by omega))
theorem z_add (k l : Nat) (x y : Rat) (hk : 2 * max k l + 1 ≤ 300) : ∀ v0 v1 w, (Fact.fr k x).holds v0 w → (Fact.fr l y).holds v1 w → Calls Tryz.prog 21 #[v0, v1] w (Ret (Fact.fr (k + l + 1) (x + y)) w) := by
  intro v0 v1 w hv0 hv1
  have z := Rt.Sz.add (Fact.fr_sz hv0) (Fact.fr_sz hv1)
  exact (z_addm (max k l) x y (by omega) v0 v1 w (Fact.fr_up hv0 (Nat.le_max_left k l)) (Fact.fr_up hv1 (Nat.le_max_right k l))).mono fun _ _ h => h.to fun _ h => Fact.fr_is h z
set_option maxRecDepth 100000 in
theorem z_mulm (m : Nat) (x y : Rat) (hm : 2 * m + 1 ≤ 300) : ∀ v0 v1 w, (Fact.agg (Con.fr m x)).holds v0 w → (Fact.agg (Con.fr m y)).holds v1 w → Calls Tryz.prog 23 #[v0, v1] w (Ret (Fact.fr (m + m) (x * y)) w) := by
  intro v0 v1 w hv0 hv1
  refine sym_calls 27 [(0, Fact.agg (Con.fr m x)), (1, Fact.agg (Con.fr m y))] Tryz.func23 rfl rfl (Nat.le_of_ble_eq_true rfl) (fcs ⟨⟨Nat.le_of_ble_eq_true rfl, hv0⟩, fcs ⟨⟨Nat.le_of_ble_eq_true rfl, hv1⟩, fnl⟩⟩) fun a st => ?_
  have hb := Below.refl w.heap.size w
  refine wp_seq ?_
  refine sym_region st [(2, Fact.var' (Con.fr m x)), (3, Fact.var' (Con.fr m y)), (4, Fact.var' (Con.raw 3))] [2, 3, 4] 3 (by kernel_rfl) (by kernel_rfl) (by kernel_rfl) (Nat.le_of_ble_eq_true rfl) (by kernel_rfl) rfl rfl ?_ ?_
  · refine fcs ⟨obn_box 26 0 2 _ (Con.fr m x) rfl rfl rfl (by kernel_rfl) rfl rfl, ?_⟩
    refine fcs ⟨obn_box 26 1 3 _ (Con.fr m y) rfl rfl rfl (by kernel_rfl) rfl rfl, ?_⟩
    refine fcs ⟨obn_new 26 4 _ [.bool false, .slice none 0 0, .slice none 0 0] rfl rfl rfl rfl rfl alloc26, ?_⟩
    exact fnl
  intro a1 w1 st1 hbr1 hfr
  have hs1 := hbr1.size
  have hb := up hb hbr1
  obtain ⟨b2, c2⟩ := (show (Fact.var' (Con.fr m x)).holds _ _ from st1.at_ 2)
  have g2 := hfr.ge (s := 2) rfl c2.1
  obtain ⟨b3, c3⟩ := (show (Fact.var' (Con.fr m y)).holds _ _ from st1.at_ 3)
  have g3 := hfr.ge (s := 3) rfl c3.1
  obtain ⟨b4, c4⟩ := (show (Fact.var' (Con.raw 3)).holds _ _ from st1.at_ 4)
  have g4 := hfr.ge (s := 4) rfl c4.1
  have ne2_3 := hfr.apart (s := 2) (t := 3) rfl rfl (by decide) c2.1 c3.1
  have ne2_4 := hfr.apart (s := 2) (t := 4) rfl rfl (by decide) c2.1 c4.1
  have ne3_4 := hfr.apart (s := 3) (t := 4) rfl rfl (by decide) c3.1 c4.1
  have st : St 27 [(2, Fact.cell b2 (Con.fr m x)), (3, Fact.cell b3 (Con.fr m y)), (4, Fact.cell b4 (Con.raw 3))] a1 w1 := st1.to (fcs ⟨c2, fcs ⟨c3, fcs ⟨c4, fnl⟩⟩⟩)
  clear st1 hbr1 hfr c2 c3 c4
  refine wpList_nil ?_
  refine then_normal ?_
  refine wp_seq ?_
  refine sym_made st [(8, Fact.low' w1.heap.size (Con.bool (Rt.ng x))), (9, Fact.eq (.bool (Rt.ng x))), (10, Fact.low' w1.heap.size (Con.bool (Rt.ng y))), (11, Fact.eq (.bool (Rt.ng y))), (12, Fact.eq (.bool ((Rt.ng x) != (Rt.ng y)))), (13, Fact.low' w1.heap.size (Con.nn m (Rt.tp x))), (14, Fact.agg (Con.nn m (Rt.tp x))), (15, Fact.low' w1.heap.size (Con.nn m (Rt.tp y))), (16, Fact.agg (Con.nn m (Rt.tp y))), (17, Fact.agg (Con.nn (m + m) ((Rt.tp x) * (Rt.tp y)))), (18, Fact.low' w1.heap.size (Con.nn m (Rat.den x))), (19, Fact.agg (Con.nn m (Rat.den x))), (20, Fact.low' w1.heap.size (Con.nn m (Rat.den y))), (21, Fact.agg (Con.nn m (Rat.den y))), (22, Fact.agg (Con.nn (m + m) ((Rat.den x) * (Rat.den y)))), (23, Fact.two (Fact.agg (Con.fr (m + m) (Rt.of ((Rt.ng x) != (Rt.ng y)) ((Rt.tp x) * (Rt.tp y)) ((Rat.den x) * (Rat.den y))))) (Fact.eq (.int .i64 0))), (7, Fact.two (Fact.agg (Con.fr (m + m) (Rt.of ((Rt.ng x) != (Rt.ng y)) ((Rt.tp x) * (Rt.tp y)) ((Rat.den x) * (Rat.den y))))) (Fact.eq (.int .i64 0))), (24, Fact.agg (Con.fr (m + m) (Rt.of ((Rt.ng x) != (Rt.ng y)) ((Rt.tp x) * (Rt.tp y)) ((Rat.den x) * (Rat.den y))))), (25, Fact.eq (.int .i64 0)), (5, Fact.any), (6, Fact.eq (.int .i64 0))] [⟨5, 20, 24, 26, Con.fr (m + m) (Rt.of ((Rt.ng x) != (Rt.ng y)) ((Rt.tp x) * (Rt.tp y)) ((Rat.den x) * (Rat.den y))), [.bool false, .slice none 0 0, .slice none 0 0]⟩] (by kernel_rfl) (by kernel_rfl) (by kernel_rfl) rfl rfl (fcs ⟨safeG_cell _ (by omega), fcs ⟨safeG_cell _ (by omega), fcs ⟨safeG_cell _ (by omega), fcs ⟨safeG_low _, fcs ⟨safeG_eq _, fcs ⟨safeG_low _, fcs ⟨safeG_eq _, fcs ⟨safeG_eq _, fcs ⟨safeG_low _, fcs ⟨safeG_agg _, fcs ⟨safeG_low _, fcs ⟨safeG_agg _, fcs ⟨safeG_agg _, fcs ⟨safeG_low _, fcs ⟨safeG_agg _, fcs ⟨safeG_low _, fcs ⟨safeG_agg _, fcs ⟨safeG_agg _, fcs ⟨safeG_two (safeG_agg _) (safeG_eq _), fcs ⟨safeG_two (safeG_agg _) (safeG_eq _), fcs ⟨safeG_agg _, fcs ⟨safeG_eq _, fcs ⟨safeG_any, fcs ⟨safeG_eq _, fnl⟩⟩⟩⟩⟩⟩⟩⟩⟩⟩⟩⟩⟩⟩⟩⟩⟩⟩⟩⟩⟩⟩⟩⟩) ?_ ?_
  · refine fcs ⟨.plain (ob_addrlow _ 26 0 2 8 0 b2 (Con.fr m x) (Con.bool (Rt.ng x)) (by omega) rfl rfl (.inl rfl) (by kernel_rfl) rfl rfl (Con.fr_ng m x) field26_0) rfl, ?_⟩
    refine fcs ⟨.plain (ob_readb 8 9 (Rt.ng x) (Rt.ng x) rfl rfl rfl (.inl rfl) (by kernel_rfl) points_low rfl) rfl, ?_⟩
    refine fcs ⟨.plain (ob_addrlow _ 26 0 3 10 0 b3 (Con.fr m y) (Con.bool (Rt.ng y)) (by omega) rfl rfl (.inl rfl) (by kernel_rfl) rfl rfl (Con.fr_ng m y) field26_0) rfl, ?_⟩
    refine fcs ⟨.plain (ob_readb 10 11 (Rt.ng y) (Rt.ng y) rfl rfl rfl (.inl rfl) (by kernel_rfl) points_low rfl) rfl, ?_⟩
    refine fcs ⟨.plain (ob_neb 9 11 12 (Rt.ng x) (Rt.ng y) ((Rt.ng x) != (Rt.ng y)) rfl rfl rfl (.inl rfl) (by kernel_rfl) (by kernel_rfl) rfl rfl rfl) rfl, ?_⟩
    refine fcs ⟨.plain (ob_addrlow _ 26 1 2 13 1 b2 (Con.fr m x) (Con.nn m (Rt.tp x)) (by omega) rfl rfl (.inl rfl) (by kernel_rfl) rfl rfl (Con.fr_tp m x) field26_1) rfl, ?_⟩
    refine fcs ⟨.plain (ob_read 24 13 14 (Con.nn m (Rt.tp x)) rfl rfl (.inl rfl) (by kernel_rfl) points_low rfl row24 info24) rfl, ?_⟩
    refine fcs ⟨.plain (ob_addrlow _ 26 1 3 15 1 b3 (Con.fr m y) (Con.nn m (Rt.tp y)) (by omega) rfl rfl (.inl rfl) (by kernel_rfl) rfl rfl (Con.fr_tp m y) field26_1) rfl, ?_⟩
    refine fcs ⟨.plain (ob_read 24 15 16 (Con.nn m (Rt.tp y)) rfl rfl (.inl rfl) (by kernel_rfl) points_low rfl row24 info24) rfl, ?_⟩
    refine fcs ⟨.plain (ob_call2 54 14 16 17 _ rfl rfl (.inl rfl) (by kernel_rfl) (by kernel_rfl) (by kernel_rfl) (r_mul m m (Rt.tp x) (Rt.tp y) (by omega))) rfl, ?_⟩
    refine fcs ⟨.plain (ob_addrlow _ 26 2 2 18 2 b2 (Con.fr m x) (Con.nn m (Rat.den x)) (by omega) rfl rfl (.inl rfl) (by kernel_rfl) rfl rfl (Con.fr_den m x) field26_2) rfl, ?_⟩
    refine fcs ⟨.plain (ob_read 24 18 19 (Con.nn m (Rat.den x)) rfl rfl (.inl rfl) (by kernel_rfl) points_low rfl row24 info24) rfl, ?_⟩
    refine fcs ⟨.plain (ob_addrlow _ 26 2 3 20 2 b3 (Con.fr m y) (Con.nn m (Rat.den y)) (by omega) rfl rfl (.inl rfl) (by kernel_rfl) rfl rfl (Con.fr_den m y) field26_2) rfl, ?_⟩
    refine fcs ⟨.plain (ob_read 24 20 21 (Con.nn m (Rat.den y)) rfl rfl (.inl rfl) (by kernel_rfl) points_low rfl row24 info24) rfl, ?_⟩
    refine fcs ⟨.plain (ob_call2 54 19 21 22 _ rfl rfl (.inl rfl) (by kernel_rfl) (by kernel_rfl) (by kernel_rfl) (r_mul m m (Rat.den x) (Rat.den y) (by omega))) rfl, ?_⟩
    refine fcs ⟨.plain (ob_call3 53 12 17 22 23 _ rfl rfl (.inl rfl) (by kernel_rfl) (by kernel_rfl) (by kernel_rfl) (by kernel_rfl) (z_make (m + m) (m + m) (m + m) ((Rt.ng x) != (Rt.ng y)) ((Rt.tp x) * (Rt.tp y)) ((Rat.den x) * (Rat.den y)) (Rt.den_mul_ne x y) (by omega) (by omega) (by omega))) rfl, ?_⟩
    refine fcs ⟨.plain (ob_copy 23 7 (.inl rfl) rfl (.inl rfl) (by kernel_rfl) rfl) rfl, ?_⟩
    refine fcs ⟨.plain (ob_fst 7 24 (Fact.agg (Con.fr (m + m) (Rt.of ((Rt.ng x) != (Rt.ng y)) ((Rt.tp x) * (Rt.tp y)) ((Rat.den x) * (Rat.den y))))) (Fact.eq (.int .i64 0)) rfl rfl (.inl rfl) (by kernel_rfl) rfl rfl) rfl, ?_⟩
    refine fcs ⟨.plain (ob_snd 7 25 (Fact.agg (Con.fr (m + m) (Rt.of ((Rt.ng x) != (Rt.ng y)) ((Rt.tp x) * (Rt.tp y)) ((Rat.den x) * (Rat.den y))))) (Fact.eq (.int .i64 0)) rfl rfl (.inl rfl) (by kernel_rfl) rfl rfl) rfl, ?_⟩
    refine fcs ⟨.alloc _ (List.mem_of_getElem? (i := 0) rfl) rfl rfl rfl rfl rfl rfl alloc26, ?_⟩
    refine fcs ⟨.store _ (List.mem_of_getElem? (i := 0) rfl) rfl rfl rfl rfl (by kernel_rfl) (by kernel_rfl) rfl info26 rfl (fcs ⟨fun _ => rfl, fnl⟩), ?_⟩
    refine fcs ⟨.plain (ob_copy 25 6 (.inr rfl) rfl (.inl rfl) (by kernel_rfl) rfl) rfl, ?_⟩
    exact fnl
  intro a2 w2 st2 hbr2 hpp hap
  have hs2 := hbr2.size
  have hb := up hb hbr2
  obtain ⟨b5, c5, g5, l5⟩ := hpp _ (List.mem_of_getElem? (i := 0) rfl)
  have st : St 27 [(4, Fact.cell b4 (Con.raw 3)), (5, Fact.cell b5 (Con.fr (m + m) (Rt.of ((Rt.ng x) != (Rt.ng y)) ((Rt.tp x) * (Rt.tp y)) ((Rat.den x) * (Rat.den y)))))] a2 w2 := st2.to (fcs ⟨st2.at_ 4, fcs ⟨c5, fnl⟩⟩)
  clear st2 hbr2 hpp hap c5
  refine then_normal ?_
  refine wp_seq ?_
  refine sym_region st [(26, Fact.agg (Con.fr (m + m) (Rt.of ((Rt.ng x) != (Rt.ng y)) ((Rt.tp x) * (Rt.tp y)) ((Rat.den x) * (Rat.den y)))))] [] 1 (by kernel_rfl) (by kernel_rfl) (by kernel_rfl) (Nat.le_of_ble_eq_true rfl) (by kernel_rfl) rfl rfl ?_ ?_
  · refine fcs ⟨Ob.new_ (ob_read 26 5 26 (Con.fr (m + m) (Rt.of ((Rt.ng x) != (Rt.ng y)) ((Rt.tp x) * (Rt.tp y)) ((Rat.den x) * (Rat.den y)))) rfl rfl (.inl rfl) (by kernel_rfl) points_cell rfl row26 info26) (by kernel_rfl), ?_⟩
    exact fnl
  intro a3 w3 st3 hbr3 hfr
  have hs3 := hbr3.size
  have hb := up hb hbr3
  have st : St 27 [(4, Fact.cell b4 (Con.raw 3)), (26, Fact.agg (Con.fr (m + m) (Rt.of ((Rt.ng x) != (Rt.ng y)) ((Rt.tp x) * (Rt.tp y)) ((Rat.den x) * (Rat.den y)))))] a3 w3 := st3.to (fcs ⟨st3.at_ 4, fcs ⟨st3.at_ 26, fnl⟩⟩)
  clear st3 hbr3 hfr
  refine sym_store st 26 4 26 b4 (Con.raw 3) (Con.fr (m + m) (Rt.of ((Rt.ng x) != (Rt.ng y)) ((Rt.tp x) * (Rt.tp y)) ((Rat.den x) * (Rat.den y)))) [(4, Fact.cell b4 (Con.fr (m + m) (Rt.of ((Rt.ng x) != (Rt.ng y)) ((Rt.tp x) * (Rt.tp y)) ((Rat.den x) * (Rat.den y)))))] rfl rfl rfl rfl rfl rfl info26 ?_ ?_
  · exact fcs ⟨.inl rfl, fnl⟩
  clear st; intro w4 hB hsz4 st
  have hb := hB _ _ hb (by omega) (by omega)
  clear hB
  refine wpList_nil ?_
  refine then_normal ?_
  refine wp_ret ?_
  exact sym_ret1 rfl st.defers (resAt_cell st 4 b4 26 (Con.fr (m + m) (Rt.of ((Rt.ng x) != (Rt.ng y)) ((Rt.tp x) * (Rt.tp y)) ((Rat.den x) * (Rat.den y)))) rfl row26 info26) hb (fun v h => by rw [Rt.mul_eq]; exact Fact.fr_up h (by omega))
theorem z_mul (k l : Nat) (x y : Rat) (hk : 2 * max k l + 1 ≤ 300) : ∀ v0 v1 w, (Fact.fr k x).holds v0 w → (Fact.fr l y).holds v1 w → Calls Tryz.prog 23 #[v0, v1] w (Ret (Fact.fr (k + l) (x * y)) w) := by
  intro v0 v1 w hv0 hv1
  have z := Rt.Sz.mul (Fact.fr_sz hv0) (Fact.fr_sz hv1)
  exact (z_mulm (max k l) x y (by omega) v0 v1 w (Fact.fr_up hv0 (Nat.le_max_left k l)) (Fact.fr_up hv1 (Nat.le_max_right k l))).mono fun _ _ h => h.to fun _ h => Fact.fr_is h z
set_option maxRecDepth 100000 in
theorem z_sub (k l : Nat) (x y : Rat) (hk : 2 * max k l + 1 ≤ 300) : ∀ v0 v1 w, (Fact.agg (Con.fr k x)).holds v0 w → (Fact.agg (Con.fr l y)).holds v1 w → Calls Tryz.prog 22 #[v0, v1] w (Ret (Fact.fr (k + l + 1) (x - y)) w) := by
  intro v0 v1 w hv0 hv1
  refine sym_calls 9 [(0, Fact.agg (Con.fr k x)), (1, Fact.agg (Con.fr l y))] Tryz.func22 rfl rfl (Nat.le_of_ble_eq_true rfl) (fcs ⟨⟨Nat.le_of_ble_eq_true rfl, hv0⟩, fcs ⟨⟨Nat.le_of_ble_eq_true rfl, hv1⟩, fnl⟩⟩) fun a st => ?_
  have hb := Below.refl w.heap.size w
  refine wp_seq ?_
  refine sym_region st [(2, Fact.var' (Con.fr k x)), (3, Fact.var' (Con.fr l y)), (4, Fact.var' (Con.raw 3))] [2, 3, 4] 3 (by kernel_rfl) (by kernel_rfl) (by kernel_rfl) (Nat.le_of_ble_eq_true rfl) (by kernel_rfl) rfl rfl ?_ ?_
  · refine fcs ⟨obn_box 26 0 2 _ (Con.fr k x) rfl rfl rfl (by kernel_rfl) rfl rfl, ?_⟩
    refine fcs ⟨obn_box 26 1 3 _ (Con.fr l y) rfl rfl rfl (by kernel_rfl) rfl rfl, ?_⟩
    refine fcs ⟨obn_new 26 4 _ [.bool false, .slice none 0 0, .slice none 0 0] rfl rfl rfl rfl rfl alloc26, ?_⟩
    exact fnl
  intro a1 w1 st1 hbr1 hfr
  have hs1 := hbr1.size
  have hb := up hb hbr1
  obtain ⟨b2, c2⟩ := (show (Fact.var' (Con.fr k x)).holds _ _ from st1.at_ 2)
  have g2 := hfr.ge (s := 2) rfl c2.1
  obtain ⟨b3, c3⟩ := (show (Fact.var' (Con.fr l y)).holds _ _ from st1.at_ 3)
  have g3 := hfr.ge (s := 3) rfl c3.1
  obtain ⟨b4, c4⟩ := (show (Fact.var' (Con.raw 3)).holds _ _ from st1.at_ 4)
  have g4 := hfr.ge (s := 4) rfl c4.1
  have ne2_3 := hfr.apart (s := 2) (t := 3) rfl rfl (by decide) c2.1 c3.1
  have ne2_4 := hfr.apart (s := 2) (t := 4) rfl rfl (by decide) c2.1 c4.1
  have ne3_4 := hfr.apart (s := 3) (t := 4) rfl rfl (by decide) c3.1 c4.1
  have st : St 9 [(2, Fact.cell b2 (Con.fr k x)), (3, Fact.cell b3 (Con.fr l y)), (4, Fact.cell b4 (Con.raw 3))] a1 w1 := st1.to (fcs ⟨c2, fcs ⟨c3, fcs ⟨c4, fnl⟩⟩⟩)
  clear st1 hbr1 hfr c2 c3 c4
  refine wpList_nil ?_
  refine then_normal ?_
  refine wp_seq ?_
  refine sym_region st [(5, Fact.agg (Con.fr k x)), (6, Fact.agg (Con.fr l y)), (7, Fact.agg (Con.fr l (-y))), (8, Fact.agg (Con.fr ((k + l) + 1) (x + (-y))))] [] 4 (by kernel_rfl) (by kernel_rfl) (by kernel_rfl) (Nat.le_of_ble_eq_true rfl) (by kernel_rfl) rfl rfl ?_ ?_
  · refine fcs ⟨Ob.new_ (ob_read 26 2 5 (Con.fr k x) rfl rfl (.inl rfl) (by kernel_rfl) points_cell rfl row26 info26) (by kernel_rfl), ?_⟩
    refine fcs ⟨Ob.new_ (ob_read 26 3 6 (Con.fr l y) rfl rfl (.inl rfl) (by kernel_rfl) points_cell rfl row26 info26) (by kernel_rfl), ?_⟩
    refine fcs ⟨Ob.new_ (ob_call1 24 6 7 _ rfl rfl (.inl rfl) (by kernel_rfl) (by kernel_rfl) (z_neg l y)) (by kernel_rfl), ?_⟩
    refine fcs ⟨Ob.new_ (ob_call2 21 5 7 8 _ rfl rfl (.inl rfl) (by kernel_rfl) (by kernel_rfl) (by kernel_rfl) (z_add k l x (-y) (by omega))) (by kernel_rfl), ?_⟩
    exact fnl
  intro a2 w2 st2 hbr2 hfr
  have hs2 := hbr2.size
  have hb := up hb hbr2
  have st : St 9 [(4, Fact.cell b4 (Con.raw 3)), (8, Fact.agg (Con.fr ((k + l) + 1) (x + (-y))))] a2 w2 := st2.to (fcs ⟨st2.at_ 4, fcs ⟨st2.at_ 8, fnl⟩⟩)
  clear st2 hbr2 hfr
  refine sym_store st 26 4 8 b4 (Con.raw 3) (Con.fr ((k + l) + 1) (x + (-y))) [(4, Fact.cell b4 (Con.fr ((k + l) + 1) (x + (-y))))] rfl rfl rfl rfl rfl rfl info26 ?_ ?_
  · exact fcs ⟨.inl rfl, fnl⟩
  clear st; intro w3 hB hsz3 st
  have hb := hB _ _ hb (by omega) (by omega)
  clear hB
  refine wpList_nil ?_
  refine then_normal ?_
  refine wp_ret ?_
  exact sym_ret1 rfl st.defers (resAt_cell st 4 b4 26 (Con.fr ((k + l) + 1) (x + (-y))) rfl row26 info26) hb (fun v h => by rw [Rat.sub_eq_add_neg]; exact h)
set_option maxRecDepth 100000 in
theorem z_divm (m : Nat) (x y : Rat) (hy : y ≠ 0) (hm : 2 * m + 1 ≤ 300) : ∀ v0 v1 w, (Fact.agg (Con.fr m x)).holds v0 w → (Fact.agg (Con.fr m y)).holds v1 w → Calls Tryz.prog 20 #[v0, v1] w (Ret (Fact.two (Fact.fr (m + m) (x / y)) (Fact.eq (.int .i64 0))) w) := by
  intro v0 v1 w hv0 hv1
  refine sym_calls 24 [(0, Fact.agg (Con.fr m x)), (1, Fact.agg (Con.fr m y))] Tryz.func20 rfl rfl (Nat.le_of_ble_eq_true rfl) (fcs ⟨⟨Nat.le_of_ble_eq_true rfl, hv0⟩, fcs ⟨⟨Nat.le_of_ble_eq_true rfl, hv1⟩, fnl⟩⟩) fun a st => ?_
  have hb := Below.refl w.heap.size w
  refine wp_seq ?_
  refine sym_region st [(2, Fact.var' (Con.fr m x)), (3, Fact.var' (Con.fr m y)), (4, Fact.var' (Con.raw 3)), (5, Fact.eq (.int .i64 0))] [2, 3, 4] 4 (by kernel_rfl) (by kernel_rfl) (by kernel_rfl) (Nat.le_of_ble_eq_true rfl) (by kernel_rfl) rfl rfl ?_ ?_
  · refine fcs ⟨obn_box 26 0 2 _ (Con.fr m x) rfl rfl rfl (by kernel_rfl) rfl rfl, ?_⟩
    refine fcs ⟨obn_box 26 1 3 _ (Con.fr m y) rfl rfl rfl (by kernel_rfl) rfl rfl, ?_⟩
    refine fcs ⟨obn_new 26 4 _ [.bool false, .slice none 0 0, .slice none 0 0] rfl rfl rfl rfl rfl alloc26, ?_⟩
    refine fcs ⟨Ob.new_ (ob_const (.int .i64 0) 5 (.inr rfl) rfl (.inl rfl) rfl) (by kernel_rfl), ?_⟩
    exact fnl
  intro a1 w1 st1 hbr1 hfr
  have hs1 := hbr1.size
  have hb := up hb hbr1
  obtain ⟨b2, c2⟩ := (show (Fact.var' (Con.fr m x)).holds _ _ from st1.at_ 2)
  have g2 := hfr.ge (s := 2) rfl c2.1
  obtain ⟨b3, c3⟩ := (show (Fact.var' (Con.fr m y)).holds _ _ from st1.at_ 3)
  have g3 := hfr.ge (s := 3) rfl c3.1
  obtain ⟨b4, c4⟩ := (show (Fact.var' (Con.raw 3)).holds _ _ from st1.at_ 4)
  have g4 := hfr.ge (s := 4) rfl c4.1
  have ne2_3 := hfr.apart (s := 2) (t := 3) rfl rfl (by decide) c2.1 c3.1
  have ne2_4 := hfr.apart (s := 2) (t := 4) rfl rfl (by decide) c2.1 c4.1
  have ne3_4 := hfr.apart (s := 3) (t := 4) rfl rfl (by decide) c3.1 c4.1
  have st : St 24 [(2, Fact.cell b2 (Con.fr m x)), (3, Fact.cell b3 (Con.fr m y)), (4, Fact.cell b4 (Con.raw 3)), (5, Fact.eq (.int .i64 0))] a1 w1 := st1.to (fcs ⟨c2, fcs ⟨c3, fcs ⟨c4, fcs ⟨st1.at_ 5, fnl⟩⟩⟩⟩)
  clear st1 hbr1 hfr c2 c3 c4
  refine wpList_nil ?_
  refine then_normal ?_
  refine wp_seq ?_
  have st := st.to (ks' := [(2, Fact.cell b2 (Con.fr m x)), (3, Fact.cell b3 (Con.fr m y)), (4, Fact.cell b4 (Con.raw 3))]) (fcs ⟨st.at_ 2, fcs ⟨st.at_ 3, fcs ⟨st.at_ 4, fnl⟩⟩⟩)
  refine sym_region st [(6, Fact.ptr (Con.bool (Rt.ng x))), (7, Fact.eq (.bool (Rt.ng x))), (8, Fact.ptr (Con.bool (Rt.ng y))), (9, Fact.eq (.bool (Rt.ng y))), (10, Fact.eq (.bool ((Rt.ng x) != (Rt.ng y)))), (11, Fact.ptr (Con.nn m (Rt.tp x))), (12, Fact.agg (Con.nn m (Rt.tp x))), (13, Fact.ptr (Con.nn m (Rat.den y))), (14, Fact.agg (Con.nn m (Rat.den y))), (15, Fact.agg (Con.nn (m + m) ((Rt.tp x) * (Rat.den y)))), (16, Fact.ptr (Con.nn m (Rat.den x))), (17, Fact.agg (Con.nn m (Rat.den x))), (18, Fact.ptr (Con.nn m (Rt.tp y))), (19, Fact.agg (Con.nn m (Rt.tp y))), (20, Fact.agg (Con.nn (m + m) ((Rat.den x) * (Rt.tp y)))), (21, Fact.two (Fact.agg (Con.fr (m + m) (Rt.of ((Rt.ng x) != (Rt.ng y)) ((Rt.tp x) * (Rat.den y)) ((Rat.den x) * (Rt.tp y))))) (Fact.eq (.int .i64 0))), (22, Fact.agg (Con.fr (m + m) (Rt.of ((Rt.ng x) != (Rt.ng y)) ((Rt.tp x) * (Rat.den y)) ((Rat.den x) * (Rt.tp y))))), (23, Fact.eq (.int .i64 0))] [] 18 (by kernel_rfl) (by kernel_rfl) (by kernel_rfl) (Nat.le_of_ble_eq_true rfl) (by kernel_rfl) rfl rfl ?_ ?_
  · refine fcs ⟨Ob.new_ (ob_addr 26 0 2 6 0 (Con.fr m x) (Con.bool (Rt.ng x)) rfl rfl (.inl rfl) (by kernel_rfl) points_cell rfl (Con.fr_ng m x) field26_0) (by kernel_rfl), ?_⟩
    refine fcs ⟨Ob.new_ (ob_readb 6 7 (Rt.ng x) (Rt.ng x) rfl rfl rfl (.inl rfl) (by kernel_rfl) points_ptr rfl) (by kernel_rfl), ?_⟩
    refine fcs ⟨Ob.new_ (ob_addr 26 0 3 8 0 (Con.fr m y) (Con.bool (Rt.ng y)) rfl rfl (.inl rfl) (by kernel_rfl) points_cell rfl (Con.fr_ng m y) field26_0) (by kernel_rfl), ?_⟩
    refine fcs ⟨Ob.new_ (ob_readb 8 9 (Rt.ng y) (Rt.ng y) rfl rfl rfl (.inl rfl) (by kernel_rfl) points_ptr rfl) (by kernel_rfl), ?_⟩
    refine fcs ⟨Ob.new_ (ob_neb 7 9 10 (Rt.ng x) (Rt.ng y) ((Rt.ng x) != (Rt.ng y)) rfl rfl rfl (.inl rfl) (by kernel_rfl) (by kernel_rfl) rfl rfl rfl) (by kernel_rfl), ?_⟩
    refine fcs ⟨Ob.new_ (ob_addr 26 1 2 11 1 (Con.fr m x) (Con.nn m (Rt.tp x)) rfl rfl (.inl rfl) (by kernel_rfl) points_cell rfl (Con.fr_tp m x) field26_1) (by kernel_rfl), ?_⟩
    refine fcs ⟨Ob.new_ (ob_read 24 11 12 (Con.nn m (Rt.tp x)) rfl rfl (.inl rfl) (by kernel_rfl) points_ptr rfl row24 info24) (by kernel_rfl), ?_⟩
    refine fcs ⟨Ob.new_ (ob_addr 26 2 3 13 2 (Con.fr m y) (Con.nn m (Rat.den y)) rfl rfl (.inl rfl) (by kernel_rfl) points_cell rfl (Con.fr_den m y) field26_2) (by kernel_rfl), ?_⟩
    refine fcs ⟨Ob.new_ (ob_read 24 13 14 (Con.nn m (Rat.den y)) rfl rfl (.inl rfl) (by kernel_rfl) points_ptr rfl row24 info24) (by kernel_rfl), ?_⟩
    refine fcs ⟨Ob.new_ (ob_call2 54 12 14 15 _ rfl rfl (.inl rfl) (by kernel_rfl) (by kernel_rfl) (by kernel_rfl) (r_mul m m (Rt.tp x) (Rat.den y) (by omega))) (by kernel_rfl), ?_⟩
    refine fcs ⟨Ob.new_ (ob_addr 26 2 2 16 2 (Con.fr m x) (Con.nn m (Rat.den x)) rfl rfl (.inl rfl) (by kernel_rfl) points_cell rfl (Con.fr_den m x) field26_2) (by kernel_rfl), ?_⟩
    refine fcs ⟨Ob.new_ (ob_read 24 16 17 (Con.nn m (Rat.den x)) rfl rfl (.inl rfl) (by kernel_rfl) points_ptr rfl row24 info24) (by kernel_rfl), ?_⟩
    refine fcs ⟨Ob.new_ (ob_addr 26 1 3 18 1 (Con.fr m y) (Con.nn m (Rt.tp y)) rfl rfl (.inl rfl) (by kernel_rfl) points_cell rfl (Con.fr_tp m y) field26_1) (by kernel_rfl), ?_⟩
    refine fcs ⟨Ob.new_ (ob_read 24 18 19 (Con.nn m (Rt.tp y)) rfl rfl (.inl rfl) (by kernel_rfl) points_ptr rfl row24 info24) (by kernel_rfl), ?_⟩
    refine fcs ⟨Ob.new_ (ob_call2 54 17 19 20 _ rfl rfl (.inl rfl) (by kernel_rfl) (by kernel_rfl) (by kernel_rfl) (r_mul m m (Rat.den x) (Rt.tp y) (by omega))) (by kernel_rfl), ?_⟩
    refine fcs ⟨Ob.new_ (ob_call3 53 10 15 20 21 _ rfl rfl (.inl rfl) (by kernel_rfl) (by kernel_rfl) (by kernel_rfl) (by kernel_rfl) (z_make (m + m) (m + m) (m + m) ((Rt.ng x) != (Rt.ng y)) ((Rt.tp x) * (Rat.den y)) ((Rat.den x) * (Rt.tp y)) (Rt.den_tp_ne hy) (by omega) (by omega) (by omega))) (by kernel_rfl), ?_⟩
    refine fcs ⟨Ob.new_ (ob_fst 21 22 (Fact.agg (Con.fr (m + m) (Rt.of ((Rt.ng x) != (Rt.ng y)) ((Rt.tp x) * (Rat.den y)) ((Rat.den x) * (Rt.tp y))))) (Fact.eq (.int .i64 0)) rfl rfl (.inl rfl) (by kernel_rfl) rfl rfl) (by kernel_rfl), ?_⟩
    refine fcs ⟨Ob.new_ (ob_snd 21 23 (Fact.agg (Con.fr (m + m) (Rt.of ((Rt.ng x) != (Rt.ng y)) ((Rt.tp x) * (Rat.den y)) ((Rat.den x) * (Rt.tp y))))) (Fact.eq (.int .i64 0)) rfl rfl (.inl rfl) (by kernel_rfl) rfl rfl) (by kernel_rfl), ?_⟩
    exact fnl
  intro a2 w2 st2 hbr2 hfr
  have hs2 := hbr2.size
  have hb := up hb hbr2
  have st : St 24 [(4, Fact.cell b4 (Con.raw 3)), (22, Fact.agg (Con.fr (m + m) (Rt.of ((Rt.ng x) != (Rt.ng y)) ((Rt.tp x) * (Rat.den y)) ((Rat.den x) * (Rt.tp y))))), (23, Fact.eq (.int .i64 0))] a2 w2 := st2.to (fcs ⟨st2.at_ 4, fcs ⟨st2.at_ 22, fcs ⟨st2.at_ 23, fnl⟩⟩⟩)
  clear st2 hbr2 hfr
  refine sym_store st 26 4 22 b4 (Con.raw 3) (Con.fr (m + m) (Rt.of ((Rt.ng x) != (Rt.ng y)) ((Rt.tp x) * (Rat.den y)) ((Rat.den x) * (Rt.tp y)))) [(4, Fact.cell b4 (Con.fr (m + m) (Rt.of ((Rt.ng x) != (Rt.ng y)) ((Rt.tp x) * (Rat.den y)) ((Rat.den x) * (Rt.tp y))))), (23, Fact.eq (.int .i64 0))] rfl rfl rfl rfl rfl rfl info26 ?_ ?_
  · exact fcs ⟨.inl rfl, fcs ⟨.inr ⟨rfl, safe_eq _ _⟩, fnl⟩⟩
  clear st; intro w3 hB hsz3 st
  have hb := hB _ _ hb (by omega) (by omega)
  clear hB
  refine sym_op st 5 (Fact.eq (.int .i64 0)) rfl (Nat.le_of_ble_eq_true rfl) rfl rfl (by kernel_rfl) (ob_copy 23 5 (.inr rfl) rfl (.inl rfl) (by kernel_rfl) rfl) ?_
  clear st; intro a4 w4 hbr st; have hs4 := hbr.size; have hb := up hb hbr; clear hbr
  refine wpList_nil ?_
  refine then_normal ?_
  refine wp_ret ?_
  exact sym_ret2 rfl st.defers (resAt_cell st 4 b4 26 (Con.fr (m + m) (Rt.of ((Rt.ng x) != (Rt.ng y)) ((Rt.tp x) * (Rat.den y)) ((Rat.den x) * (Rt.tp y)))) rfl row26 info26) (resAt_tmp st 5) hb (fun v u h1 h2 => ⟨v, u, rfl, by rw [Rt.div_eq hy]; exact Fact.fr_up h1 (by omega), h2⟩)
theorem z_div (k l : Nat) (x y : Rat) (hy : y ≠ 0) (hk : 2 * max k l + 1 ≤ 300) : ∀ v0 v1 w, (Fact.fr k x).holds v0 w → (Fact.fr l y).holds v1 w → Calls Tryz.prog 20 #[v0, v1] w (Ret (Fact.two (Fact.fr (k + l) (x / y)) (Fact.eq (.int .i64 0))) w) := by
  intro v0 v1 w hv0 hv1
  have z := Rt.Sz.div hy (Fact.fr_sz hv0) (Fact.fr_sz hv1)
  exact (z_divm (max k l) x y hy (by omega) v0 v1 w (Fact.fr_up hv0 (Nat.le_max_left k l)) (Fact.fr_up hv1 (Nat.le_max_right k l))).mono fun _ _ h => h.to fun _ ⟨a, b, h, h1, h2⟩ => ⟨a, b, h, Fact.fr_is h1 z, h2⟩
set_option maxRecDepth 100000 in
theorem z_div0 (k l : Nat) (x y : Rat) (hy : y = 0) (hk : 2 * max k l + 1 ≤ 300) : ∀ v0 v1 w, (Fact.agg (Con.fr k x)).holds v0 w → (Fact.agg (Con.fr l y)).holds v1 w → Calls Tryz.prog 20 #[v0, v1] w (Ret (Fact.two (Fact.agg (Con.tri 1 1 false 0 0)) (Fact.eq (.int .i64 8))) w) := by
  intro v0 v1 w hv0 hv1
  have hz : x.den * Rt.tp y = 0 := by rw [Rt.tp_zero.2 hy, Nat.mul_zero]
  refine sym_calls 24 [(0, Fact.agg (Con.fr k x)), (1, Fact.agg (Con.fr l y))] Tryz.func20 rfl rfl (Nat.le_of_ble_eq_true rfl) (fcs ⟨⟨Nat.le_of_ble_eq_true rfl, hv0⟩, fcs ⟨⟨Nat.le_of_ble_eq_true rfl, hv1⟩, fnl⟩⟩) fun a st => ?_
  have hb := Below.refl w.heap.size w
  refine wp_seq ?_
  refine sym_region st [(2, Fact.var' (Con.fr k x)), (3, Fact.var' (Con.fr l y)), (4, Fact.var' (Con.raw 3)), (5, Fact.eq (.int .i64 0))] [2, 3, 4] 4 (by kernel_rfl) (by kernel_rfl) (by kernel_rfl) (Nat.le_of_ble_eq_true rfl) (by kernel_rfl) rfl rfl ?_ ?_
  · refine fcs ⟨obn_box 26 0 2 _ (Con.fr k x) rfl rfl rfl (by kernel_rfl) rfl rfl, ?_⟩
    refine fcs ⟨obn_box 26 1 3 _ (Con.fr l y) rfl rfl rfl (by kernel_rfl) rfl rfl, ?_⟩
    refine fcs ⟨obn_new 26 4 _ [.bool false, .slice none 0 0, .slice none 0 0] rfl rfl rfl rfl rfl alloc26, ?_⟩
    refine fcs ⟨Ob.new_ (ob_const (.int .i64 0) 5 (.inr rfl) rfl (.inl rfl) rfl) (by kernel_rfl), ?_⟩
    exact fnl
  intro a1 w1 st1 hbr1 hfr
  have hs1 := hbr1.size
  have hb := up hb hbr1
  obtain ⟨b2, c2⟩ := (show (Fact.var' (Con.fr k x)).holds _ _ from st1.at_ 2)
  have g2 := hfr.ge (s := 2) rfl c2.1
  obtain ⟨b3, c3⟩ := (show (Fact.var' (Con.fr l y)).holds _ _ from st1.at_ 3)
  have g3 := hfr.ge (s := 3) rfl c3.1
  obtain ⟨b4, c4⟩ := (show (Fact.var' (Con.raw 3)).holds _ _ from st1.at_ 4)
  have g4 := hfr.ge (s := 4) rfl c4.1
  have ne2_3 := hfr.apart (s := 2) (t := 3) rfl rfl (by decide) c2.1 c3.1
  have ne2_4 := hfr.apart (s := 2) (t := 4) rfl rfl (by decide) c2.1 c4.1
  have ne3_4 := hfr.apart (s := 3) (t := 4) rfl rfl (by decide) c3.1 c4.1
  have st : St 24 [(2, Fact.cell b2 (Con.fr k x)), (3, Fact.cell b3 (Con.fr l y)), (4, Fact.cell b4 (Con.raw 3)), (5, Fact.eq (.int .i64 0))] a1 w1 := st1.to (fcs ⟨c2, fcs ⟨c3, fcs ⟨c4, fcs ⟨st1.at_ 5, fnl⟩⟩⟩⟩)
  clear st1 hbr1 hfr c2 c3 c4
  refine wpList_nil ?_
  refine then_normal ?_
  refine wp_seq ?_
  have st := st.to (ks' := [(2, Fact.cell b2 (Con.fr k x)), (3, Fact.cell b3 (Con.fr l y)), (4, Fact.cell b4 (Con.raw 3))]) (fcs ⟨st.at_ 2, fcs ⟨st.at_ 3, fcs ⟨st.at_ 4, fnl⟩⟩⟩)
  refine sym_region st [(6, Fact.ptr (Con.bool (Rt.ng x))), (7, Fact.eq (.bool (Rt.ng x))), (8, Fact.ptr (Con.bool (Rt.ng y))), (9, Fact.eq (.bool (Rt.ng y))), (10, Fact.eq (.bool ((Rt.ng x) != (Rt.ng y)))), (11, Fact.ptr (Con.nn k (Rt.tp x))), (12, Fact.agg (Con.nn k (Rt.tp x))), (13, Fact.ptr (Con.nn l (Rat.den y))), (14, Fact.agg (Con.nn l (Rat.den y))), (15, Fact.agg (Con.nn (k + l) ((Rt.tp x) * (Rat.den y)))), (16, Fact.ptr (Con.nn k (Rat.den x))), (17, Fact.agg (Con.nn k (Rat.den x))), (18, Fact.ptr (Con.nn l (Rt.tp y))), (19, Fact.agg (Con.nn l (Rt.tp y))), (20, Fact.agg (Con.nn (k + l) ((Rat.den x) * (Rt.tp y)))), (21, Fact.two (Fact.agg (Con.tri 1 1 false 0 0)) (Fact.eq (.int .i64 8))), (22, Fact.agg (Con.tri 1 1 false 0 0)), (23, Fact.eq (.int .i64 8))] [] 18 (by kernel_rfl) (by kernel_rfl) (by kernel_rfl) (Nat.le_of_ble_eq_true rfl) (by kernel_rfl) rfl rfl ?_ ?_
  · refine fcs ⟨Ob.new_ (ob_addr 26 0 2 6 0 (Con.fr k x) (Con.bool (Rt.ng x)) rfl rfl (.inl rfl) (by kernel_rfl) points_cell rfl (Con.fr_ng k x) field26_0) (by kernel_rfl), ?_⟩
    refine fcs ⟨Ob.new_ (ob_readb 6 7 (Rt.ng x) (Rt.ng x) rfl rfl rfl (.inl rfl) (by kernel_rfl) points_ptr rfl) (by kernel_rfl), ?_⟩
    refine fcs ⟨Ob.new_ (ob_addr 26 0 3 8 0 (Con.fr l y) (Con.bool (Rt.ng y)) rfl rfl (.inl rfl) (by kernel_rfl) points_cell rfl (Con.fr_ng l y) field26_0) (by kernel_rfl), ?_⟩
    refine fcs ⟨Ob.new_ (ob_readb 8 9 (Rt.ng y) (Rt.ng y) rfl rfl rfl (.inl rfl) (by kernel_rfl) points_ptr rfl) (by kernel_rfl), ?_⟩
    refine fcs ⟨Ob.new_ (ob_neb 7 9 10 (Rt.ng x) (Rt.ng y) ((Rt.ng x) != (Rt.ng y)) rfl rfl rfl (.inl rfl) (by kernel_rfl) (by kernel_rfl) rfl rfl rfl) (by kernel_rfl), ?_⟩
    refine fcs ⟨Ob.new_ (ob_addr 26 1 2 11 1 (Con.fr k x) (Con.nn k (Rt.tp x)) rfl rfl (.inl rfl) (by kernel_rfl) points_cell rfl (Con.fr_tp k x) field26_1) (by kernel_rfl), ?_⟩
    refine fcs ⟨Ob.new_ (ob_read 24 11 12 (Con.nn k (Rt.tp x)) rfl rfl (.inl rfl) (by kernel_rfl) points_ptr rfl row24 info24) (by kernel_rfl), ?_⟩
    refine fcs ⟨Ob.new_ (ob_addr 26 2 3 13 2 (Con.fr l y) (Con.nn l (Rat.den y)) rfl rfl (.inl rfl) (by kernel_rfl) points_cell rfl (Con.fr_den l y) field26_2) (by kernel_rfl), ?_⟩
    refine fcs ⟨Ob.new_ (ob_read 24 13 14 (Con.nn l (Rat.den y)) rfl rfl (.inl rfl) (by kernel_rfl) points_ptr rfl row24 info24) (by kernel_rfl), ?_⟩
    refine fcs ⟨Ob.new_ (ob_call2 54 12 14 15 _ rfl rfl (.inl rfl) (by kernel_rfl) (by kernel_rfl) (by kernel_rfl) (r_mul k l (Rt.tp x) (Rat.den y) (by omega))) (by kernel_rfl), ?_⟩
    refine fcs ⟨Ob.new_ (ob_addr 26 2 2 16 2 (Con.fr k x) (Con.nn k (Rat.den x)) rfl rfl (.inl rfl) (by kernel_rfl) points_cell rfl (Con.fr_den k x) field26_2) (by kernel_rfl), ?_⟩
    refine fcs ⟨Ob.new_ (ob_read 24 16 17 (Con.nn k (Rat.den x)) rfl rfl (.inl rfl) (by kernel_rfl) points_ptr rfl row24 info24) (by kernel_rfl), ?_⟩
    refine fcs ⟨Ob.new_ (ob_addr 26 1 3 18 1 (Con.fr l y) (Con.nn l (Rt.tp y)) rfl rfl (.inl rfl) (by kernel_rfl) points_cell rfl (Con.fr_tp l y) field26_1) (by kernel_rfl), ?_⟩
    refine fcs ⟨Ob.new_ (ob_read 24 18 19 (Con.nn l (Rt.tp y)) rfl rfl (.inl rfl) (by kernel_rfl) points_ptr rfl row24 info24) (by kernel_rfl), ?_⟩
    refine fcs ⟨Ob.new_ (ob_call2 54 17 19 20 _ rfl rfl (.inl rfl) (by kernel_rfl) (by kernel_rfl) (by kernel_rfl) (r_mul k l (Rat.den x) (Rt.tp y) (by omega))) (by kernel_rfl), ?_⟩
    refine fcs ⟨Ob.new_ (ob_call3 53 10 15 20 21 _ rfl rfl (.inl rfl) (by kernel_rfl) (by kernel_rfl) (by kernel_rfl) (by kernel_rfl) (z_make0 (k + l) (k + l) ((Rt.ng x) != (Rt.ng y)) ((Rt.tp x) * (Rat.den y)) ((Rat.den x) * (Rt.tp y)) hz)) (by kernel_rfl), ?_⟩
    refine fcs ⟨Ob.new_ (ob_fst 21 22 (Fact.agg (Con.tri 1 1 false 0 0)) (Fact.eq (.int .i64 8)) rfl rfl (.inl rfl) (by kernel_rfl) rfl rfl) (by kernel_rfl), ?_⟩
    refine fcs ⟨Ob.new_ (ob_snd 21 23 (Fact.agg (Con.tri 1 1 false 0 0)) (Fact.eq (.int .i64 8)) rfl rfl (.inl rfl) (by kernel_rfl) rfl rfl) (by kernel_rfl), ?_⟩
    exact fnl
  intro a2 w2 st2 hbr2 hfr
  have hs2 := hbr2.size
  have hb := up hb hbr2
  have st : St 24 [(4, Fact.cell b4 (Con.raw 3)), (22, Fact.agg (Con.tri 1 1 false 0 0)), (23, Fact.eq (.int .i64 8))] a2 w2 := st2.to (fcs ⟨st2.at_ 4, fcs ⟨st2.at_ 22, fcs ⟨st2.at_ 23, fnl⟩⟩⟩)
  clear st2 hbr2 hfr
  refine sym_store st 26 4 22 b4 (Con.raw 3) (Con.tri 1 1 false 0 0) [(4, Fact.cell b4 (Con.tri 1 1 false 0 0)), (23, Fact.eq (.int .i64 8))] rfl rfl rfl rfl rfl rfl info26 ?_ ?_
  · exact fcs ⟨.inl rfl, fcs ⟨.inr ⟨rfl, safe_eq _ _⟩, fnl⟩⟩
  clear st; intro w3 hB hsz3 st
  have hb := hB _ _ hb (by omega) (by omega)
  clear hB
  refine sym_op st 5 (Fact.eq (.int .i64 8)) rfl (Nat.le_of_ble_eq_true rfl) rfl rfl (by kernel_rfl) (ob_copy 23 5 (.inr rfl) rfl (.inl rfl) (by kernel_rfl) rfl) ?_
  clear st; intro a4 w4 hbr st; have hs4 := hbr.size; have hb := up hb hbr; clear hbr
  refine wpList_nil ?_
  refine then_normal ?_
  refine wp_ret ?_
  exact sym_ret2 rfl st.defers (resAt_cell st 4 b4 26 (Con.tri 1 1 false 0 0) rfl row26 info26) (resAt_tmp st 5) hb (fun v u h1 h2 => ⟨v, u, rfl, h1, h2⟩)
set_option maxRecDepth 100000 in
theorem z_sign (k : Nat) (x : Rat) : ∀ v0 w, (Fact.agg (Con.fr k x)).holds v0 w → Calls Tryz.prog 27 #[v0] w (Ret (Fact.eq (.int .i64 (Rt.sn x))) w) := by
  intro v0 w hv0
  refine sym_calls 8 [(0, Fact.agg (Con.fr k x))] Tryz.func27 rfl rfl (Nat.le_of_ble_eq_true rfl) (fcs ⟨⟨Nat.le_of_ble_eq_true rfl, hv0⟩, fnl⟩) fun a st => ?_
  have hb := Below.refl w.heap.size w
  refine wp_seq ?_
  refine sym_region st [(1, Fact.var' (Con.fr k x)), (2, Fact.eq (.int .i64 0))] [1] 2 (by kernel_rfl) (by kernel_rfl) (by kernel_rfl) (Nat.le_of_ble_eq_true rfl) (by kernel_rfl) rfl rfl ?_ ?_
  · refine fcs ⟨obn_box 26 0 1 _ (Con.fr k x) rfl rfl rfl (by kernel_rfl) rfl rfl, ?_⟩
    refine fcs ⟨Ob.new_ (ob_const (.int .i64 0) 2 (.inr rfl) rfl (.inl rfl) rfl) (by kernel_rfl), ?_⟩
    exact fnl
  intro a1 w1 st1 hbr1 hfr
  have hs1 := hbr1.size
  have hb := up hb hbr1
  obtain ⟨b1, c1⟩ := (show (Fact.var' (Con.fr k x)).holds _ _ from st1.at_ 1)
  have g1 := hfr.ge (s := 1) rfl c1.1
  have st : St 8 [(1, Fact.cell b1 (Con.fr k x)), (2, Fact.eq (.int .i64 0))] a1 w1 := st1.to (fcs ⟨c1, fcs ⟨st1.at_ 2, fnl⟩⟩)
  clear st1 hbr1 hfr c1
  refine wpList_nil ?_
  refine then_normal ?_
  refine wp_seq ?_
  refine wp_seq ?_
  refine sym_region st [(3, Fact.ptr (Con.nn k (Rt.tp x))), (4, Fact.agg (Con.nn k (Rt.tp x))), (5, Fact.eq (.bool (decide (Rt.tp x = 0))))] [] 3 (by kernel_rfl) (by kernel_rfl) (by kernel_rfl) (Nat.le_of_ble_eq_true rfl) (by kernel_rfl) rfl rfl ?_ ?_
  · refine fcs ⟨Ob.new_ (ob_addr 26 1 1 3 1 (Con.fr k x) (Con.nn k (Rt.tp x)) rfl rfl (.inl rfl) (by kernel_rfl) points_cell rfl (Con.fr_tp k x) field26_1) (by kernel_rfl), ?_⟩
    refine fcs ⟨Ob.new_ (ob_read 24 3 4 (Con.nn k (Rt.tp x)) rfl rfl (.inl rfl) (by kernel_rfl) points_ptr rfl row24 info24) (by kernel_rfl), ?_⟩
    refine fcs ⟨Ob.new_ (ob_call1 44 4 5 _ rfl rfl (.inl rfl) (by kernel_rfl) (by kernel_rfl) (z_zero k (Rt.tp x) (decide (Rt.tp x = 0)) rfl)) (by kernel_rfl), ?_⟩
    exact fnl
  intro a2 w2 st2 hbr2 hfr
  have hs2 := hbr2.size
  have hb := up hb hbr2
  have st : St 8 [(1, Fact.cell b1 (Con.fr k x)), (2, Fact.eq (.int .i64 0)), (5, Fact.eq (.bool (decide (Rt.tp x = 0))))] a2 w2 := st2.to (fcs ⟨st2.at_ 1, fcs ⟨st2.at_ 2, fcs ⟨st2.at_ 5, fnl⟩⟩⟩)
  clear st2 hbr2 hfr
  refine wpList_nil ?_
  refine then_normal ?_
  refine wp_cond_split (st.at_ 5) (fun h5 => ?_) (fun h5 => ?_)
  · skip
    refine wp_seq ?_
    have st := st.to (ks' := [(1, Fact.cell b1 (Con.fr k x)), (5, Fact.eq (.bool (decide (Rt.tp x = 0))))]) (fcs ⟨st.at_ 1, fcs ⟨st.at_ 5, fnl⟩⟩)
    refine sym_region st [(2, Fact.eq (.int .i64 0))] [] 1 (by kernel_rfl) (by kernel_rfl) (by kernel_rfl) (Nat.le_of_ble_eq_true rfl) (by kernel_rfl) rfl rfl ?_ ?_
    · refine fcs ⟨Ob.new_ (ob_const (.int .i64 0) 2 (.inr rfl) rfl (.inl rfl) rfl) (by kernel_rfl), ?_⟩
      exact fnl
    intro a3 w3 st3 hbr3 hfr
    have hs3 := hbr3.size
    have hb := up hb hbr3
    have st : St 8 [(1, Fact.cell b1 (Con.fr k x)), (2, Fact.eq (.int .i64 0))] a3 w3 := st3.to (fcs ⟨st3.at_ 1, fcs ⟨st3.at_ 2, fnl⟩⟩)
    clear st3 hbr3 hfr
    refine wpList_nil ?_
    refine then_normal ?_
    refine wp_ret ?_
    exact sym_ret1 rfl st.defers (resAt_tmp st 2) hb (fun v h => by rw [Rt.sn_eq, if_pos (of_decide_eq_true h5)]; exact h)
  · skip
    refine wp_skip ?_
    refine then_normal ?_
    refine wp_seq ?_
    refine wp_seq ?_
    refine sym_region st [(6, Fact.ptr (Con.bool (Rt.ng x))), (7, Fact.eq (.bool (Rt.ng x)))] [] 2 (by kernel_rfl) (by kernel_rfl) (by kernel_rfl) (Nat.le_of_ble_eq_true rfl) (by kernel_rfl) rfl rfl ?_ ?_
    · refine fcs ⟨Ob.new_ (ob_addr 26 0 1 6 0 (Con.fr k x) (Con.bool (Rt.ng x)) rfl rfl (.inl rfl) (by kernel_rfl) points_cell rfl (Con.fr_ng k x) field26_0) (by kernel_rfl), ?_⟩
      refine fcs ⟨Ob.new_ (ob_readb 6 7 (Rt.ng x) (Rt.ng x) rfl rfl rfl (.inl rfl) (by kernel_rfl) points_ptr rfl) (by kernel_rfl), ?_⟩
      exact fnl
    intro a4 w4 st4 hbr4 hfr
    have hs4 := hbr4.size
    have hb := up hb hbr4
    have st : St 8 [(2, Fact.eq (.int .i64 0)), (7, Fact.eq (.bool (Rt.ng x)))] a4 w4 := st4.to (fcs ⟨st4.at_ 2, fcs ⟨st4.at_ 7, fnl⟩⟩)
    clear st4 hbr4 hfr
    refine wpList_nil ?_
    refine then_normal ?_
    refine wp_cond_split (st.at_ 7) (fun h7 => ?_) (fun h7 => ?_)
    · skip
      refine wp_seq ?_
      have st := st.to (ks' := [(7, Fact.eq (.bool (Rt.ng x)))]) (fcs ⟨st.at_ 7, fnl⟩)
      refine sym_region st [(2, Fact.eq (.int .i64 (-1)))] [] 1 (by kernel_rfl) (by kernel_rfl) (by kernel_rfl) (Nat.le_of_ble_eq_true rfl) (by kernel_rfl) rfl rfl ?_ ?_
      · refine fcs ⟨Ob.new_ (ob_const (.int .i64 (-1)) 2 (.inr rfl) rfl (.inl rfl) rfl) (by kernel_rfl), ?_⟩
        exact fnl
      intro a5 w5 st5 hbr5 hfr
      have hs5 := hbr5.size
      have hb := up hb hbr5
      have st : St 8 [(2, Fact.eq (.int .i64 (-1)))] a5 w5 := st5.to (fcs ⟨st5.at_ 2, fnl⟩)
      clear st5 hbr5 hfr
      refine wpList_nil ?_
      refine then_normal ?_
      refine wp_ret ?_
      exact sym_ret1 rfl st.defers (resAt_tmp st 2) hb (fun v h => by rw [Rt.sn_eq, if_neg (of_decide_eq_false h5), if_pos h7]; exact h)
    · skip
      refine wp_skip ?_
      refine then_normal ?_
      refine wp_seq ?_
      have st := st.to (ks' := [(7, Fact.eq (.bool (Rt.ng x)))]) (fcs ⟨st.at_ 7, fnl⟩)
      refine sym_region st [(2, Fact.eq (.int .i64 1))] [] 1 (by kernel_rfl) (by kernel_rfl) (by kernel_rfl) (Nat.le_of_ble_eq_true rfl) (by kernel_rfl) rfl rfl ?_ ?_
      · refine fcs ⟨Ob.new_ (ob_const (.int .i64 1) 2 (.inr rfl) rfl (.inl rfl) rfl) (by kernel_rfl), ?_⟩
        exact fnl
      intro a6 w6 st6 hbr6 hfr
      have hs6 := hbr6.size
      have hb := up hb hbr6
      have st : St 8 [(2, Fact.eq (.int .i64 1))] a6 w6 := st6.to (fcs ⟨st6.at_ 2, fnl⟩)
      clear st6 hbr6 hfr
      refine wpList_nil ?_
      refine then_normal ?_
      refine wp_ret ?_
      exact sym_ret1 rfl st.defers (resAt_tmp st 2) hb (fun v h => by rw [Rt.sn_eq, if_neg (of_decide_eq_false h5), if_neg (by rw [h7]; decide)]; exact h)
set_option maxRecDepth 100000 in
theorem z_cmp (k l : Nat) (x y : Rat) (hk : 2 * max k l + 1 ≤ 300) : ∀ v0 v1 w, (Fact.agg (Con.fr k x)).holds v0 w → (Fact.agg (Con.fr l y)).holds v1 w → Calls Tryz.prog 26 #[v0, v1] w (Ret (Fact.eq (.int .i64 (Rt.cp x y))) w) := by
  intro v0 v1 w hv0 hv1
  refine sym_calls 9 [(0, Fact.agg (Con.fr k x)), (1, Fact.agg (Con.fr l y))] Tryz.func26 rfl rfl (Nat.le_of_ble_eq_true rfl) (fcs ⟨⟨Nat.le_of_ble_eq_true rfl, hv0⟩, fcs ⟨⟨Nat.le_of_ble_eq_true rfl, hv1⟩, fnl⟩⟩) fun a st => ?_
  have hb := Below.refl w.heap.size w
  refine wp_seq ?_
  refine sym_region st [(2, Fact.var' (Con.fr k x)), (3, Fact.var' (Con.fr l y)), (4, Fact.eq (.int .i64 0))] [2, 3] 3 (by kernel_rfl) (by kernel_rfl) (by kernel_rfl) (Nat.le_of_ble_eq_true rfl) (by kernel_rfl) rfl rfl ?_ ?_
  · refine fcs ⟨obn_box 26 0 2 _ (Con.fr k x) rfl rfl rfl (by kernel_rfl) rfl rfl, ?_⟩
    refine fcs ⟨obn_box 26 1 3 _ (Con.fr l y) rfl rfl rfl (by kernel_rfl) rfl rfl, ?_⟩
    refine fcs ⟨Ob.new_ (ob_const (.int .i64 0) 4 (.inr rfl) rfl (.inl rfl) rfl) (by kernel_rfl), ?_⟩
    exact fnl
  intro a1 w1 st1 hbr1 hfr
  have hs1 := hbr1.size
  have hb := up hb hbr1
  obtain ⟨b2, c2⟩ := (show (Fact.var' (Con.fr k x)).holds _ _ from st1.at_ 2)
  have g2 := hfr.ge (s := 2) rfl c2.1
  obtain ⟨b3, c3⟩ := (show (Fact.var' (Con.fr l y)).holds _ _ from st1.at_ 3)
  have g3 := hfr.ge (s := 3) rfl c3.1
  have ne2_3 := hfr.apart (s := 2) (t := 3) rfl rfl (by decide) c2.1 c3.1
  have st : St 9 [(2, Fact.cell b2 (Con.fr k x)), (3, Fact.cell b3 (Con.fr l y)), (4, Fact.eq (.int .i64 0))] a1 w1 := st1.to (fcs ⟨c2, fcs ⟨c3, fcs ⟨st1.at_ 4, fnl⟩⟩⟩)
  clear st1 hbr1 hfr c2 c3
  refine wpList_nil ?_
  refine then_normal ?_
  refine wp_seq ?_
  have st := st.to (ks' := [(2, Fact.cell b2 (Con.fr k x)), (3, Fact.cell b3 (Con.fr l y))]) (fcs ⟨st.at_ 2, fcs ⟨st.at_ 3, fnl⟩⟩)
  refine sym_region st [(5, Fact.agg (Con.fr k x)), (6, Fact.agg (Con.fr l y)), (7, Fact.agg (Con.fr ((k + l) + 1) (x - y))), (8, Fact.eq (.int .i64 (Rt.sn (x - y)))), (4, Fact.eq (.int .i64 (Rt.sn (x - y))))] [] 5 (by kernel_rfl) (by kernel_rfl) (by kernel_rfl) (Nat.le_of_ble_eq_true rfl) (by kernel_rfl) rfl rfl ?_ ?_
  · refine fcs ⟨Ob.new_ (ob_read 26 2 5 (Con.fr k x) rfl rfl (.inl rfl) (by kernel_rfl) points_cell rfl row26 info26) (by kernel_rfl), ?_⟩
    refine fcs ⟨Ob.new_ (ob_read 26 3 6 (Con.fr l y) rfl rfl (.inl rfl) (by kernel_rfl) points_cell rfl row26 info26) (by kernel_rfl), ?_⟩
    refine fcs ⟨Ob.new_ (ob_call2 22 5 6 7 _ rfl rfl (.inl rfl) (by kernel_rfl) (by kernel_rfl) (by kernel_rfl) (z_sub k l x y (by omega))) (by kernel_rfl), ?_⟩
    refine fcs ⟨Ob.new_ (ob_call1 27 7 8 _ rfl rfl (.inl rfl) (by kernel_rfl) (by kernel_rfl) (z_sign ((k + l) + 1) (x - y))) (by kernel_rfl), ?_⟩
    refine fcs ⟨Ob.new_ (ob_copy 8 4 (.inr rfl) rfl (.inl rfl) (by kernel_rfl) rfl) (by kernel_rfl), ?_⟩
    exact fnl
  intro a2 w2 st2 hbr2 hfr
  have hs2 := hbr2.size
  have hb := up hb hbr2
  have st : St 9 [(4, Fact.eq (.int .i64 (Rt.sn (x - y))))] a2 w2 := st2.to (fcs ⟨st2.at_ 4, fnl⟩)
  clear st2 hbr2 hfr
  refine wpList_nil ?_
  refine then_normal ?_
  refine wp_ret ?_
  exact sym_ret1 rfl st.defers (resAt_tmp st 4) hb (fun v h => by rw [Rt.cp_sub]; exact h)
set_option maxRecDepth 100000 in
theorem z_same (k l : Nat) (x y : Rat) (b : Bool) (hbd : decide (x = y) = b) : ∀ v0 v1 w, (Fact.agg (Con.fr k x)).holds v0 w → (Fact.agg (Con.fr l y)).holds v1 w → Calls Tryz.prog 13 #[v0, v1] w (Ret (Fact.eq (.bool b)) w) := by
  intro v0 v1 w hv0 hv1
  cases h1 : (Rt.ng x == Rt.ng y) with
  | false =>
    refine sym_calls 24 [(0, Fact.agg (Con.fr k x)), (1, Fact.agg (Con.fr l y))] Tryz.func13 rfl rfl (Nat.le_of_ble_eq_true rfl) (fcs ⟨⟨Nat.le_of_ble_eq_true rfl, hv0⟩, fcs ⟨⟨Nat.le_of_ble_eq_true rfl, hv1⟩, fnl⟩⟩) fun a st => ?_
    have hb := Below.refl w.heap.size w
    refine wp_seq ?_
    refine sym_region st [(2, Fact.var' (Con.fr k x)), (3, Fact.var' (Con.fr l y)), (4, Fact.eq (.bool false))] [2, 3] 3 (by kernel_rfl) (by kernel_rfl) (by kernel_rfl) (Nat.le_of_ble_eq_true rfl) (by kernel_rfl) rfl rfl ?_ ?_
    · refine fcs ⟨obn_box 26 0 2 _ (Con.fr k x) rfl rfl rfl (by kernel_rfl) rfl rfl, ?_⟩
      refine fcs ⟨obn_box 26 1 3 _ (Con.fr l y) rfl rfl rfl (by kernel_rfl) rfl rfl, ?_⟩
      refine fcs ⟨Ob.new_ (ob_const (.bool false) 4 (.inr rfl) rfl (.inl rfl) rfl) (by kernel_rfl), ?_⟩
      exact fnl
    intro a1 w1 st1 hbr1 hfr
    have hs1 := hbr1.size
    have hb := up hb hbr1
    obtain ⟨b2, c2⟩ := (show (Fact.var' (Con.fr k x)).holds _ _ from st1.at_ 2)
    have g2 := hfr.ge (s := 2) rfl c2.1
    obtain ⟨b3, c3⟩ := (show (Fact.var' (Con.fr l y)).holds _ _ from st1.at_ 3)
    have g3 := hfr.ge (s := 3) rfl c3.1
    have ne2_3 := hfr.apart (s := 2) (t := 3) rfl rfl (by decide) c2.1 c3.1
    have st : St 24 [(2, Fact.cell b2 (Con.fr k x)), (3, Fact.cell b3 (Con.fr l y)), (4, Fact.eq (.bool false))] a1 w1 := st1.to (fcs ⟨c2, fcs ⟨c3, fcs ⟨st1.at_ 4, fnl⟩⟩⟩)
    clear st1 hbr1 hfr c2 c3
    refine wpList_nil ?_
    refine then_normal ?_
    refine wp_seq ?_
    have st := st.to (ks' := [(2, Fact.cell b2 (Con.fr k x)), (3, Fact.cell b3 (Con.fr l y))]) (fcs ⟨st.at_ 2, fcs ⟨st.at_ 3, fnl⟩⟩)
    refine sym_region st [(5, Fact.ptr (Con.bool (Rt.ng x))), (6, Fact.eq (.bool (Rt.ng x))), (7, Fact.ptr (Con.bool (Rt.ng y))), (8, Fact.eq (.bool (Rt.ng y))), (9, Fact.eq (.bool false)), (10, Fact.eq (.bool false)), (11, Fact.eq undef), (12, Fact.eq undef), (13, Fact.eq undef), (14, Fact.eq undef), (15, Fact.eq undef), (16, Fact.eq (.bool false)), (17, Fact.eq (.bool false)), (18, Fact.eq undef), (19, Fact.eq undef), (20, Fact.eq undef), (21, Fact.eq undef), (22, Fact.eq undef), (23, Fact.eq (.bool false)), (4, Fact.eq (.bool false))] [] 20 (by kernel_rfl) (by kernel_rfl) (by kernel_rfl) (Nat.le_of_ble_eq_true rfl) (by kernel_rfl) rfl rfl ?_ ?_
    · refine fcs ⟨Ob.new_ (ob_addr 26 0 2 5 0 (Con.fr k x) (Con.bool (Rt.ng x)) rfl rfl (.inl rfl) (by kernel_rfl) points_cell rfl (Con.fr_ng k x) field26_0) (by kernel_rfl), ?_⟩
      refine fcs ⟨Ob.new_ (ob_readb 5 6 (Rt.ng x) (Rt.ng x) rfl rfl rfl (.inl rfl) (by kernel_rfl) points_ptr rfl) (by kernel_rfl), ?_⟩
      refine fcs ⟨Ob.new_ (ob_addr 26 0 3 7 0 (Con.fr l y) (Con.bool (Rt.ng y)) rfl rfl (.inl rfl) (by kernel_rfl) points_cell rfl (Con.fr_ng l y) field26_0) (by kernel_rfl), ?_⟩
      refine fcs ⟨Ob.new_ (ob_readb 7 8 (Rt.ng y) (Rt.ng y) rfl rfl rfl (.inl rfl) (by kernel_rfl) points_ptr rfl) (by kernel_rfl), ?_⟩
      refine fcs ⟨Ob.new_ (ob_eqb 6 8 9 (Rt.ng x) (Rt.ng y) false h1 rfl rfl (.inl rfl) (by kernel_rfl) (by kernel_rfl) rfl rfl rfl) (by kernel_rfl), ?_⟩
      refine fcs ⟨Ob.new_ (ob_copy 9 10 (.inl rfl) rfl (.inl rfl) (by kernel_rfl) rfl) (by kernel_rfl), ?_⟩
      refine fcs ⟨Ob.new_ (ob_skip 5 10 11 true rfl rfl (by kernel_rfl) (by decide) rfl rfl rfl) (by kernel_rfl), ?_⟩
      refine fcs ⟨Ob.new_ (ob_skip 5 10 12 true rfl rfl (by kernel_rfl) (by decide) rfl rfl rfl) (by kernel_rfl), ?_⟩
      refine fcs ⟨Ob.new_ (ob_skip 5 10 13 true rfl rfl (by kernel_rfl) (by decide) rfl rfl rfl) (by kernel_rfl), ?_⟩
      refine fcs ⟨Ob.new_ (ob_skip 5 10 14 true rfl rfl (by kernel_rfl) (by decide) rfl rfl rfl) (by kernel_rfl), ?_⟩
      refine fcs ⟨Ob.new_ (ob_skip 5 10 15 true rfl rfl (by kernel_rfl) (by decide) rfl rfl rfl) (by kernel_rfl), ?_⟩
      refine fcs ⟨Ob.new_ (ob_pick_no 10 15 16 (.bool false) rfl rfl (.inl rfl) (by kernel_rfl) rfl rfl) (by kernel_rfl), ?_⟩
      refine fcs ⟨Ob.new_ (ob_copy 16 17 (.inl rfl) rfl (.inl rfl) (by kernel_rfl) rfl) (by kernel_rfl), ?_⟩
      refine fcs ⟨Ob.new_ (ob_skip 12 17 18 true rfl rfl (by kernel_rfl) (by decide) rfl rfl rfl) (by kernel_rfl), ?_⟩
      refine fcs ⟨Ob.new_ (ob_skip 12 17 19 true rfl rfl (by kernel_rfl) (by decide) rfl rfl rfl) (by kernel_rfl), ?_⟩
      refine fcs ⟨Ob.new_ (ob_skip 12 17 20 true rfl rfl (by kernel_rfl) (by decide) rfl rfl rfl) (by kernel_rfl), ?_⟩
      refine fcs ⟨Ob.new_ (ob_skip 12 17 21 true rfl rfl (by kernel_rfl) (by decide) rfl rfl rfl) (by kernel_rfl), ?_⟩
      refine fcs ⟨Ob.new_ (ob_skip 12 17 22 true rfl rfl (by kernel_rfl) (by decide) rfl rfl rfl) (by kernel_rfl), ?_⟩
      refine fcs ⟨Ob.new_ (ob_pick_no 17 22 23 (.bool false) rfl rfl (.inl rfl) (by kernel_rfl) rfl rfl) (by kernel_rfl), ?_⟩
      refine fcs ⟨Ob.new_ (ob_copy 23 4 (.inr rfl) rfl (.inl rfl) (by kernel_rfl) rfl) (by kernel_rfl), ?_⟩
      exact fnl
    intro a2 w2 st2 hbr2 hfr
    have hs2 := hbr2.size
    have hb := up hb hbr2
    have st : St 24 [(4, Fact.eq (.bool false))] a2 w2 := st2.to (fcs ⟨st2.at_ 4, fnl⟩)
    clear st2 hbr2 hfr
    refine wpList_nil ?_
    refine then_normal ?_
    refine wp_ret ?_
    exact sym_ret1 rfl st.defers (resAt_tmp st 4) hb (fun v h => by subst hbd; rw [decide_eq_false (fun e => by rw [e, beq_self_eq_true] at h1; cases h1)]; exact h)
  | true =>
  cases h2 : decide (Rt.tp x = Rt.tp y) with
  | false =>
    refine sym_calls 24 [(0, Fact.agg (Con.fr k x)), (1, Fact.agg (Con.fr l y))] Tryz.func13 rfl rfl (Nat.le_of_ble_eq_true rfl) (fcs ⟨⟨Nat.le_of_ble_eq_true rfl, hv0⟩, fcs ⟨⟨Nat.le_of_ble_eq_true rfl, hv1⟩, fnl⟩⟩) fun a st => ?_
    have hb := Below.refl w.heap.size w
    refine wp_seq ?_
    refine sym_region st [(2, Fact.var' (Con.fr k x)), (3, Fact.var' (Con.fr l y)), (4, Fact.eq (.bool false))] [2, 3] 3 (by kernel_rfl) (by kernel_rfl) (by kernel_rfl) (Nat.le_of_ble_eq_true rfl) (by kernel_rfl) rfl rfl ?_ ?_
    · refine fcs ⟨obn_box 26 0 2 _ (Con.fr k x) rfl rfl rfl (by kernel_rfl) rfl rfl, ?_⟩
      refine fcs ⟨obn_box 26 1 3 _ (Con.fr l y) rfl rfl rfl (by kernel_rfl) rfl rfl, ?_⟩
      refine fcs ⟨Ob.new_ (ob_const (.bool false) 4 (.inr rfl) rfl (.inl rfl) rfl) (by kernel_rfl), ?_⟩
      exact fnl
    intro a1 w1 st1 hbr1 hfr
    have hs1 := hbr1.size
    have hb := up hb hbr1
    obtain ⟨b2, c2⟩ := (show (Fact.var' (Con.fr k x)).holds _ _ from st1.at_ 2)
    have g2 := hfr.ge (s := 2) rfl c2.1
    obtain ⟨b3, c3⟩ := (show (Fact.var' (Con.fr l y)).holds _ _ from st1.at_ 3)
    have g3 := hfr.ge (s := 3) rfl c3.1
    have ne2_3 := hfr.apart (s := 2) (t := 3) rfl rfl (by decide) c2.1 c3.1
    have st : St 24 [(2, Fact.cell b2 (Con.fr k x)), (3, Fact.cell b3 (Con.fr l y)), (4, Fact.eq (.bool false))] a1 w1 := st1.to (fcs ⟨c2, fcs ⟨c3, fcs ⟨st1.at_ 4, fnl⟩⟩⟩)
    clear st1 hbr1 hfr c2 c3
    refine wpList_nil ?_
    refine then_normal ?_
    refine wp_seq ?_
    have st := st.to (ks' := [(2, Fact.cell b2 (Con.fr k x)), (3, Fact.cell b3 (Con.fr l y))]) (fcs ⟨st.at_ 2, fcs ⟨st.at_ 3, fnl⟩⟩)
    refine sym_region st [(5, Fact.ptr (Con.bool (Rt.ng x))), (6, Fact.eq (.bool (Rt.ng x))), (7, Fact.ptr (Con.bool (Rt.ng y))), (8, Fact.eq (.bool (Rt.ng y))), (9, Fact.eq (.bool true)), (10, Fact.eq (.bool true)), (11, Fact.ptr (Con.nn k (Rt.tp x))), (12, Fact.agg (Con.nn k (Rt.tp x))), (13, Fact.ptr (Con.nn l (Rt.tp y))), (14, Fact.agg (Con.nn l (Rt.tp y))), (15, Fact.eq (.bool false)), (16, Fact.eq (.bool false)), (17, Fact.eq (.bool false)), (18, Fact.eq undef), (19, Fact.eq undef), (20, Fact.eq undef), (21, Fact.eq undef), (22, Fact.eq undef), (23, Fact.eq (.bool false)), (4, Fact.eq (.bool false))] [] 20 (by kernel_rfl) (by kernel_rfl) (by kernel_rfl) (Nat.le_of_ble_eq_true rfl) (by kernel_rfl) rfl rfl ?_ ?_
    · refine fcs ⟨Ob.new_ (ob_addr 26 0 2 5 0 (Con.fr k x) (Con.bool (Rt.ng x)) rfl rfl (.inl rfl) (by kernel_rfl) points_cell rfl (Con.fr_ng k x) field26_0) (by kernel_rfl), ?_⟩
      refine fcs ⟨Ob.new_ (ob_readb 5 6 (Rt.ng x) (Rt.ng x) rfl rfl rfl (.inl rfl) (by kernel_rfl) points_ptr rfl) (by kernel_rfl), ?_⟩
      refine fcs ⟨Ob.new_ (ob_addr 26 0 3 7 0 (Con.fr l y) (Con.bool (Rt.ng y)) rfl rfl (.inl rfl) (by kernel_rfl) points_cell rfl (Con.fr_ng l y) field26_0) (by kernel_rfl), ?_⟩
      refine fcs ⟨Ob.new_ (ob_readb 7 8 (Rt.ng y) (Rt.ng y) rfl rfl rfl (.inl rfl) (by kernel_rfl) points_ptr rfl) (by kernel_rfl), ?_⟩
      refine fcs ⟨Ob.new_ (ob_eqb 6 8 9 (Rt.ng x) (Rt.ng y) true h1 rfl rfl (.inl rfl) (by kernel_rfl) (by kernel_rfl) rfl rfl rfl) (by kernel_rfl), ?_⟩
      refine fcs ⟨Ob.new_ (ob_copy 9 10 (.inl rfl) rfl (.inl rfl) (by kernel_rfl) rfl) (by kernel_rfl), ?_⟩
      refine fcs ⟨Ob.new_ (ob_addr 26 1 2 11 1 (Con.fr k x) (Con.nn k (Rt.tp x)) rfl rfl (.inr ⟨_, _, _, rfl, rfl, by kernel_rfl, by decide, rfl⟩) (by kernel_rfl) points_cell rfl (Con.fr_tp k x) field26_1) (by kernel_rfl), ?_⟩
      refine fcs ⟨Ob.new_ (ob_read 24 11 12 (Con.nn k (Rt.tp x)) rfl rfl (.inr ⟨_, _, _, rfl, rfl, by kernel_rfl, by decide, rfl⟩) (by kernel_rfl) points_ptr rfl row24 info24) (by kernel_rfl), ?_⟩
      refine fcs ⟨Ob.new_ (ob_addr 26 1 3 13 1 (Con.fr l y) (Con.nn l (Rt.tp y)) rfl rfl (.inr ⟨_, _, _, rfl, rfl, by kernel_rfl, by decide, rfl⟩) (by kernel_rfl) points_cell rfl (Con.fr_tp l y) field26_1) (by kernel_rfl), ?_⟩
      refine fcs ⟨Ob.new_ (ob_read 24 13 14 (Con.nn l (Rt.tp y)) rfl rfl (.inr ⟨_, _, _, rfl, rfl, by kernel_rfl, by decide, rfl⟩) (by kernel_rfl) points_ptr rfl row24 info24) (by kernel_rfl), ?_⟩
      refine fcs ⟨Ob.new_ (ob_call2 45 12 14 15 _ rfl rfl (.inr ⟨_, _, _, rfl, rfl, by kernel_rfl, by decide, rfl⟩) (by kernel_rfl) (by kernel_rfl) (by kernel_rfl) (r_same k l (Rt.tp x) (Rt.tp y) false h2)) (by kernel_rfl), ?_⟩
      refine fcs ⟨Ob.new_ (ob_pick 10 15 16 _ rfl rfl (.inl rfl) (by kernel_rfl) (by kernel_rfl) rfl rfl) (by kernel_rfl), ?_⟩
      refine fcs ⟨Ob.new_ (ob_copy 16 17 (.inl rfl) rfl (.inl rfl) (by kernel_rfl) rfl) (by kernel_rfl), ?_⟩
      refine fcs ⟨Ob.new_ (ob_skip 12 17 18 true rfl rfl (by kernel_rfl) (by decide) rfl rfl rfl) (by kernel_rfl), ?_⟩
      refine fcs ⟨Ob.new_ (ob_skip 12 17 19 true rfl rfl (by kernel_rfl) (by decide) rfl rfl rfl) (by kernel_rfl), ?_⟩
      refine fcs ⟨Ob.new_ (ob_skip 12 17 20 true rfl rfl (by kernel_rfl) (by decide) rfl rfl rfl) (by kernel_rfl), ?_⟩
      refine fcs ⟨Ob.new_ (ob_skip 12 17 21 true rfl rfl (by kernel_rfl) (by decide) rfl rfl rfl) (by kernel_rfl), ?_⟩
      refine fcs ⟨Ob.new_ (ob_skip 12 17 22 true rfl rfl (by kernel_rfl) (by decide) rfl rfl rfl) (by kernel_rfl), ?_⟩
      refine fcs ⟨Ob.new_ (ob_pick_no 17 22 23 (.bool false) rfl rfl (.inl rfl) (by kernel_rfl) rfl rfl) (by kernel_rfl), ?_⟩
      refine fcs ⟨Ob.new_ (ob_copy 23 4 (.inr rfl) rfl (.inl rfl) (by kernel_rfl) rfl) (by kernel_rfl), ?_⟩
      exact fnl
    intro a2 w2 st2 hbr2 hfr
    have hs2 := hbr2.size
    have hb := up hb hbr2
    have st : St 24 [(4, Fact.eq (.bool false))] a2 w2 := st2.to (fcs ⟨st2.at_ 4, fnl⟩)
    clear st2 hbr2 hfr
    refine wpList_nil ?_
    refine then_normal ?_
    refine wp_ret ?_
    exact sym_ret1 rfl st.defers (resAt_tmp st 4) hb (fun v h => by subst hbd; rw [decide_eq_false (fun e => of_decide_eq_false h2 (by rw [e]))]; exact h)
  | true =>
  cases h3 : decide (x.den = y.den) with
  | false =>
    refine sym_calls 24 [(0, Fact.agg (Con.fr k x)), (1, Fact.agg (Con.fr l y))] Tryz.func13 rfl rfl (Nat.le_of_ble_eq_true rfl) (fcs ⟨⟨Nat.le_of_ble_eq_true rfl, hv0⟩, fcs ⟨⟨Nat.le_of_ble_eq_true rfl, hv1⟩, fnl⟩⟩) fun a st => ?_
    have hb := Below.refl w.heap.size w
    refine wp_seq ?_
    refine sym_region st [(2, Fact.var' (Con.fr k x)), (3, Fact.var' (Con.fr l y)), (4, Fact.eq (.bool false))] [2, 3] 3 (by kernel_rfl) (by kernel_rfl) (by kernel_rfl) (Nat.le_of_ble_eq_true rfl) (by kernel_rfl) rfl rfl ?_ ?_
    · refine fcs ⟨obn_box 26 0 2 _ (Con.fr k x) rfl rfl rfl (by kernel_rfl) rfl rfl, ?_⟩
      refine fcs ⟨obn_box 26 1 3 _ (Con.fr l y) rfl rfl rfl (by kernel_rfl) rfl rfl, ?_⟩
      refine fcs ⟨Ob.new_ (ob_const (.bool false) 4 (.inr rfl) rfl (.inl rfl) rfl) (by kernel_rfl), ?_⟩
      exact fnl
    intro a1 w1 st1 hbr1 hfr
    have hs1 := hbr1.size
    have hb := up hb hbr1
    obtain ⟨b2, c2⟩ := (show (Fact.var' (Con.fr k x)).holds _ _ from st1.at_ 2)
    have g2 := hfr.ge (s := 2) rfl c2.1
    obtain ⟨b3, c3⟩ := (show (Fact.var' (Con.fr l y)).holds _ _ from st1.at_ 3)
    have g3 := hfr.ge (s := 3) rfl c3.1
    have ne2_3 := hfr.apart (s := 2) (t := 3) rfl rfl (by decide) c2.1 c3.1
    have st : St 24 [(2, Fact.cell b2 (Con.fr k x)), (3, Fact.cell b3 (Con.fr l y)), (4, Fact.eq (.bool false))] a1 w1 := st1.to (fcs ⟨c2, fcs ⟨c3, fcs ⟨st1.at_ 4, fnl⟩⟩⟩)
    clear st1 hbr1 hfr c2 c3
    refine wpList_nil ?_
    refine then_normal ?_
    refine wp_seq ?_
    have st := st.to (ks' := [(2, Fact.cell b2 (Con.fr k x)), (3, Fact.cell b3 (Con.fr l y))]) (fcs ⟨st.at_ 2, fcs ⟨st.at_ 3, fnl⟩⟩)
    refine sym_region st [(5, Fact.ptr (Con.bool (Rt.ng x))), (6, Fact.eq (.bool (Rt.ng x))), (7, Fact.ptr (Con.bool (Rt.ng y))), (8, Fact.eq (.bool (Rt.ng y))), (9, Fact.eq (.bool true)), (10, Fact.eq (.bool true)), (11, Fact.ptr (Con.nn k (Rt.tp x))), (12, Fact.agg (Con.nn k (Rt.tp x))), (13, Fact.ptr (Con.nn l (Rt.tp y))), (14, Fact.agg (Con.nn l (Rt.tp y))), (15, Fact.eq (.bool true)), (16, Fact.eq (.bool true)), (17, Fact.eq (.bool true)), (18, Fact.ptr (Con.nn k (Rat.den x))), (19, Fact.agg (Con.nn k (Rat.den x))), (20, Fact.ptr (Con.nn l (Rat.den y))), (21, Fact.agg (Con.nn l (Rat.den y))), (22, Fact.eq (.bool false)), (23, Fact.eq (.bool false)), (4, Fact.eq (.bool false))] [] 20 (by kernel_rfl) (by kernel_rfl) (by kernel_rfl) (Nat.le_of_ble_eq_true rfl) (by kernel_rfl) rfl rfl ?_ ?_
    · refine fcs ⟨Ob.new_ (ob_addr 26 0 2 5 0 (Con.fr k x) (Con.bool (Rt.ng x)) rfl rfl (.inl rfl) (by kernel_rfl) points_cell rfl (Con.fr_ng k x) field26_0) (by kernel_rfl), ?_⟩
      refine fcs ⟨Ob.new_ (ob_readb 5 6 (Rt.ng x) (Rt.ng x) rfl rfl rfl (.inl rfl) (by kernel_rfl) points_ptr rfl) (by kernel_rfl), ?_⟩
      refine fcs ⟨Ob.new_ (ob_addr 26 0 3 7 0 (Con.fr l y) (Con.bool (Rt.ng y)) rfl rfl (.inl rfl) (by kernel_rfl) points_cell rfl (Con.fr_ng l y) field26_0) (by kernel_rfl), ?_⟩
      refine fcs ⟨Ob.new_ (ob_readb 7 8 (Rt.ng y) (Rt.ng y) rfl rfl rfl (.inl rfl) (by kernel_rfl) points_ptr rfl) (by kernel_rfl), ?_⟩
      refine fcs ⟨Ob.new_ (ob_eqb 6 8 9 (Rt.ng x) (Rt.ng y) true h1 rfl rfl (.inl rfl) (by kernel_rfl) (by kernel_rfl) rfl rfl rfl) (by kernel_rfl), ?_⟩
      refine fcs ⟨Ob.new_ (ob_copy 9 10 (.inl rfl) rfl (.inl rfl) (by kernel_rfl) rfl) (by kernel_rfl), ?_⟩
      refine fcs ⟨Ob.new_ (ob_addr 26 1 2 11 1 (Con.fr k x) (Con.nn k (Rt.tp x)) rfl rfl (.inr ⟨_, _, _, rfl, rfl, by kernel_rfl, by decide, rfl⟩) (by kernel_rfl) points_cell rfl (Con.fr_tp k x) field26_1) (by kernel_rfl), ?_⟩
      refine fcs ⟨Ob.new_ (ob_read 24 11 12 (Con.nn k (Rt.tp x)) rfl rfl (.inr ⟨_, _, _, rfl, rfl, by kernel_rfl, by decide, rfl⟩) (by kernel_rfl) points_ptr rfl row24 info24) (by kernel_rfl), ?_⟩
      refine fcs ⟨Ob.new_ (ob_addr 26 1 3 13 1 (Con.fr l y) (Con.nn l (Rt.tp y)) rfl rfl (.inr ⟨_, _, _, rfl, rfl, by kernel_rfl, by decide, rfl⟩) (by kernel_rfl) points_cell rfl (Con.fr_tp l y) field26_1) (by kernel_rfl), ?_⟩
      refine fcs ⟨Ob.new_ (ob_read 24 13 14 (Con.nn l (Rt.tp y)) rfl rfl (.inr ⟨_, _, _, rfl, rfl, by kernel_rfl, by decide, rfl⟩) (by kernel_rfl) points_ptr rfl row24 info24) (by kernel_rfl), ?_⟩
      refine fcs ⟨Ob.new_ (ob_call2 45 12 14 15 _ rfl rfl (.inr ⟨_, _, _, rfl, rfl, by kernel_rfl, by decide, rfl⟩) (by kernel_rfl) (by kernel_rfl) (by kernel_rfl) (r_same k l (Rt.tp x) (Rt.tp y) true h2)) (by kernel_rfl), ?_⟩
      refine fcs ⟨Ob.new_ (ob_pick 10 15 16 _ rfl rfl (.inl rfl) (by kernel_rfl) (by kernel_rfl) rfl rfl) (by kernel_rfl), ?_⟩
      refine fcs ⟨Ob.new_ (ob_copy 16 17 (.inl rfl) rfl (.inl rfl) (by kernel_rfl) rfl) (by kernel_rfl), ?_⟩
      refine fcs ⟨Ob.new_ (ob_addr 26 2 2 18 2 (Con.fr k x) (Con.nn k (Rat.den x)) rfl rfl (.inr ⟨_, _, _, rfl, rfl, by kernel_rfl, by decide, rfl⟩) (by kernel_rfl) points_cell rfl (Con.fr_den k x) field26_2) (by kernel_rfl), ?_⟩
      refine fcs ⟨Ob.new_ (ob_read 24 18 19 (Con.nn k (Rat.den x)) rfl rfl (.inr ⟨_, _, _, rfl, rfl, by kernel_rfl, by decide, rfl⟩) (by kernel_rfl) points_ptr rfl row24 info24) (by kernel_rfl), ?_⟩
      refine fcs ⟨Ob.new_ (ob_addr 26 2 3 20 2 (Con.fr l y) (Con.nn l (Rat.den y)) rfl rfl (.inr ⟨_, _, _, rfl, rfl, by kernel_rfl, by decide, rfl⟩) (by kernel_rfl) points_cell rfl (Con.fr_den l y) field26_2) (by kernel_rfl), ?_⟩
      refine fcs ⟨Ob.new_ (ob_read 24 20 21 (Con.nn l (Rat.den y)) rfl rfl (.inr ⟨_, _, _, rfl, rfl, by kernel_rfl, by decide, rfl⟩) (by kernel_rfl) points_ptr rfl row24 info24) (by kernel_rfl), ?_⟩
      refine fcs ⟨Ob.new_ (ob_call2 45 19 21 22 _ rfl rfl (.inr ⟨_, _, _, rfl, rfl, by kernel_rfl, by decide, rfl⟩) (by kernel_rfl) (by kernel_rfl) (by kernel_rfl) (r_same k l (Rat.den x) (Rat.den y) false h3)) (by kernel_rfl), ?_⟩
      refine fcs ⟨Ob.new_ (ob_pick 17 22 23 _ rfl rfl (.inl rfl) (by kernel_rfl) (by kernel_rfl) rfl rfl) (by kernel_rfl), ?_⟩
      refine fcs ⟨Ob.new_ (ob_copy 23 4 (.inr rfl) rfl (.inl rfl) (by kernel_rfl) rfl) (by kernel_rfl), ?_⟩
      exact fnl
    intro a2 w2 st2 hbr2 hfr
    have hs2 := hbr2.size
    have hb := up hb hbr2
    have st : St 24 [(4, Fact.eq (.bool false))] a2 w2 := st2.to (fcs ⟨st2.at_ 4, fnl⟩)
    clear st2 hbr2 hfr
    refine wpList_nil ?_
    refine then_normal ?_
    refine wp_ret ?_
    exact sym_ret1 rfl st.defers (resAt_tmp st 4) hb (fun v h => by subst hbd; rw [decide_eq_false (fun e => of_decide_eq_false h3 (by rw [e]))]; exact h)
  | true =>
    refine sym_calls 24 [(0, Fact.agg (Con.fr k x)), (1, Fact.agg (Con.fr l y))] Tryz.func13 rfl rfl (Nat.le_of_ble_eq_true rfl) (fcs ⟨⟨Nat.le_of_ble_eq_true rfl, hv0⟩, fcs ⟨⟨Nat.le_of_ble_eq_true rfl, hv1⟩, fnl⟩⟩) fun a st => ?_
    have hb := Below.refl w.heap.size w
    refine wp_seq ?_
    refine sym_region st [(2, Fact.var' (Con.fr k x)), (3, Fact.var' (Con.fr l y)), (4, Fact.eq (.bool false))] [2, 3] 3 (by kernel_rfl) (by kernel_rfl) (by kernel_rfl) (Nat.le_of_ble_eq_true rfl) (by kernel_rfl) rfl rfl ?_ ?_
    · refine fcs ⟨obn_box 26 0 2 _ (Con.fr k x) rfl rfl rfl (by kernel_rfl) rfl rfl, ?_⟩
      refine fcs ⟨obn_box 26 1 3 _ (Con.fr l y) rfl rfl rfl (by kernel_rfl) rfl rfl, ?_⟩
      refine fcs ⟨Ob.new_ (ob_const (.bool false) 4 (.inr rfl) rfl (.inl rfl) rfl) (by kernel_rfl), ?_⟩
      exact fnl
    intro a1 w1 st1 hbr1 hfr
    have hs1 := hbr1.size
    have hb := up hb hbr1
    obtain ⟨b2, c2⟩ := (show (Fact.var' (Con.fr k x)).holds _ _ from st1.at_ 2)
    have g2 := hfr.ge (s := 2) rfl c2.1
    obtain ⟨b3, c3⟩ := (show (Fact.var' (Con.fr l y)).holds _ _ from st1.at_ 3)
    have g3 := hfr.ge (s := 3) rfl c3.1
    have ne2_3 := hfr.apart (s := 2) (t := 3) rfl rfl (by decide) c2.1 c3.1
    have st : St 24 [(2, Fact.cell b2 (Con.fr k x)), (3, Fact.cell b3 (Con.fr l y)), (4, Fact.eq (.bool false))] a1 w1 := st1.to (fcs ⟨c2, fcs ⟨c3, fcs ⟨st1.at_ 4, fnl⟩⟩⟩)
    clear st1 hbr1 hfr c2 c3
    refine wpList_nil ?_
    refine then_normal ?_
    refine wp_seq ?_
    have st := st.to (ks' := [(2, Fact.cell b2 (Con.fr k x)), (3, Fact.cell b3 (Con.fr l y))]) (fcs ⟨st.at_ 2, fcs ⟨st.at_ 3, fnl⟩⟩)
    refine sym_region st [(5, Fact.ptr (Con.bool (Rt.ng x))), (6, Fact.eq (.bool (Rt.ng x))), (7, Fact.ptr (Con.bool (Rt.ng y))), (8, Fact.eq (.bool (Rt.ng y))), (9, Fact.eq (.bool true)), (10, Fact.eq (.bool true)), (11, Fact.ptr (Con.nn k (Rt.tp x))), (12, Fact.agg (Con.nn k (Rt.tp x))), (13, Fact.ptr (Con.nn l (Rt.tp y))), (14, Fact.agg (Con.nn l (Rt.tp y))), (15, Fact.eq (.bool true)), (16, Fact.eq (.bool true)), (17, Fact.eq (.bool true)), (18, Fact.ptr (Con.nn k (Rat.den x))), (19, Fact.agg (Con.nn k (Rat.den x))), (20, Fact.ptr (Con.nn l (Rat.den y))), (21, Fact.agg (Con.nn l (Rat.den y))), (22, Fact.eq (.bool true)), (23, Fact.eq (.bool true)), (4, Fact.eq (.bool true))] [] 20 (by kernel_rfl) (by kernel_rfl) (by kernel_rfl) (Nat.le_of_ble_eq_true rfl) (by kernel_rfl) rfl rfl ?_ ?_
    · refine fcs ⟨Ob.new_ (ob_addr 26 0 2 5 0 (Con.fr k x) (Con.bool (Rt.ng x)) rfl rfl (.inl rfl) (by kernel_rfl) points_cell rfl (Con.fr_ng k x) field26_0) (by kernel_rfl), ?_⟩
      refine fcs ⟨Ob.new_ (ob_readb 5 6 (Rt.ng x) (Rt.ng x) rfl rfl rfl (.inl rfl) (by kernel_rfl) points_ptr rfl) (by kernel_rfl), ?_⟩
      refine fcs ⟨Ob.new_ (ob_addr 26 0 3 7 0 (Con.fr l y) (Con.bool (Rt.ng y)) rfl rfl (.inl rfl) (by kernel_rfl) points_cell rfl (Con.fr_ng l y) field26_0) (by kernel_rfl), ?_⟩
      refine fcs ⟨Ob.new_ (ob_readb 7 8 (Rt.ng y) (Rt.ng y) rfl rfl rfl (.inl rfl) (by kernel_rfl) points_ptr rfl) (by kernel_rfl), ?_⟩
      refine fcs ⟨Ob.new_ (ob_eqb 6 8 9 (Rt.ng x) (Rt.ng y) true h1 rfl rfl (.inl rfl) (by kernel_rfl) (by kernel_rfl) rfl rfl rfl) (by kernel_rfl), ?_⟩
      refine fcs ⟨Ob.new_ (ob_copy 9 10 (.inl rfl) rfl (.inl rfl) (by kernel_rfl) rfl) (by kernel_rfl), ?_⟩
      refine fcs ⟨Ob.new_ (ob_addr 26 1 2 11 1 (Con.fr k x) (Con.nn k (Rt.tp x)) rfl rfl (.inr ⟨_, _, _, rfl, rfl, by kernel_rfl, by decide, rfl⟩) (by kernel_rfl) points_cell rfl (Con.fr_tp k x) field26_1) (by kernel_rfl), ?_⟩
      refine fcs ⟨Ob.new_ (ob_read 24 11 12 (Con.nn k (Rt.tp x)) rfl rfl (.inr ⟨_, _, _, rfl, rfl, by kernel_rfl, by decide, rfl⟩) (by kernel_rfl) points_ptr rfl row24 info24) (by kernel_rfl), ?_⟩
      refine fcs ⟨Ob.new_ (ob_addr 26 1 3 13 1 (Con.fr l y) (Con.nn l (Rt.tp y)) rfl rfl (.inr ⟨_, _, _, rfl, rfl, by kernel_rfl, by decide, rfl⟩) (by kernel_rfl) points_cell rfl (Con.fr_tp l y) field26_1) (by kernel_rfl), ?_⟩
      refine fcs ⟨Ob.new_ (ob_read 24 13 14 (Con.nn l (Rt.tp y)) rfl rfl (.inr ⟨_, _, _, rfl, rfl, by kernel_rfl, by decide, rfl⟩) (by kernel_rfl) points_ptr rfl row24 info24) (by kernel_rfl), ?_⟩
      refine fcs ⟨Ob.new_ (ob_call2 45 12 14 15 _ rfl rfl (.inr ⟨_, _, _, rfl, rfl, by kernel_rfl, by decide, rfl⟩) (by kernel_rfl) (by kernel_rfl) (by kernel_rfl) (r_same k l (Rt.tp x) (Rt.tp y) true h2)) (by kernel_rfl), ?_⟩
      refine fcs ⟨Ob.new_ (ob_pick 10 15 16 _ rfl rfl (.inl rfl) (by kernel_rfl) (by kernel_rfl) rfl rfl) (by kernel_rfl), ?_⟩
      refine fcs ⟨Ob.new_ (ob_copy 16 17 (.inl rfl) rfl (.inl rfl) (by kernel_rfl) rfl) (by kernel_rfl), ?_⟩
      refine fcs ⟨Ob.new_ (ob_addr 26 2 2 18 2 (Con.fr k x) (Con.nn k (Rat.den x)) rfl rfl (.inr ⟨_, _, _, rfl, rfl, by kernel_rfl, by decide, rfl⟩) (by kernel_rfl) points_cell rfl (Con.fr_den k x) field26_2) (by kernel_rfl), ?_⟩
      refine fcs ⟨Ob.new_ (ob_read 24 18 19 (Con.nn k (Rat.den x)) rfl rfl (.inr ⟨_, _, _, rfl, rfl, by kernel_rfl, by decide, rfl⟩) (by kernel_rfl) points_ptr rfl row24 info24) (by kernel_rfl), ?_⟩
      refine fcs ⟨Ob.new_ (ob_addr 26 2 3 20 2 (Con.fr l y) (Con.nn l (Rat.den y)) rfl rfl (.inr ⟨_, _, _, rfl, rfl, by kernel_rfl, by decide, rfl⟩) (by kernel_rfl) points_cell rfl (Con.fr_den l y) field26_2) (by kernel_rfl), ?_⟩
      refine fcs ⟨Ob.new_ (ob_read 24 20 21 (Con.nn l (Rat.den y)) rfl rfl (.inr ⟨_, _, _, rfl, rfl, by kernel_rfl, by decide, rfl⟩) (by kernel_rfl) points_ptr rfl row24 info24) (by kernel_rfl), ?_⟩
      refine fcs ⟨Ob.new_ (ob_call2 45 19 21 22 _ rfl rfl (.inr ⟨_, _, _, rfl, rfl, by kernel_rfl, by decide, rfl⟩) (by kernel_rfl) (by kernel_rfl) (by kernel_rfl) (r_same k l (Rat.den x) (Rat.den y) true h3)) (by kernel_rfl), ?_⟩
      refine fcs ⟨Ob.new_ (ob_pick 17 22 23 _ rfl rfl (.inl rfl) (by kernel_rfl) (by kernel_rfl) rfl rfl) (by kernel_rfl), ?_⟩
      refine fcs ⟨Ob.new_ (ob_copy 23 4 (.inr rfl) rfl (.inl rfl) (by kernel_rfl) rfl) (by kernel_rfl), ?_⟩
      exact fnl
    intro a2 w2 st2 hbr2 hfr
    have hs2 := hbr2.size
    have hb := up hb hbr2
    have st : St 24 [(4, Fact.eq (.bool true))] a2 w2 := st2.to (fcs ⟨st2.at_ 4, fnl⟩)
    clear st2 hbr2 hfr
    refine wpList_nil ?_
    refine then_normal ?_
    refine wp_ret ?_
    exact sym_ret1 rfl st.defers (resAt_tmp st 4) hb (fun v h => by subst hbd; rw [decide_eq_true (Rt.ext' (eq_of_beq h1) (of_decide_eq_true h2) (of_decide_eq_true h3))]; exact h)
set_option maxRecDepth 100000 in
theorem z_same3 (k l i j : Nat) (s : Bool) (p q : Nat) : ∀ v0 v1 w, (Fact.agg (Con.tri k l s p q)).holds v0 w → (Fact.agg (Con.tri i j s p q)).holds v1 w → Calls Tryz.prog 13 #[v0, v1] w (Ret (Fact.eq (.bool true)) w) := by
  intro v0 v1 w hv0 hv1
  refine sym_calls 24 [(0, Fact.agg (Con.tri k l s p q)), (1, Fact.agg (Con.tri i j s p q))] Tryz.func13 rfl rfl (Nat.le_of_ble_eq_true rfl) (fcs ⟨⟨Nat.le_of_ble_eq_true rfl, hv0⟩, fcs ⟨⟨Nat.le_of_ble_eq_true rfl, hv1⟩, fnl⟩⟩) fun a st => ?_
  have hb := Below.refl w.heap.size w
  refine wp_seq ?_
  refine sym_region st [(2, Fact.var' (Con.tri k l s p q)), (3, Fact.var' (Con.tri i j s p q)), (4, Fact.eq (.bool false))] [2, 3] 3 (by kernel_rfl) (by kernel_rfl) (by kernel_rfl) (Nat.le_of_ble_eq_true rfl) (by kernel_rfl) rfl rfl ?_ ?_
  · refine fcs ⟨obn_box 26 0 2 _ (Con.tri k l s p q) rfl rfl rfl (by kernel_rfl) rfl rfl, ?_⟩
    refine fcs ⟨obn_box 26 1 3 _ (Con.tri i j s p q) rfl rfl rfl (by kernel_rfl) rfl rfl, ?_⟩
    refine fcs ⟨Ob.new_ (ob_const (.bool false) 4 (.inr rfl) rfl (.inl rfl) rfl) (by kernel_rfl), ?_⟩
    exact fnl
  intro a1 w1 st1 hbr1 hfr
  have hs1 := hbr1.size
  have hb := up hb hbr1
  obtain ⟨b2, c2⟩ := (show (Fact.var' (Con.tri k l s p q)).holds _ _ from st1.at_ 2)
  have g2 := hfr.ge (s := 2) rfl c2.1
  obtain ⟨b3, c3⟩ := (show (Fact.var' (Con.tri i j s p q)).holds _ _ from st1.at_ 3)
  have g3 := hfr.ge (s := 3) rfl c3.1
  have ne2_3 := hfr.apart (s := 2) (t := 3) rfl rfl (by decide) c2.1 c3.1
  have st : St 24 [(2, Fact.cell b2 (Con.tri k l s p q)), (3, Fact.cell b3 (Con.tri i j s p q)), (4, Fact.eq (.bool false))] a1 w1 := st1.to (fcs ⟨c2, fcs ⟨c3, fcs ⟨st1.at_ 4, fnl⟩⟩⟩)
  clear st1 hbr1 hfr c2 c3
  refine wpList_nil ?_
  refine then_normal ?_
  refine wp_seq ?_
  have st := st.to (ks' := [(2, Fact.cell b2 (Con.tri k l s p q)), (3, Fact.cell b3 (Con.tri i j s p q))]) (fcs ⟨st.at_ 2, fcs ⟨st.at_ 3, fnl⟩⟩)
  refine sym_region st [(5, Fact.ptr (Con.bool s)), (6, Fact.eq (.bool s)), (7, Fact.ptr (Con.bool s)), (8, Fact.eq (.bool s)), (9, Fact.eq (.bool true)), (10, Fact.eq (.bool true)), (11, Fact.ptr (Con.nn k p)), (12, Fact.agg (Con.nn k p)), (13, Fact.ptr (Con.nn i p)), (14, Fact.agg (Con.nn i p)), (15, Fact.eq (.bool true)), (16, Fact.eq (.bool true)), (17, Fact.eq (.bool true)), (18, Fact.ptr (Con.nn l q)), (19, Fact.agg (Con.nn l q)), (20, Fact.ptr (Con.nn j q)), (21, Fact.agg (Con.nn j q)), (22, Fact.eq (.bool true)), (23, Fact.eq (.bool true)), (4, Fact.eq (.bool true))] [] 20 (by kernel_rfl) (by kernel_rfl) (by kernel_rfl) (Nat.le_of_ble_eq_true rfl) (by kernel_rfl) rfl rfl ?_ ?_
  · refine fcs ⟨Ob.new_ (ob_addr 26 0 2 5 0 (Con.tri k l s p q) (Con.bool s) rfl rfl (.inl rfl) (by kernel_rfl) points_cell rfl (Con.tri_0 k l s p q) field26_0) (by kernel_rfl), ?_⟩
    refine fcs ⟨Ob.new_ (ob_readb 5 6 s s rfl rfl rfl (.inl rfl) (by kernel_rfl) points_ptr rfl) (by kernel_rfl), ?_⟩
    refine fcs ⟨Ob.new_ (ob_addr 26 0 3 7 0 (Con.tri i j s p q) (Con.bool s) rfl rfl (.inl rfl) (by kernel_rfl) points_cell rfl (Con.tri_0 i j s p q) field26_0) (by kernel_rfl), ?_⟩
    refine fcs ⟨Ob.new_ (ob_readb 7 8 s s rfl rfl rfl (.inl rfl) (by kernel_rfl) points_ptr rfl) (by kernel_rfl), ?_⟩
    refine fcs ⟨Ob.new_ (ob_eqb 6 8 9 s s true (beq_self_eq_true s) rfl rfl (.inl rfl) (by kernel_rfl) (by kernel_rfl) rfl rfl rfl) (by kernel_rfl), ?_⟩
    refine fcs ⟨Ob.new_ (ob_copy 9 10 (.inl rfl) rfl (.inl rfl) (by kernel_rfl) rfl) (by kernel_rfl), ?_⟩
    refine fcs ⟨Ob.new_ (ob_addr 26 1 2 11 1 (Con.tri k l s p q) (Con.nn k p) rfl rfl (.inr ⟨_, _, _, rfl, rfl, by kernel_rfl, by decide, rfl⟩) (by kernel_rfl) points_cell rfl (Con.tri_1 k l s p q) field26_1) (by kernel_rfl), ?_⟩
    refine fcs ⟨Ob.new_ (ob_read 24 11 12 (Con.nn k p) rfl rfl (.inr ⟨_, _, _, rfl, rfl, by kernel_rfl, by decide, rfl⟩) (by kernel_rfl) points_ptr rfl row24 info24) (by kernel_rfl), ?_⟩
    refine fcs ⟨Ob.new_ (ob_addr 26 1 3 13 1 (Con.tri i j s p q) (Con.nn i p) rfl rfl (.inr ⟨_, _, _, rfl, rfl, by kernel_rfl, by decide, rfl⟩) (by kernel_rfl) points_cell rfl (Con.tri_1 i j s p q) field26_1) (by kernel_rfl), ?_⟩
    refine fcs ⟨Ob.new_ (ob_read 24 13 14 (Con.nn i p) rfl rfl (.inr ⟨_, _, _, rfl, rfl, by kernel_rfl, by decide, rfl⟩) (by kernel_rfl) points_ptr rfl row24 info24) (by kernel_rfl), ?_⟩
    refine fcs ⟨Ob.new_ (ob_call2 45 12 14 15 _ rfl rfl (.inr ⟨_, _, _, rfl, rfl, by kernel_rfl, by decide, rfl⟩) (by kernel_rfl) (by kernel_rfl) (by kernel_rfl) (r_same k i p p true (decide_eq_true rfl))) (by kernel_rfl), ?_⟩
    refine fcs ⟨Ob.new_ (ob_pick 10 15 16 _ rfl rfl (.inl rfl) (by kernel_rfl) (by kernel_rfl) rfl rfl) (by kernel_rfl), ?_⟩
    refine fcs ⟨Ob.new_ (ob_copy 16 17 (.inl rfl) rfl (.inl rfl) (by kernel_rfl) rfl) (by kernel_rfl), ?_⟩
    refine fcs ⟨Ob.new_ (ob_addr 26 2 2 18 2 (Con.tri k l s p q) (Con.nn l q) rfl rfl (.inr ⟨_, _, _, rfl, rfl, by kernel_rfl, by decide, rfl⟩) (by kernel_rfl) points_cell rfl (Con.tri_2 k l s p q) field26_2) (by kernel_rfl), ?_⟩
    refine fcs ⟨Ob.new_ (ob_read 24 18 19 (Con.nn l q) rfl rfl (.inr ⟨_, _, _, rfl, rfl, by kernel_rfl, by decide, rfl⟩) (by kernel_rfl) points_ptr rfl row24 info24) (by kernel_rfl), ?_⟩
    refine fcs ⟨Ob.new_ (ob_addr 26 2 3 20 2 (Con.tri i j s p q) (Con.nn j q) rfl rfl (.inr ⟨_, _, _, rfl, rfl, by kernel_rfl, by decide, rfl⟩) (by kernel_rfl) points_cell rfl (Con.tri_2 i j s p q) field26_2) (by kernel_rfl), ?_⟩
    refine fcs ⟨Ob.new_ (ob_read 24 20 21 (Con.nn j q) rfl rfl (.inr ⟨_, _, _, rfl, rfl, by kernel_rfl, by decide, rfl⟩) (by kernel_rfl) points_ptr rfl row24 info24) (by kernel_rfl), ?_⟩
    refine fcs ⟨Ob.new_ (ob_call2 45 19 21 22 _ rfl rfl (.inr ⟨_, _, _, rfl, rfl, by kernel_rfl, by decide, rfl⟩) (by kernel_rfl) (by kernel_rfl) (by kernel_rfl) (r_same l j q q true (decide_eq_true rfl))) (by kernel_rfl), ?_⟩
    refine fcs ⟨Ob.new_ (ob_pick 17 22 23 _ rfl rfl (.inl rfl) (by kernel_rfl) (by kernel_rfl) rfl rfl) (by kernel_rfl), ?_⟩
    refine fcs ⟨Ob.new_ (ob_copy 23 4 (.inr rfl) rfl (.inl rfl) (by kernel_rfl) rfl) (by kernel_rfl), ?_⟩
    exact fnl
  intro a2 w2 st2 hbr2 hfr
  have hs2 := hbr2.size
  have hb := up hb hbr2
  have st : St 24 [(4, Fact.eq (.bool true))] a2 w2 := st2.to (fcs ⟨st2.at_ 4, fnl⟩)
  clear st2 hbr2 hfr
  refine wpList_nil ?_
  refine then_normal ?_
  refine wp_ret ?_
  exact sym_ret1 rfl st.defers (resAt_tmp st 4) hb (fun _ h => h)
set_option maxRecDepth 100000 in
theorem z_valid (k : Nat) (x : Rat) (hk : k ≤ 300) : ∀ v0 w, (Fact.agg (Con.fr k x)).holds v0 w → Calls Tryz.prog 12 #[v0] w (Ret (Fact.eq (.bool true)) w) := by
  intro v0 w hv0
  cases hng : Rt.ng x with
  | false =>
    refine sym_calls 34 [(0, Fact.agg (Con.fr k x))] Tryz.func12 rfl rfl (Nat.le_of_ble_eq_true rfl) (fcs ⟨⟨Nat.le_of_ble_eq_true rfl, hv0⟩, fnl⟩) fun a st => ?_
    have hb := Below.refl w.heap.size w
    refine wp_seq ?_
    refine sym_region st [(1, Fact.var' (Con.fr k x)), (2, Fact.eq (.bool false))] [1] 2 (by kernel_rfl) (by kernel_rfl) (by kernel_rfl) (Nat.le_of_ble_eq_true rfl) (by kernel_rfl) rfl rfl ?_ ?_
    · refine fcs ⟨obn_box 26 0 1 _ (Con.fr k x) rfl rfl rfl (by kernel_rfl) rfl rfl, ?_⟩
      refine fcs ⟨Ob.new_ (ob_const (.bool false) 2 (.inr rfl) rfl (.inl rfl) rfl) (by kernel_rfl), ?_⟩
      exact fnl
    intro a1 w1 st1 hbr1 hfr
    have hs1 := hbr1.size
    have hb := up hb hbr1
    obtain ⟨b1, c1⟩ := (show (Fact.var' (Con.fr k x)).holds _ _ from st1.at_ 1)
    have g1 := hfr.ge (s := 1) rfl c1.1
    have st : St 34 [(1, Fact.cell b1 (Con.fr k x)), (2, Fact.eq (.bool false))] a1 w1 := st1.to (fcs ⟨c1, fcs ⟨st1.at_ 2, fnl⟩⟩)
    clear st1 hbr1 hfr c1
    refine wpList_nil ?_
    refine then_normal ?_
    refine wp_seq ?_
    refine wp_seq ?_
    refine sym_region st [(3, Fact.ptr (Con.nn k (Rt.tp x))), (4, Fact.agg (Con.nn k (Rt.tp x))), (5, Fact.eq (.bool true)), (6, Fact.eq (.bool false)), (7, Fact.eq (.bool false)), (8, Fact.ptr (Con.nn k (Rat.den x))), (9, Fact.agg (Con.nn k (Rat.den x))), (10, Fact.eq (.bool true)), (11, Fact.eq (.bool false)), (12, Fact.eq (.bool false)), (13, Fact.eq (.bool false)), (14, Fact.ptr (Con.nn k (Rat.den x))), (15, Fact.agg (Con.nn k (Rat.den x))), (16, Fact.eq (.bool false)), (17, Fact.eq (.bool false)), (18, Fact.eq (.bool false)), (19, Fact.ptr (Con.bool (Rt.ng x))), (20, Fact.eq (.bool false)), (21, Fact.eq (.bool false)), (22, Fact.eq undef), (23, Fact.eq undef), (24, Fact.eq undef), (25, Fact.eq (.bool false)), (26, Fact.eq (.bool false))] [] 24 (by kernel_rfl) (by kernel_rfl) (by kernel_rfl) (Nat.le_of_ble_eq_true rfl) (by kernel_rfl) rfl rfl ?_ ?_
    · refine fcs ⟨Ob.new_ (ob_addr 26 1 1 3 1 (Con.fr k x) (Con.nn k (Rt.tp x)) rfl rfl (.inl rfl) (by kernel_rfl) points_cell rfl (Con.fr_tp k x) field26_1) (by kernel_rfl), ?_⟩
      refine fcs ⟨Ob.new_ (ob_read 24 3 4 (Con.nn k (Rt.tp x)) rfl rfl (.inl rfl) (by kernel_rfl) points_ptr rfl row24 info24) (by kernel_rfl), ?_⟩
      refine fcs ⟨Ob.new_ (ob_call1 43 4 5 _ rfl rfl (.inl rfl) (by kernel_rfl) (by kernel_rfl) (r_valid k (Rt.tp x))) (by kernel_rfl), ?_⟩
      refine fcs ⟨Ob.new_ (ob_not 5 6 true false rfl rfl rfl (.inl rfl) (by kernel_rfl) rfl rfl) (by kernel_rfl), ?_⟩
      refine fcs ⟨Ob.new_ (ob_copy 6 7 (.inl rfl) rfl (.inl rfl) (by kernel_rfl) rfl) (by kernel_rfl), ?_⟩
      refine fcs ⟨Ob.new_ (ob_addr 26 2 1 8 2 (Con.fr k x) (Con.nn k (Rat.den x)) rfl rfl (.inr ⟨_, _, _, rfl, rfl, by kernel_rfl, by decide, rfl⟩) (by kernel_rfl) points_cell rfl (Con.fr_den k x) field26_2) (by kernel_rfl), ?_⟩
      refine fcs ⟨Ob.new_ (ob_read 24 8 9 (Con.nn k (Rat.den x)) rfl rfl (.inr ⟨_, _, _, rfl, rfl, by kernel_rfl, by decide, rfl⟩) (by kernel_rfl) points_ptr rfl row24 info24) (by kernel_rfl), ?_⟩
      refine fcs ⟨Ob.new_ (ob_call1 43 9 10 _ rfl rfl (.inr ⟨_, _, _, rfl, rfl, by kernel_rfl, by decide, rfl⟩) (by kernel_rfl) (by kernel_rfl) (r_valid k (Rat.den x))) (by kernel_rfl), ?_⟩
      refine fcs ⟨Ob.new_ (ob_not 10 11 true false rfl rfl rfl (.inr ⟨_, _, _, rfl, rfl, by kernel_rfl, by decide, rfl⟩) (by kernel_rfl) rfl rfl) (by kernel_rfl), ?_⟩
      refine fcs ⟨Ob.new_ (ob_pick_else 7 11 12 (.bool true) rfl rfl (.inl rfl) (by kernel_rfl) (by kernel_rfl) rfl rfl) (by kernel_rfl), ?_⟩
      refine fcs ⟨Ob.new_ (ob_copy 12 13 (.inl rfl) rfl (.inl rfl) (by kernel_rfl) rfl) (by kernel_rfl), ?_⟩
      refine fcs ⟨Ob.new_ (ob_addr 26 2 1 14 2 (Con.fr k x) (Con.nn k (Rat.den x)) rfl rfl (.inr ⟨_, _, _, rfl, rfl, by kernel_rfl, by decide, rfl⟩) (by kernel_rfl) points_cell rfl (Con.fr_den k x) field26_2) (by kernel_rfl), ?_⟩
      refine fcs ⟨Ob.new_ (ob_read 24 14 15 (Con.nn k (Rat.den x)) rfl rfl (.inr ⟨_, _, _, rfl, rfl, by kernel_rfl, by decide, rfl⟩) (by kernel_rfl) points_ptr rfl row24 info24) (by kernel_rfl), ?_⟩
      refine fcs ⟨Ob.new_ (ob_call1 44 15 16 _ rfl rfl (.inr ⟨_, _, _, rfl, rfl, by kernel_rfl, by decide, rfl⟩) (by kernel_rfl) (by kernel_rfl) (z_zero k (Rat.den x) false (decide_eq_false x.den_nz))) (by kernel_rfl), ?_⟩
      refine fcs ⟨Ob.new_ (ob_pick_else 13 16 17 (.bool true) rfl rfl (.inl rfl) (by kernel_rfl) (by kernel_rfl) rfl rfl) (by kernel_rfl), ?_⟩
      refine fcs ⟨Ob.new_ (ob_copy 17 18 (.inl rfl) rfl (.inl rfl) (by kernel_rfl) rfl) (by kernel_rfl), ?_⟩
      refine fcs ⟨Ob.new_ (ob_addr 26 0 1 19 0 (Con.fr k x) (Con.bool (Rt.ng x)) rfl rfl (.inr ⟨_, _, _, rfl, rfl, by kernel_rfl, by decide, rfl⟩) (by kernel_rfl) points_cell rfl (Con.fr_ng k x) field26_0) (by kernel_rfl), ?_⟩
      refine fcs ⟨Ob.new_ (ob_readb 19 20 (Rt.ng x) false hng rfl rfl (.inr ⟨_, _, _, rfl, rfl, by kernel_rfl, by decide, rfl⟩) (by kernel_rfl) points_ptr rfl) (by kernel_rfl), ?_⟩
      refine fcs ⟨Ob.new_ (ob_copy 20 21 (.inl rfl) rfl (.inr ⟨_, _, _, rfl, rfl, by kernel_rfl, by decide, rfl⟩) (by kernel_rfl) rfl) (by kernel_rfl), ?_⟩
      refine fcs ⟨Ob.new_ (ob_skip 18 21 22 true rfl rfl (by kernel_rfl) (by decide) rfl rfl rfl) (by kernel_rfl), ?_⟩
      refine fcs ⟨Ob.new_ (ob_skip 18 21 23 true rfl rfl (by kernel_rfl) (by decide) rfl rfl rfl) (by kernel_rfl), ?_⟩
      refine fcs ⟨Ob.new_ (ob_skip 18 21 24 true rfl rfl (by kernel_rfl) (by decide) rfl rfl rfl) (by kernel_rfl), ?_⟩
      refine fcs ⟨Ob.new_ (ob_pick_no 21 24 25 (.bool false) rfl rfl (.inr ⟨_, _, _, rfl, rfl, by kernel_rfl, by decide, rfl⟩) (by kernel_rfl) rfl rfl) (by kernel_rfl), ?_⟩
      refine fcs ⟨Ob.new_ (ob_pick_else 18 25 26 (.bool true) rfl rfl (.inl rfl) (by kernel_rfl) (by kernel_rfl) rfl rfl) (by kernel_rfl), ?_⟩
      exact fnl
    intro a2 w2 st2 hbr2 hfr
    have hs2 := hbr2.size
    have hb := up hb hbr2
    have st : St 34 [(1, Fact.cell b1 (Con.fr k x)), (2, Fact.eq (.bool false)), (26, Fact.eq (.bool false))] a2 w2 := st2.to (fcs ⟨st2.at_ 1, fcs ⟨st2.at_ 2, fcs ⟨st2.at_ 26, fnl⟩⟩⟩)
    clear st2 hbr2 hfr
    refine wpList_nil ?_
    refine then_normal ?_
    refine wp_cond_false (st.at_ 26) ?_
    refine wp_skip ?_
    refine then_normal ?_
    refine wp_seq ?_
    have st := st.to (ks' := [(1, Fact.cell b1 (Con.fr k x)), (26, Fact.eq (.bool false))]) (fcs ⟨st.at_ 1, fcs ⟨st.at_ 26, fnl⟩⟩)
    refine sym_region st [(27, Fact.ptr (Con.nn k (Rt.tp x))), (28, Fact.agg (Con.nn k (Rt.tp x))), (29, Fact.ptr (Con.nn k (Rat.den x))), (30, Fact.agg (Con.nn k (Rat.den x))), (31, Fact.agg (Con.nn k (Nat.gcd (Rt.tp x) (Rat.den x)))), (32, Fact.agg (Con.nn 1 1)), (33, Fact.eq (.bool true)), (2, Fact.eq (.bool true))] [] 8 (by kernel_rfl) (by kernel_rfl) (by kernel_rfl) (Nat.le_of_ble_eq_true rfl) (by kernel_rfl) rfl rfl ?_ ?_
    · refine fcs ⟨Ob.new_ (ob_addr 26 1 1 27 1 (Con.fr k x) (Con.nn k (Rt.tp x)) rfl rfl (.inl rfl) (by kernel_rfl) points_cell rfl (Con.fr_tp k x) field26_1) (by kernel_rfl), ?_⟩
      refine fcs ⟨Ob.new_ (ob_read 24 27 28 (Con.nn k (Rt.tp x)) rfl rfl (.inl rfl) (by kernel_rfl) points_ptr rfl row24 info24) (by kernel_rfl), ?_⟩
      refine fcs ⟨Ob.new_ (ob_addr 26 2 1 29 2 (Con.fr k x) (Con.nn k (Rat.den x)) rfl rfl (.inl rfl) (by kernel_rfl) points_cell rfl (Con.fr_den k x) field26_2) (by kernel_rfl), ?_⟩
      refine fcs ⟨Ob.new_ (ob_read 24 29 30 (Con.nn k (Rat.den x)) rfl rfl (.inl rfl) (by kernel_rfl) points_ptr rfl row24 info24) (by kernel_rfl), ?_⟩
      refine fcs ⟨Ob.new_ (ob_call2 46 28 30 31 _ rfl rfl (.inl rfl) (by kernel_rfl) (by kernel_rfl) (by kernel_rfl) (r_gcd k k (Rt.tp x) (Rat.den x) x.den_nz (by omega) (by omega))) (by kernel_rfl), ?_⟩
      refine fcs ⟨Ob.new_ (ob_callc 47 _ 32 _ rfl rfl (.inl rfl) (by kernel_rfl) (r_ofc 1 1 (by decide) (by unfold Nm.Sz; decide))) (by kernel_rfl), ?_⟩
      refine fcs ⟨Ob.new_ (ob_call2 45 31 32 33 _ rfl rfl (.inl rfl) (by kernel_rfl) (by kernel_rfl) (by kernel_rfl) (r_same k 1 (Nat.gcd (Rt.tp x) (Rat.den x)) 1 true (decide_eq_true (Rt.vld x).low))) (by kernel_rfl), ?_⟩
      refine fcs ⟨Ob.new_ (ob_copy 33 2 (.inr rfl) rfl (.inl rfl) (by kernel_rfl) rfl) (by kernel_rfl), ?_⟩
      exact fnl
    intro a3 w3 st3 hbr3 hfr
    have hs3 := hbr3.size
    have hb := up hb hbr3
    have st : St 34 [(2, Fact.eq (.bool true))] a3 w3 := st3.to (fcs ⟨st3.at_ 2, fnl⟩)
    clear st3 hbr3 hfr
    refine wpList_nil ?_
    refine then_normal ?_
    refine wp_ret ?_
    exact sym_ret1 rfl st.defers (resAt_tmp st 2) hb (fun _ h => h)
  | true =>
    refine sym_calls 34 [(0, Fact.agg (Con.fr k x))] Tryz.func12 rfl rfl (Nat.le_of_ble_eq_true rfl) (fcs ⟨⟨Nat.le_of_ble_eq_true rfl, hv0⟩, fnl⟩) fun a st => ?_
    have hb := Below.refl w.heap.size w
    refine wp_seq ?_
    refine sym_region st [(1, Fact.var' (Con.fr k x)), (2, Fact.eq (.bool false))] [1] 2 (by kernel_rfl) (by kernel_rfl) (by kernel_rfl) (Nat.le_of_ble_eq_true rfl) (by kernel_rfl) rfl rfl ?_ ?_
    · refine fcs ⟨obn_box 26 0 1 _ (Con.fr k x) rfl rfl rfl (by kernel_rfl) rfl rfl, ?_⟩
      refine fcs ⟨Ob.new_ (ob_const (.bool false) 2 (.inr rfl) rfl (.inl rfl) rfl) (by kernel_rfl), ?_⟩
      exact fnl
    intro a1 w1 st1 hbr1 hfr
    have hs1 := hbr1.size
    have hb := up hb hbr1
    obtain ⟨b1, c1⟩ := (show (Fact.var' (Con.fr k x)).holds _ _ from st1.at_ 1)
    have g1 := hfr.ge (s := 1) rfl c1.1
    have st : St 34 [(1, Fact.cell b1 (Con.fr k x)), (2, Fact.eq (.bool false))] a1 w1 := st1.to (fcs ⟨c1, fcs ⟨st1.at_ 2, fnl⟩⟩)
    clear st1 hbr1 hfr c1
    refine wpList_nil ?_
    refine then_normal ?_
    refine wp_seq ?_
    refine wp_seq ?_
    refine sym_region st [(3, Fact.ptr (Con.nn k (Rt.tp x))), (4, Fact.agg (Con.nn k (Rt.tp x))), (5, Fact.eq (.bool true)), (6, Fact.eq (.bool false)), (7, Fact.eq (.bool false)), (8, Fact.ptr (Con.nn k (Rat.den x))), (9, Fact.agg (Con.nn k (Rat.den x))), (10, Fact.eq (.bool true)), (11, Fact.eq (.bool false)), (12, Fact.eq (.bool false)), (13, Fact.eq (.bool false)), (14, Fact.ptr (Con.nn k (Rat.den x))), (15, Fact.agg (Con.nn k (Rat.den x))), (16, Fact.eq (.bool false)), (17, Fact.eq (.bool false)), (18, Fact.eq (.bool false)), (19, Fact.ptr (Con.bool (Rt.ng x))), (20, Fact.eq (.bool true)), (21, Fact.eq (.bool true)), (22, Fact.ptr (Con.nn k (Rt.tp x))), (23, Fact.agg (Con.nn k (Rt.tp x))), (24, Fact.eq (.bool false)), (25, Fact.eq (.bool false)), (26, Fact.eq (.bool false))] [] 24 (by kernel_rfl) (by kernel_rfl) (by kernel_rfl) (Nat.le_of_ble_eq_true rfl) (by kernel_rfl) rfl rfl ?_ ?_
    · refine fcs ⟨Ob.new_ (ob_addr 26 1 1 3 1 (Con.fr k x) (Con.nn k (Rt.tp x)) rfl rfl (.inl rfl) (by kernel_rfl) points_cell rfl (Con.fr_tp k x) field26_1) (by kernel_rfl), ?_⟩
      refine fcs ⟨Ob.new_ (ob_read 24 3 4 (Con.nn k (Rt.tp x)) rfl rfl (.inl rfl) (by kernel_rfl) points_ptr rfl row24 info24) (by kernel_rfl), ?_⟩
      refine fcs ⟨Ob.new_ (ob_call1 43 4 5 _ rfl rfl (.inl rfl) (by kernel_rfl) (by kernel_rfl) (r_valid k (Rt.tp x))) (by kernel_rfl), ?_⟩
      refine fcs ⟨Ob.new_ (ob_not 5 6 true false rfl rfl rfl (.inl rfl) (by kernel_rfl) rfl rfl) (by kernel_rfl), ?_⟩
      refine fcs ⟨Ob.new_ (ob_copy 6 7 (.inl rfl) rfl (.inl rfl) (by kernel_rfl) rfl) (by kernel_rfl), ?_⟩
      refine fcs ⟨Ob.new_ (ob_addr 26 2 1 8 2 (Con.fr k x) (Con.nn k (Rat.den x)) rfl rfl (.inr ⟨_, _, _, rfl, rfl, by kernel_rfl, by decide, rfl⟩) (by kernel_rfl) points_cell rfl (Con.fr_den k x) field26_2) (by kernel_rfl), ?_⟩
      refine fcs ⟨Ob.new_ (ob_read 24 8 9 (Con.nn k (Rat.den x)) rfl rfl (.inr ⟨_, _, _, rfl, rfl, by kernel_rfl, by decide, rfl⟩) (by kernel_rfl) points_ptr rfl row24 info24) (by kernel_rfl), ?_⟩
      refine fcs ⟨Ob.new_ (ob_call1 43 9 10 _ rfl rfl (.inr ⟨_, _, _, rfl, rfl, by kernel_rfl, by decide, rfl⟩) (by kernel_rfl) (by kernel_rfl) (r_valid k (Rat.den x))) (by kernel_rfl), ?_⟩
      refine fcs ⟨Ob.new_ (ob_not 10 11 true false rfl rfl rfl (.inr ⟨_, _, _, rfl, rfl, by kernel_rfl, by decide, rfl⟩) (by kernel_rfl) rfl rfl) (by kernel_rfl), ?_⟩
      refine fcs ⟨Ob.new_ (ob_pick_else 7 11 12 (.bool true) rfl rfl (.inl rfl) (by kernel_rfl) (by kernel_rfl) rfl rfl) (by kernel_rfl), ?_⟩
      refine fcs ⟨Ob.new_ (ob_copy 12 13 (.inl rfl) rfl (.inl rfl) (by kernel_rfl) rfl) (by kernel_rfl), ?_⟩
      refine fcs ⟨Ob.new_ (ob_addr 26 2 1 14 2 (Con.fr k x) (Con.nn k (Rat.den x)) rfl rfl (.inr ⟨_, _, _, rfl, rfl, by kernel_rfl, by decide, rfl⟩) (by kernel_rfl) points_cell rfl (Con.fr_den k x) field26_2) (by kernel_rfl), ?_⟩
      refine fcs ⟨Ob.new_ (ob_read 24 14 15 (Con.nn k (Rat.den x)) rfl rfl (.inr ⟨_, _, _, rfl, rfl, by kernel_rfl, by decide, rfl⟩) (by kernel_rfl) points_ptr rfl row24 info24) (by kernel_rfl), ?_⟩
      refine fcs ⟨Ob.new_ (ob_call1 44 15 16 _ rfl rfl (.inr ⟨_, _, _, rfl, rfl, by kernel_rfl, by decide, rfl⟩) (by kernel_rfl) (by kernel_rfl) (z_zero k (Rat.den x) false (decide_eq_false x.den_nz))) (by kernel_rfl), ?_⟩
      refine fcs ⟨Ob.new_ (ob_pick_else 13 16 17 (.bool true) rfl rfl (.inl rfl) (by kernel_rfl) (by kernel_rfl) rfl rfl) (by kernel_rfl), ?_⟩
      refine fcs ⟨Ob.new_ (ob_copy 17 18 (.inl rfl) rfl (.inl rfl) (by kernel_rfl) rfl) (by kernel_rfl), ?_⟩
      refine fcs ⟨Ob.new_ (ob_addr 26 0 1 19 0 (Con.fr k x) (Con.bool (Rt.ng x)) rfl rfl (.inr ⟨_, _, _, rfl, rfl, by kernel_rfl, by decide, rfl⟩) (by kernel_rfl) points_cell rfl (Con.fr_ng k x) field26_0) (by kernel_rfl), ?_⟩
      refine fcs ⟨Ob.new_ (ob_readb 19 20 (Rt.ng x) true hng rfl rfl (.inr ⟨_, _, _, rfl, rfl, by kernel_rfl, by decide, rfl⟩) (by kernel_rfl) points_ptr rfl) (by kernel_rfl), ?_⟩
      refine fcs ⟨Ob.new_ (ob_copy 20 21 (.inl rfl) rfl (.inr ⟨_, _, _, rfl, rfl, by kernel_rfl, by decide, rfl⟩) (by kernel_rfl) rfl) (by kernel_rfl), ?_⟩
      refine fcs ⟨Ob.new_ (ob_addr 26 1 1 22 1 (Con.fr k x) (Con.nn k (Rt.tp x)) rfl rfl (.inr ⟨_, _, _, rfl, rfl, by kernel_rfl, by decide, rfl⟩) (by kernel_rfl) points_cell rfl (Con.fr_tp k x) field26_1) (by kernel_rfl), ?_⟩
      refine fcs ⟨Ob.new_ (ob_read 24 22 23 (Con.nn k (Rt.tp x)) rfl rfl (.inr ⟨_, _, _, rfl, rfl, by kernel_rfl, by decide, rfl⟩) (by kernel_rfl) points_ptr rfl row24 info24) (by kernel_rfl), ?_⟩
      refine fcs ⟨Ob.new_ (ob_call1 44 23 24 _ rfl rfl (.inr ⟨_, _, _, rfl, rfl, by kernel_rfl, by decide, rfl⟩) (by kernel_rfl) (by kernel_rfl) (z_zero k (Rt.tp x) false (decide_eq_false ((Rt.vld x).zero hng)))) (by kernel_rfl), ?_⟩
      refine fcs ⟨Ob.new_ (ob_pick 21 24 25 _ rfl rfl (.inr ⟨_, _, _, rfl, rfl, by kernel_rfl, by decide, rfl⟩) (by kernel_rfl) (by kernel_rfl) rfl rfl) (by kernel_rfl), ?_⟩
      refine fcs ⟨Ob.new_ (ob_pick_else 18 25 26 (.bool true) rfl rfl (.inl rfl) (by kernel_rfl) (by kernel_rfl) rfl rfl) (by kernel_rfl), ?_⟩
      exact fnl
    intro a2 w2 st2 hbr2 hfr
    have hs2 := hbr2.size
    have hb := up hb hbr2
    have st : St 34 [(1, Fact.cell b1 (Con.fr k x)), (2, Fact.eq (.bool false)), (26, Fact.eq (.bool false))] a2 w2 := st2.to (fcs ⟨st2.at_ 1, fcs ⟨st2.at_ 2, fcs ⟨st2.at_ 26, fnl⟩⟩⟩)
    clear st2 hbr2 hfr
    refine wpList_nil ?_
    refine then_normal ?_
    refine wp_cond_false (st.at_ 26) ?_
    refine wp_skip ?_
    refine then_normal ?_
    refine wp_seq ?_
    have st := st.to (ks' := [(1, Fact.cell b1 (Con.fr k x)), (26, Fact.eq (.bool false))]) (fcs ⟨st.at_ 1, fcs ⟨st.at_ 26, fnl⟩⟩)
    refine sym_region st [(27, Fact.ptr (Con.nn k (Rt.tp x))), (28, Fact.agg (Con.nn k (Rt.tp x))), (29, Fact.ptr (Con.nn k (Rat.den x))), (30, Fact.agg (Con.nn k (Rat.den x))), (31, Fact.agg (Con.nn k (Nat.gcd (Rt.tp x) (Rat.den x)))), (32, Fact.agg (Con.nn 1 1)), (33, Fact.eq (.bool true)), (2, Fact.eq (.bool true))] [] 8 (by kernel_rfl) (by kernel_rfl) (by kernel_rfl) (Nat.le_of_ble_eq_true rfl) (by kernel_rfl) rfl rfl ?_ ?_
    · refine fcs ⟨Ob.new_ (ob_addr 26 1 1 27 1 (Con.fr k x) (Con.nn k (Rt.tp x)) rfl rfl (.inl rfl) (by kernel_rfl) points_cell rfl (Con.fr_tp k x) field26_1) (by kernel_rfl), ?_⟩
      refine fcs ⟨Ob.new_ (ob_read 24 27 28 (Con.nn k (Rt.tp x)) rfl rfl (.inl rfl) (by kernel_rfl) points_ptr rfl row24 info24) (by kernel_rfl), ?_⟩
      refine fcs ⟨Ob.new_ (ob_addr 26 2 1 29 2 (Con.fr k x) (Con.nn k (Rat.den x)) rfl rfl (.inl rfl) (by kernel_rfl) points_cell rfl (Con.fr_den k x) field26_2) (by kernel_rfl), ?_⟩
      refine fcs ⟨Ob.new_ (ob_read 24 29 30 (Con.nn k (Rat.den x)) rfl rfl (.inl rfl) (by kernel_rfl) points_ptr rfl row24 info24) (by kernel_rfl), ?_⟩
      refine fcs ⟨Ob.new_ (ob_call2 46 28 30 31 _ rfl rfl (.inl rfl) (by kernel_rfl) (by kernel_rfl) (by kernel_rfl) (r_gcd k k (Rt.tp x) (Rat.den x) x.den_nz (by omega) (by omega))) (by kernel_rfl), ?_⟩
      refine fcs ⟨Ob.new_ (ob_callc 47 _ 32 _ rfl rfl (.inl rfl) (by kernel_rfl) (r_ofc 1 1 (by decide) (by unfold Nm.Sz; decide))) (by kernel_rfl), ?_⟩
      refine fcs ⟨Ob.new_ (ob_call2 45 31 32 33 _ rfl rfl (.inl rfl) (by kernel_rfl) (by kernel_rfl) (by kernel_rfl) (r_same k 1 (Nat.gcd (Rt.tp x) (Rat.den x)) 1 true (decide_eq_true (Rt.vld x).low))) (by kernel_rfl), ?_⟩
      refine fcs ⟨Ob.new_ (ob_copy 33 2 (.inr rfl) rfl (.inl rfl) (by kernel_rfl) rfl) (by kernel_rfl), ?_⟩
      exact fnl
    intro a3 w3 st3 hbr3 hfr
    have hs3 := hbr3.size
    have hb := up hb hbr3
    have st : St 34 [(2, Fact.eq (.bool true))] a3 w3 := st3.to (fcs ⟨st3.at_ 2, fnl⟩)
    clear st3 hbr3 hfr
    refine wpList_nil ?_
    refine then_normal ?_
    refine wp_ret ?_
    exact sym_ret1 rfl st.defers (resAt_tmp st 2) hb (fun _ h => h)
end Go.Proofs.YtjfehdkfogdpgaaGreatDoor
namespace Go.Proofs.YtjfehdkfogdpgaaGreatDoor
open Go.RowKit
theorem amt_lt {n : Int} (h : -9223372036854775808 ≤ n ∧ n ≤ 9223372036854775807) : n.natAbs < 18446744073709551616 := by omega
section
variable {ops : Array Oper} {Q : Exit → Act → World → Prop} {F : Nat → Fact} {base : List Nat} {N : Nat} {o : Oper}
theorem ob_conv64 (t d : Nat) (z r : Int) (hr : IntKind.u64.wrap z = r) (ho : o.op = .convert 2 57 (.tmp t)) (hd : o.dst = some d) (hg : GuardOk ops F base N o) (hk : known ops base o t = true) (hv : F t = Fact.eq (.int .i64 z)) (hF : F d = Fact.eq (.int .u64 r)) : Ob ops Q F base N o :=
  ob_one t d _ _ hd hg hk hv hF fun a w h1 => by
    subst hr
    simp [execOp, ho, h1]
    go_simp
theorem ob_neg64 (t d : Nat) (z r : Int) (hr : IntKind.u64.wrap (-z) = r) (ho : o.op = .unOp .neg 57 (.tmp t)) (hd : o.dst = some d) (hg : GuardOk ops F base N o) (hk : known ops base o t = true) (hv : F t = Fact.eq (.int .u64 z)) (hF : F d = Fact.eq (.int .u64 r)) : Ob ops Q F base N o :=
  ob_one t d _ _ hd hg hk hv hF fun a w h1 => by
    subst hr
    simp [execOp, ho, h1]
    go_simp
end
end Go.Proofs.YtjfehdkfogdpgaaGreatDoor
namespace Go.Proofs.YtjfehdkfogdpgaaGreatDoor
open Go.RowKit
set_option maxRecDepth 100000 in
theorem q_magnitude (n : Int) (h : -9223372036854775808 ≤ n ∧ n ≤ 9223372036854775807) : ∀ v0 w, (Fact.eq (.int .i64 n)).holds v0 w → Calls Tryz.prog 65 #[v0] w (Ret (Fact.nn 2 (Int.natAbs n)) w) := by
  intro v0 w hv0
  cases hn : decide (n < 0) with
  | false =>
    have h0 : 0 ≤ n := by have := of_decide_eq_false hn; omega
    have hc : IntKind.u64.wrap n = ((Int.natAbs n : Nat) : Int) := by rw [IntKind.wrap_u64]; omega
    refine sym_calls 12 [(0, Fact.eq (.int .i64 n))] Tryz.func65 rfl rfl (Nat.le_of_ble_eq_true rfl) (fcs ⟨⟨Nat.le_of_ble_eq_true rfl, hv0⟩, fnl⟩) fun a st => ?_
    have hb := Below.refl w.heap.size w
    refine wp_seq ?_
    refine sym_region st [(2, Fact.var' (Con.raw 1))] [2] 1 (by kernel_rfl) (by kernel_rfl) (by kernel_rfl) (Nat.le_of_ble_eq_true rfl) (by kernel_rfl) rfl rfl ?_ ?_
    · refine fcs ⟨obn_new 24 2 _ [.slice none 0 0] rfl rfl rfl rfl rfl alloc24, ?_⟩
      exact fnl
    intro a1 w1 st1 hbr1 hfr
    have hs1 := hbr1.size
    have hb := up hb hbr1
    obtain ⟨b2, c2⟩ := (show (Fact.var' (Con.raw 1)).holds _ _ from st1.at_ 2)
    have g2 := hfr.ge (s := 2) rfl c2.1
    have st : St 12 [(0, Fact.eq (.int .i64 n)), (2, Fact.cell b2 (Con.raw 1))] a1 w1 := st1.to (fcs ⟨st1.at_ 0, fcs ⟨c2, fnl⟩⟩)
    clear st1 hbr1 hfr c2
    refine wpList_nil ?_
    refine then_normal ?_
    refine wp_seq ?_
    refine wp_seq ?_
    refine sym_region st [(3, Fact.eq (.int .i64 n)), (4, Fact.eq (.bool false))] [] 2 (by kernel_rfl) (by kernel_rfl) (by kernel_rfl) (Nat.le_of_ble_eq_true rfl) (by kernel_rfl) rfl rfl ?_ ?_
    · refine fcs ⟨Ob.new_ (ob_copy 0 3 (.inl rfl) rfl (.inl rfl) (by kernel_rfl) rfl) (by kernel_rfl), ?_⟩
      refine fcs ⟨Ob.new_ (ob_ltc 3 4 .i64 2 _ n 0 false hn rfl rfl (.inl rfl) (by kernel_rfl) rfl rfl) (by kernel_rfl), ?_⟩
      exact fnl
    intro a2 w2 st2 hbr2 hfr
    have hs2 := hbr2.size
    have hb := up hb hbr2
    have st : St 12 [(0, Fact.eq (.int .i64 n)), (2, Fact.cell b2 (Con.raw 1)), (4, Fact.eq (.bool false))] a2 w2 := st2.to (fcs ⟨st2.at_ 0, fcs ⟨st2.at_ 2, fcs ⟨st2.at_ 4, fnl⟩⟩⟩)
    clear st2 hbr2 hfr
    refine wpList_nil ?_
    refine then_normal ?_
    refine wp_cond_false (st.at_ 4) ?_
    refine wp_skip ?_
    refine then_normal ?_
    refine wp_seq ?_
    refine sym_region st [(9, Fact.eq (.int .i64 n)), (10, Fact.eq (.int .u64 ((Int.natAbs n : Nat) : Int))), (11, Fact.agg (Con.nn 2 (Int.natAbs n)))] [] 3 (by kernel_rfl) (by kernel_rfl) (by kernel_rfl) (Nat.le_of_ble_eq_true rfl) (by kernel_rfl) rfl rfl ?_ ?_
    · refine fcs ⟨Ob.new_ (ob_copy 0 9 (.inl rfl) rfl (.inl rfl) (by kernel_rfl) rfl) (by kernel_rfl), ?_⟩
      refine fcs ⟨Ob.new_ (ob_conv64 9 10 n ((Int.natAbs n : Nat) : Int) hc rfl rfl (.inl rfl) (by kernel_rfl) rfl rfl) (by kernel_rfl), ?_⟩
      refine fcs ⟨Ob.new_ (ob_call1 61 10 11 _ rfl rfl (.inl rfl) (by kernel_rfl) (by kernel_rfl) (n_ofv 2 (Int.natAbs n) (amt_lt h) (of_sz (amt_lt h)) (by decide))) (by kernel_rfl), ?_⟩
      exact fnl
    intro a3 w3 st3 hbr3 hfr
    have hs3 := hbr3.size
    have hb := up hb hbr3
    have st : St 12 [(2, Fact.cell b2 (Con.raw 1)), (11, Fact.agg (Con.nn 2 (Int.natAbs n)))] a3 w3 := st3.to (fcs ⟨st3.at_ 2, fcs ⟨st3.at_ 11, fnl⟩⟩)
    clear st3 hbr3 hfr
    refine sym_store st 24 2 11 b2 (Con.raw 1) (Con.nn 2 (Int.natAbs n)) [(2, Fact.cell b2 (Con.nn 2 (Int.natAbs n)))] rfl rfl rfl rfl rfl rfl info24 ?_ ?_
    · exact fcs ⟨.inl rfl, fnl⟩
    clear st; intro w4 hB hsz4 st
    have hb := hB _ _ hb (by omega) (by omega)
    clear hB
    refine wpList_nil ?_
    refine then_normal ?_
    refine wp_ret ?_
    exact sym_ret1 rfl st.defers (resAt_cell st 2 b2 24 (Con.nn 2 (Int.natAbs n)) rfl row24 info24) hb (fun _ h => h)
  | true =>
    have h0 : n < 0 := of_decide_eq_true hn
    have hc : IntKind.u64.wrap n = n + 18446744073709551616 := by rw [IntKind.wrap_u64]; omega
    have hg : IntKind.u64.wrap (-(n + 18446744073709551616)) = ((Int.natAbs n : Nat) : Int) := by rw [IntKind.wrap_u64]; omega
    refine sym_calls 12 [(0, Fact.eq (.int .i64 n))] Tryz.func65 rfl rfl (Nat.le_of_ble_eq_true rfl) (fcs ⟨⟨Nat.le_of_ble_eq_true rfl, hv0⟩, fnl⟩) fun a st => ?_
    have hb := Below.refl w.heap.size w
    refine wp_seq ?_
    refine sym_region st [(2, Fact.var' (Con.raw 1))] [2] 1 (by kernel_rfl) (by kernel_rfl) (by kernel_rfl) (Nat.le_of_ble_eq_true rfl) (by kernel_rfl) rfl rfl ?_ ?_
    · refine fcs ⟨obn_new 24 2 _ [.slice none 0 0] rfl rfl rfl rfl rfl alloc24, ?_⟩
      exact fnl
    intro a1 w1 st1 hbr1 hfr
    have hs1 := hbr1.size
    have hb := up hb hbr1
    obtain ⟨b2, c2⟩ := (show (Fact.var' (Con.raw 1)).holds _ _ from st1.at_ 2)
    have g2 := hfr.ge (s := 2) rfl c2.1
    have st : St 12 [(0, Fact.eq (.int .i64 n)), (2, Fact.cell b2 (Con.raw 1))] a1 w1 := st1.to (fcs ⟨st1.at_ 0, fcs ⟨c2, fnl⟩⟩)
    clear st1 hbr1 hfr c2
    refine wpList_nil ?_
    refine then_normal ?_
    refine wp_seq ?_
    refine wp_seq ?_
    refine sym_region st [(3, Fact.eq (.int .i64 n)), (4, Fact.eq (.bool true))] [] 2 (by kernel_rfl) (by kernel_rfl) (by kernel_rfl) (Nat.le_of_ble_eq_true rfl) (by kernel_rfl) rfl rfl ?_ ?_
    · refine fcs ⟨Ob.new_ (ob_copy 0 3 (.inl rfl) rfl (.inl rfl) (by kernel_rfl) rfl) (by kernel_rfl), ?_⟩
      refine fcs ⟨Ob.new_ (ob_ltc 3 4 .i64 2 _ n 0 true hn rfl rfl (.inl rfl) (by kernel_rfl) rfl rfl) (by kernel_rfl), ?_⟩
      exact fnl
    intro a2 w2 st2 hbr2 hfr
    have hs2 := hbr2.size
    have hb := up hb hbr2
    have st : St 12 [(0, Fact.eq (.int .i64 n)), (2, Fact.cell b2 (Con.raw 1)), (4, Fact.eq (.bool true))] a2 w2 := st2.to (fcs ⟨st2.at_ 0, fcs ⟨st2.at_ 2, fcs ⟨st2.at_ 4, fnl⟩⟩⟩)
    clear st2 hbr2 hfr
    refine wpList_nil ?_
    refine then_normal ?_
    refine wp_cond_true (st.at_ 4) ?_
    refine wp_seq ?_
    refine sym_region st [(5, Fact.eq (.int .i64 n)), (6, Fact.eq (.int .u64 (n + 18446744073709551616))), (7, Fact.eq (.int .u64 ((Int.natAbs n : Nat) : Int))), (8, Fact.agg (Con.nn 2 (Int.natAbs n)))] [] 4 (by kernel_rfl) (by kernel_rfl) (by kernel_rfl) (Nat.le_of_ble_eq_true rfl) (by kernel_rfl) rfl rfl ?_ ?_
    · refine fcs ⟨Ob.new_ (ob_copy 0 5 (.inl rfl) rfl (.inl rfl) (by kernel_rfl) rfl) (by kernel_rfl), ?_⟩
      refine fcs ⟨Ob.new_ (ob_conv64 5 6 n (n + 18446744073709551616) hc rfl rfl (.inl rfl) (by kernel_rfl) rfl rfl) (by kernel_rfl), ?_⟩
      refine fcs ⟨Ob.new_ (ob_neg64 6 7 (n + 18446744073709551616) ((Int.natAbs n : Nat) : Int) hg rfl rfl (.inl rfl) (by kernel_rfl) rfl rfl) (by kernel_rfl), ?_⟩
      refine fcs ⟨Ob.new_ (ob_call1 61 7 8 _ rfl rfl (.inl rfl) (by kernel_rfl) (by kernel_rfl) (n_ofv 2 (Int.natAbs n) (amt_lt h) (of_sz (amt_lt h)) (by decide))) (by kernel_rfl), ?_⟩
      exact fnl
    intro a3 w3 st3 hbr3 hfr
    have hs3 := hbr3.size
    have hb := up hb hbr3
    have st : St 12 [(0, Fact.eq (.int .i64 n)), (2, Fact.cell b2 (Con.raw 1)), (8, Fact.agg (Con.nn 2 (Int.natAbs n)))] a3 w3 := st3.to (fcs ⟨st3.at_ 0, fcs ⟨st3.at_ 2, fcs ⟨st3.at_ 8, fnl⟩⟩⟩)
    clear st3 hbr3 hfr
    refine sym_store st 24 2 8 b2 (Con.raw 1) (Con.nn 2 (Int.natAbs n)) [(0, Fact.eq (.int .i64 n)), (2, Fact.cell b2 (Con.nn 2 (Int.natAbs n)))] rfl rfl rfl rfl rfl rfl info24 ?_ ?_
    · exact fcs ⟨.inr ⟨rfl, safe_eq _ _⟩, fcs ⟨.inl rfl, fnl⟩⟩
    clear st; intro w4 hB hsz4 st
    have hb := hB _ _ hb (by omega) (by omega)
    clear hB
    refine wpList_nil ?_
    refine then_normal ?_
    refine wp_ret ?_
    exact sym_ret1 rfl st.defers (resAt_cell st 2 b2 24 (Con.nn 2 (Int.natAbs n)) rfl row24 info24) hb (fun _ h => h)
set_option maxRecDepth 100000 in
theorem q_ratio_of (n m : Int) (h : -9223372036854775808 ≤ n ∧ n ≤ 9223372036854775807) (h2 : -9223372036854775808 ≤ m ∧ m ≤ 9223372036854775807) (hm : Int.natAbs m ≠ 0) : ∀ v0 v1 w, (Fact.eq (.int .i64 n)).holds v0 w → (Fact.eq (.int .i64 m)).holds v1 w → Calls Tryz.prog 37 #[v0, v1] w (Ret (Fact.two (Fact.fr 2 (Rt.of ((decide (n < 0)) != (decide (m < 0))) (Int.natAbs n) (Int.natAbs m))) (Fact.eq (.int .i64 0))) w) := by
  intro v0 v1 w hv0 hv1
  refine sym_calls 18 [(0, Fact.eq (.int .i64 n)), (1, Fact.eq (.int .i64 m))] Tryz.func37 rfl rfl (Nat.le_of_ble_eq_true rfl) (fcs ⟨⟨Nat.le_of_ble_eq_true rfl, hv0⟩, fcs ⟨⟨Nat.le_of_ble_eq_true rfl, hv1⟩, fnl⟩⟩) fun a st => ?_
  have hb := Below.refl w.heap.size w
  refine wp_seq ?_
  refine sym_region st [(4, Fact.var' (Con.raw 3)), (5, Fact.eq (.int .i64 0))] [4] 2 (by kernel_rfl) (by kernel_rfl) (by kernel_rfl) (Nat.le_of_ble_eq_true rfl) (by kernel_rfl) rfl rfl ?_ ?_
  · refine fcs ⟨obn_new 26 4 _ [.bool false, .slice none 0 0, .slice none 0 0] rfl rfl rfl rfl rfl alloc26, ?_⟩
    refine fcs ⟨Ob.new_ (ob_const (.int .i64 0) 5 (.inr rfl) rfl (.inl rfl) rfl) (by kernel_rfl), ?_⟩
    exact fnl
  intro a1 w1 st1 hbr1 hfr
  have hs1 := hbr1.size
  have hb := up hb hbr1
  obtain ⟨b4, c4⟩ := (show (Fact.var' (Con.raw 3)).holds _ _ from st1.at_ 4)
  have g4 := hfr.ge (s := 4) rfl c4.1
  have st : St 18 [(0, Fact.eq (.int .i64 n)), (1, Fact.eq (.int .i64 m)), (4, Fact.cell b4 (Con.raw 3)), (5, Fact.eq (.int .i64 0))] a1 w1 := st1.to (fcs ⟨st1.at_ 0, fcs ⟨st1.at_ 1, fcs ⟨c4, fcs ⟨st1.at_ 5, fnl⟩⟩⟩⟩)
  clear st1 hbr1 hfr c4
  refine wpList_nil ?_
  refine then_normal ?_
  refine wp_seq ?_
  have st := st.to (ks' := [(0, Fact.eq (.int .i64 n)), (1, Fact.eq (.int .i64 m)), (4, Fact.cell b4 (Con.raw 3))]) (fcs ⟨st.at_ 0, fcs ⟨st.at_ 1, fcs ⟨st.at_ 4, fnl⟩⟩⟩)
  refine sym_region st [(6, Fact.eq (.int .i64 n)), (7, Fact.eq (.bool (decide (n < 0)))), (8, Fact.eq (.int .i64 m)), (9, Fact.eq (.bool (decide (m < 0)))), (10, Fact.eq (.bool ((decide (n < 0)) != (decide (m < 0))))), (11, Fact.eq (.int .i64 n)), (12, Fact.agg (Con.nn 2 (Int.natAbs n))), (13, Fact.eq (.int .i64 m)), (14, Fact.agg (Con.nn 2 (Int.natAbs m))), (15, Fact.two (Fact.agg (Con.fr 2 (Rt.of ((decide (n < 0)) != (decide (m < 0))) (Int.natAbs n) (Int.natAbs m)))) (Fact.eq (.int .i64 0))), (16, Fact.agg (Con.fr 2 (Rt.of ((decide (n < 0)) != (decide (m < 0))) (Int.natAbs n) (Int.natAbs m)))), (17, Fact.eq (.int .i64 0))] [] 12 (by kernel_rfl) (by kernel_rfl) (by kernel_rfl) (Nat.le_of_ble_eq_true rfl) (by kernel_rfl) rfl rfl ?_ ?_
  · refine fcs ⟨Ob.new_ (ob_copy 0 6 (.inl rfl) rfl (.inl rfl) (by kernel_rfl) rfl) (by kernel_rfl), ?_⟩
    refine fcs ⟨Ob.new_ (ob_ltc 6 7 .i64 2 _ n 0 (decide (n < 0)) rfl rfl rfl (.inl rfl) (by kernel_rfl) rfl rfl) (by kernel_rfl), ?_⟩
    refine fcs ⟨Ob.new_ (ob_copy 1 8 (.inl rfl) rfl (.inl rfl) (by kernel_rfl) rfl) (by kernel_rfl), ?_⟩
    refine fcs ⟨Ob.new_ (ob_ltc 8 9 .i64 2 _ m 0 (decide (m < 0)) rfl rfl rfl (.inl rfl) (by kernel_rfl) rfl rfl) (by kernel_rfl), ?_⟩
    refine fcs ⟨Ob.new_ (ob_neb 7 9 10 (decide (n < 0)) (decide (m < 0)) ((decide (n < 0)) != (decide (m < 0))) rfl rfl rfl (.inl rfl) (by kernel_rfl) (by kernel_rfl) rfl rfl rfl) (by kernel_rfl), ?_⟩
    refine fcs ⟨Ob.new_ (ob_copy 0 11 (.inl rfl) rfl (.inl rfl) (by kernel_rfl) rfl) (by kernel_rfl), ?_⟩
    refine fcs ⟨Ob.new_ (ob_call1 65 11 12 _ rfl rfl (.inl rfl) (by kernel_rfl) (by kernel_rfl) (q_magnitude n h)) (by kernel_rfl), ?_⟩
    refine fcs ⟨Ob.new_ (ob_copy 1 13 (.inl rfl) rfl (.inl rfl) (by kernel_rfl) rfl) (by kernel_rfl), ?_⟩
    refine fcs ⟨Ob.new_ (ob_call1 65 13 14 _ rfl rfl (.inl rfl) (by kernel_rfl) (by kernel_rfl) (q_magnitude m h2)) (by kernel_rfl), ?_⟩
    refine fcs ⟨Ob.new_ (ob_call3 51 10 12 14 15 _ rfl rfl (.inl rfl) (by kernel_rfl) (by kernel_rfl) (by kernel_rfl) (by kernel_rfl) (q_make 2 2 2 ((decide (n < 0)) != (decide (m < 0))) (Int.natAbs n) (Int.natAbs m) hm (by omega) (by omega) (by omega))) (by kernel_rfl), ?_⟩
    refine fcs ⟨Ob.new_ (ob_fst 15 16 (Fact.agg (Con.fr 2 (Rt.of ((decide (n < 0)) != (decide (m < 0))) (Int.natAbs n) (Int.natAbs m)))) (Fact.eq (.int .i64 0)) rfl rfl (.inl rfl) (by kernel_rfl) rfl rfl) (by kernel_rfl), ?_⟩
    refine fcs ⟨Ob.new_ (ob_snd 15 17 (Fact.agg (Con.fr 2 (Rt.of ((decide (n < 0)) != (decide (m < 0))) (Int.natAbs n) (Int.natAbs m)))) (Fact.eq (.int .i64 0)) rfl rfl (.inl rfl) (by kernel_rfl) rfl rfl) (by kernel_rfl), ?_⟩
    exact fnl
  intro a2 w2 st2 hbr2 hfr
  have hs2 := hbr2.size
  have hb := up hb hbr2
  have st : St 18 [(4, Fact.cell b4 (Con.raw 3)), (16, Fact.agg (Con.fr 2 (Rt.of ((decide (n < 0)) != (decide (m < 0))) (Int.natAbs n) (Int.natAbs m)))), (17, Fact.eq (.int .i64 0))] a2 w2 := st2.to (fcs ⟨st2.at_ 4, fcs ⟨st2.at_ 16, fcs ⟨st2.at_ 17, fnl⟩⟩⟩)
  clear st2 hbr2 hfr
  refine sym_store st 26 4 16 b4 (Con.raw 3) (Con.fr 2 (Rt.of ((decide (n < 0)) != (decide (m < 0))) (Int.natAbs n) (Int.natAbs m))) [(4, Fact.cell b4 (Con.fr 2 (Rt.of ((decide (n < 0)) != (decide (m < 0))) (Int.natAbs n) (Int.natAbs m)))), (17, Fact.eq (.int .i64 0))] rfl rfl rfl rfl rfl rfl info26 ?_ ?_
  · exact fcs ⟨.inl rfl, fcs ⟨.inr ⟨rfl, safe_eq _ _⟩, fnl⟩⟩
  clear st; intro w3 hB hsz3 st
  have hb := hB _ _ hb (by omega) (by omega)
  clear hB
  refine sym_op st 5 (Fact.eq (.int .i64 0)) rfl (Nat.le_of_ble_eq_true rfl) rfl rfl (by kernel_rfl) (ob_copy 17 5 (.inr rfl) rfl (.inl rfl) (by kernel_rfl) rfl) ?_
  clear st; intro a4 w4 hbr st; have hs4 := hbr.size; have hb := up hb hbr; clear hbr
  refine wpList_nil ?_
  refine then_normal ?_
  refine wp_ret ?_
  exact sym_ret2 rfl st.defers (resAt_cell st 4 b4 26 (Con.fr 2 (Rt.of ((decide (n < 0)) != (decide (m < 0))) (Int.natAbs n) (Int.natAbs m))) rfl row26 info26) (resAt_tmp st 5) hb (fun v u h1 h2 => ⟨v, u, rfl, h1, h2⟩)
set_option maxRecDepth 100000 in
theorem q_ratio0 (n m : Int) (h : -9223372036854775808 ≤ n ∧ n ≤ 9223372036854775807) (h2 : -9223372036854775808 ≤ m ∧ m ≤ 9223372036854775807) (hm : Int.natAbs m = 0) : ∀ v0 v1 w, (Fact.eq (.int .i64 n)).holds v0 w → (Fact.eq (.int .i64 m)).holds v1 w → Calls Tryz.prog 37 #[v0, v1] w (Ret (Fact.two (Fact.agg (Con.tri 1 1 false 0 0)) (Fact.eq (.int .i64 8))) w) := by
  intro v0 v1 w hv0 hv1
  refine sym_calls 18 [(0, Fact.eq (.int .i64 n)), (1, Fact.eq (.int .i64 m))] Tryz.func37 rfl rfl (Nat.le_of_ble_eq_true rfl) (fcs ⟨⟨Nat.le_of_ble_eq_true rfl, hv0⟩, fcs ⟨⟨Nat.le_of_ble_eq_true rfl, hv1⟩, fnl⟩⟩) fun a st => ?_
  have hb := Below.refl w.heap.size w
  refine wp_seq ?_
  refine sym_region st [(4, Fact.var' (Con.raw 3)), (5, Fact.eq (.int .i64 0))] [4] 2 (by kernel_rfl) (by kernel_rfl) (by kernel_rfl) (Nat.le_of_ble_eq_true rfl) (by kernel_rfl) rfl rfl ?_ ?_
  · refine fcs ⟨obn_new 26 4 _ [.bool false, .slice none 0 0, .slice none 0 0] rfl rfl rfl rfl rfl alloc26, ?_⟩
    refine fcs ⟨Ob.new_ (ob_const (.int .i64 0) 5 (.inr rfl) rfl (.inl rfl) rfl) (by kernel_rfl), ?_⟩
    exact fnl
  intro a1 w1 st1 hbr1 hfr
  have hs1 := hbr1.size
  have hb := up hb hbr1
  obtain ⟨b4, c4⟩ := (show (Fact.var' (Con.raw 3)).holds _ _ from st1.at_ 4)
  have g4 := hfr.ge (s := 4) rfl c4.1
  have st : St 18 [(0, Fact.eq (.int .i64 n)), (1, Fact.eq (.int .i64 m)), (4, Fact.cell b4 (Con.raw 3)), (5, Fact.eq (.int .i64 0))] a1 w1 := st1.to (fcs ⟨st1.at_ 0, fcs ⟨st1.at_ 1, fcs ⟨c4, fcs ⟨st1.at_ 5, fnl⟩⟩⟩⟩)
  clear st1 hbr1 hfr c4
  refine wpList_nil ?_
  refine then_normal ?_
  refine wp_seq ?_
  have st := st.to (ks' := [(0, Fact.eq (.int .i64 n)), (1, Fact.eq (.int .i64 m)), (4, Fact.cell b4 (Con.raw 3))]) (fcs ⟨st.at_ 0, fcs ⟨st.at_ 1, fcs ⟨st.at_ 4, fnl⟩⟩⟩)
  refine sym_region st [(6, Fact.eq (.int .i64 n)), (7, Fact.eq (.bool (decide (n < 0)))), (8, Fact.eq (.int .i64 m)), (9, Fact.eq (.bool (decide (m < 0)))), (10, Fact.eq (.bool ((decide (n < 0)) != (decide (m < 0))))), (11, Fact.eq (.int .i64 n)), (12, Fact.agg (Con.nn 2 (Int.natAbs n))), (13, Fact.eq (.int .i64 m)), (14, Fact.agg (Con.nn 2 (Int.natAbs m))), (15, Fact.two (Fact.agg (Con.tri 1 1 false 0 0)) (Fact.eq (.int .i64 8))), (16, Fact.agg (Con.tri 1 1 false 0 0)), (17, Fact.eq (.int .i64 8))] [] 12 (by kernel_rfl) (by kernel_rfl) (by kernel_rfl) (Nat.le_of_ble_eq_true rfl) (by kernel_rfl) rfl rfl ?_ ?_
  · refine fcs ⟨Ob.new_ (ob_copy 0 6 (.inl rfl) rfl (.inl rfl) (by kernel_rfl) rfl) (by kernel_rfl), ?_⟩
    refine fcs ⟨Ob.new_ (ob_ltc 6 7 .i64 2 _ n 0 (decide (n < 0)) rfl rfl rfl (.inl rfl) (by kernel_rfl) rfl rfl) (by kernel_rfl), ?_⟩
    refine fcs ⟨Ob.new_ (ob_copy 1 8 (.inl rfl) rfl (.inl rfl) (by kernel_rfl) rfl) (by kernel_rfl), ?_⟩
    refine fcs ⟨Ob.new_ (ob_ltc 8 9 .i64 2 _ m 0 (decide (m < 0)) rfl rfl rfl (.inl rfl) (by kernel_rfl) rfl rfl) (by kernel_rfl), ?_⟩
    refine fcs ⟨Ob.new_ (ob_neb 7 9 10 (decide (n < 0)) (decide (m < 0)) ((decide (n < 0)) != (decide (m < 0))) rfl rfl rfl (.inl rfl) (by kernel_rfl) (by kernel_rfl) rfl rfl rfl) (by kernel_rfl), ?_⟩
    refine fcs ⟨Ob.new_ (ob_copy 0 11 (.inl rfl) rfl (.inl rfl) (by kernel_rfl) rfl) (by kernel_rfl), ?_⟩
    refine fcs ⟨Ob.new_ (ob_call1 65 11 12 _ rfl rfl (.inl rfl) (by kernel_rfl) (by kernel_rfl) (q_magnitude n h)) (by kernel_rfl), ?_⟩
    refine fcs ⟨Ob.new_ (ob_copy 1 13 (.inl rfl) rfl (.inl rfl) (by kernel_rfl) rfl) (by kernel_rfl), ?_⟩
    refine fcs ⟨Ob.new_ (ob_call1 65 13 14 _ rfl rfl (.inl rfl) (by kernel_rfl) (by kernel_rfl) (q_magnitude m h2)) (by kernel_rfl), ?_⟩
    refine fcs ⟨Ob.new_ (ob_call3 51 10 12 14 15 _ rfl rfl (.inl rfl) (by kernel_rfl) (by kernel_rfl) (by kernel_rfl) (by kernel_rfl) (q_make0 2 2 ((decide (n < 0)) != (decide (m < 0))) (Int.natAbs n) (Int.natAbs m) hm)) (by kernel_rfl), ?_⟩
    refine fcs ⟨Ob.new_ (ob_fst 15 16 (Fact.agg (Con.tri 1 1 false 0 0)) (Fact.eq (.int .i64 8)) rfl rfl (.inl rfl) (by kernel_rfl) rfl rfl) (by kernel_rfl), ?_⟩
    refine fcs ⟨Ob.new_ (ob_snd 15 17 (Fact.agg (Con.tri 1 1 false 0 0)) (Fact.eq (.int .i64 8)) rfl rfl (.inl rfl) (by kernel_rfl) rfl rfl) (by kernel_rfl), ?_⟩
    exact fnl
  intro a2 w2 st2 hbr2 hfr
  have hs2 := hbr2.size
  have hb := up hb hbr2
  have st : St 18 [(4, Fact.cell b4 (Con.raw 3)), (16, Fact.agg (Con.tri 1 1 false 0 0)), (17, Fact.eq (.int .i64 8))] a2 w2 := st2.to (fcs ⟨st2.at_ 4, fcs ⟨st2.at_ 16, fcs ⟨st2.at_ 17, fnl⟩⟩⟩)
  clear st2 hbr2 hfr
  refine sym_store st 26 4 16 b4 (Con.raw 3) (Con.tri 1 1 false 0 0) [(4, Fact.cell b4 (Con.tri 1 1 false 0 0)), (17, Fact.eq (.int .i64 8))] rfl rfl rfl rfl rfl rfl info26 ?_ ?_
  · exact fcs ⟨.inl rfl, fcs ⟨.inr ⟨rfl, safe_eq _ _⟩, fnl⟩⟩
  clear st; intro w3 hB hsz3 st
  have hb := hB _ _ hb (by omega) (by omega)
  clear hB
  refine sym_op st 5 (Fact.eq (.int .i64 8)) rfl (Nat.le_of_ble_eq_true rfl) rfl rfl (by kernel_rfl) (ob_copy 17 5 (.inr rfl) rfl (.inl rfl) (by kernel_rfl) rfl) ?_
  clear st; intro a4 w4 hbr st; have hs4 := hbr.size; have hb := up hb hbr; clear hbr
  refine wpList_nil ?_
  refine then_normal ?_
  refine wp_ret ?_
  exact sym_ret2 rfl st.defers (resAt_cell st 4 b4 26 (Con.tri 1 1 false 0 0) rfl row26 info26) (resAt_tmp st 5) hb (fun v u h1 h2 => ⟨v, u, rfl, h1, h2⟩)
set_option maxRecDepth 100000 in
theorem w_copied (k : Nat) (x : Rat) : ∀ v0 w, (Fact.agg (Con.fr k x)).holds v0 w → Calls Tryz.prog 19 #[v0] w (Ret (Fact.fr k x) w) := by
  intro v0 w hv0
  refine sym_calls 12 [(0, Fact.agg (Con.fr k x))] Tryz.func19 rfl rfl (Nat.le_of_ble_eq_true rfl) (fcs ⟨⟨Nat.le_of_ble_eq_true rfl, hv0⟩, fnl⟩) fun a st => ?_
  have hb := Below.refl w.heap.size w
  refine wp_seq ?_
  refine sym_region st [(1, Fact.var' (Con.fr k x)), (2, Fact.var' (Con.raw 3))] [1, 2] 2 (by kernel_rfl) (by kernel_rfl) (by kernel_rfl) (Nat.le_of_ble_eq_true rfl) (by kernel_rfl) rfl rfl ?_ ?_
  · refine fcs ⟨obn_box 26 0 1 _ (Con.fr k x) rfl rfl rfl (by kernel_rfl) rfl rfl, ?_⟩
    refine fcs ⟨obn_new 26 2 _ [.bool false, .slice none 0 0, .slice none 0 0] rfl rfl rfl rfl rfl alloc26, ?_⟩
    exact fnl
  intro a1 w1 st1 hbr1 hfr
  have hs1 := hbr1.size
  have hb := up hb hbr1
  obtain ⟨b1, c1⟩ := (show (Fact.var' (Con.fr k x)).holds _ _ from st1.at_ 1)
  have g1 := hfr.ge (s := 1) rfl c1.1
  obtain ⟨b2, c2⟩ := (show (Fact.var' (Con.raw 3)).holds _ _ from st1.at_ 2)
  have g2 := hfr.ge (s := 2) rfl c2.1
  have ne1_2 := hfr.apart (s := 1) (t := 2) rfl rfl (by decide) c1.1 c2.1
  have st : St 12 [(1, Fact.cell b1 (Con.fr k x)), (2, Fact.cell b2 (Con.raw 3))] a1 w1 := st1.to (fcs ⟨c1, fcs ⟨c2, fnl⟩⟩)
  clear st1 hbr1 hfr c1 c2
  refine wpList_nil ?_
  refine then_normal ?_
  refine wp_seq ?_
  refine sym_region st [(3, Fact.ptr (Con.bool (Rt.ng x))), (4, Fact.eq (.bool (Rt.ng x))), (5, Fact.ptr (Con.nn k (Rt.tp x))), (6, Fact.agg (Con.nn k (Rt.tp x))), (7, Fact.agg (Con.nn k (Rt.tp x))), (8, Fact.ptr (Con.nn k (Rat.den x))), (9, Fact.agg (Con.nn k (Rat.den x))), (10, Fact.agg (Con.nn k (Rat.den x))), (11, Fact.agg (Con.tri k k (Rt.ng x) (Rt.tp x) (Rat.den x)))] [] 9 (by kernel_rfl) (by kernel_rfl) (by kernel_rfl) (Nat.le_of_ble_eq_true rfl) (by kernel_rfl) rfl rfl ?_ ?_
  · refine fcs ⟨Ob.new_ (ob_addr 26 0 1 3 0 (Con.fr k x) (Con.bool (Rt.ng x)) rfl rfl (.inl rfl) (by kernel_rfl) points_cell rfl (Con.fr_ng k x) field26_0) (by kernel_rfl), ?_⟩
    refine fcs ⟨Ob.new_ (ob_readb 3 4 (Rt.ng x) (Rt.ng x) rfl rfl rfl (.inl rfl) (by kernel_rfl) points_ptr rfl) (by kernel_rfl), ?_⟩
    refine fcs ⟨Ob.new_ (ob_addr 26 1 1 5 1 (Con.fr k x) (Con.nn k (Rt.tp x)) rfl rfl (.inl rfl) (by kernel_rfl) points_cell rfl (Con.fr_tp k x) field26_1) (by kernel_rfl), ?_⟩
    refine fcs ⟨Ob.new_ (ob_read 24 5 6 (Con.nn k (Rt.tp x)) rfl rfl (.inl rfl) (by kernel_rfl) points_ptr rfl row24 info24) (by kernel_rfl), ?_⟩
    refine fcs ⟨Ob.new_ (ob_call1 52 6 7 _ rfl rfl (.inl rfl) (by kernel_rfl) (by kernel_rfl) (r_copy k (Rt.tp x))) (by kernel_rfl), ?_⟩
    refine fcs ⟨Ob.new_ (ob_addr 26 2 1 8 2 (Con.fr k x) (Con.nn k (Rat.den x)) rfl rfl (.inl rfl) (by kernel_rfl) points_cell rfl (Con.fr_den k x) field26_2) (by kernel_rfl), ?_⟩
    refine fcs ⟨Ob.new_ (ob_read 24 8 9 (Con.nn k (Rat.den x)) rfl rfl (.inl rfl) (by kernel_rfl) points_ptr rfl row24 info24) (by kernel_rfl), ?_⟩
    refine fcs ⟨Ob.new_ (ob_call1 52 9 10 _ rfl rfl (.inl rfl) (by kernel_rfl) (by kernel_rfl) (r_copy k (Rat.den x))) (by kernel_rfl), ?_⟩
    refine fcs ⟨Ob.new_ (ob_buildtri 4 7 10 11 k k (Rt.tp x) (Rat.den x) (Rt.ng x) rfl rfl (.inl rfl) (by kernel_rfl) (by kernel_rfl) (by kernel_rfl) rfl rfl rfl rfl) (by kernel_rfl), ?_⟩
    exact fnl
  intro a2 w2 st2 hbr2 hfr
  have hs2 := hbr2.size
  have hb := up hb hbr2
  have st : St 12 [(2, Fact.cell b2 (Con.raw 3)), (11, Fact.agg (Con.tri k k (Rt.ng x) (Rt.tp x) (Rat.den x)))] a2 w2 := st2.to (fcs ⟨st2.at_ 2, fcs ⟨st2.at_ 11, fnl⟩⟩)
  clear st2 hbr2 hfr
  refine sym_store st 26 2 11 b2 (Con.raw 3) (Con.tri k k (Rt.ng x) (Rt.tp x) (Rat.den x)) [(2, Fact.cell b2 (Con.tri k k (Rt.ng x) (Rt.tp x) (Rat.den x)))] rfl rfl rfl rfl rfl rfl info26 ?_ ?_
  · exact fcs ⟨.inl rfl, fnl⟩
  clear st; intro w3 hB hsz3 st
  have hb := hB _ _ hb (by omega) (by omega)
  clear hB
  refine wpList_nil ?_
  refine then_normal ?_
  refine wp_ret ?_
  exact sym_ret1 rfl st.defers (resAt_cell st 2 b2 26 (Con.tri k k (Rt.ng x) (Rt.tp x) (Rat.den x)) rfl row26 info26) hb (fun _ h => h)
end Go.Proofs.YtjfehdkfogdpgaaGreatDoor
namespace Go.Proofs.YtjfehdkfogdpgaaGreatDoor
open Go.RowKit
def Con.any_ (zs : List Nat) : Con := ⟨1, fun w cs => ∃ A c, cs = [.slice A zs.length c] ∧ Rd w A zs ∧ zs.length ≤ c ∧ Nm.Dig zs,
  fun _ _ ⟨_, _, h, _⟩ => by rw [h]; rfl, fun _ _ ⟨_, _, e, _⟩ v hv => by rw [e] at hv; rw [List.mem_singleton.1 hv]; exact ⟨rfl, rfl⟩, fun _ _ _ ⟨A, c, h, hn, hz⟩ hb => ⟨A, c, h, hn.below hb, hz⟩, fun _ _ _ ⟨A, c, h, hn, hz⟩ hs => ⟨A, c, h, hn.soft hs, hz⟩⟩
def Con.dg (zs : List Nat) : Con := ⟨1, fun w cs => ∃ A c, cs = [.slice A zs.length c] ∧ Num w A zs.length c zs,
  fun _ _ ⟨_, _, h, _⟩ => by rw [h]; rfl, fun _ _ ⟨_, _, e, _⟩ v hv => by rw [e] at hv; rw [List.mem_singleton.1 hv]; exact ⟨rfl, rfl⟩, fun _ _ _ ⟨A, c, h, hn⟩ hb => ⟨A, c, h, hn.below hb⟩, fun _ _ _ ⟨A, c, h, hn⟩ hs => ⟨A, c, h, hn.soft hs⟩⟩
def Con.pre (s : Bool) (xs ys : List Nat) : Con := (Con.bool s).app ((Con.any_ xs).app (Con.any_ ys))
def Con.few (s : Bool) (xs ys : List Nat) : Con := (Con.bool s).app ((Con.dg xs).app (Con.dg ys))
theorem Con.few_1 (s : Bool) (xs ys : List Nat) : (Con.few s xs ys).Sub 1 (Con.dg xs) := ((Con.Sub.refl _).left (D := Con.dg ys)).right (C := Con.bool s)
theorem Con.few_2 (s : Bool) (xs ys : List Nat) : (Con.few s xs ys).Sub 2 (Con.dg ys) := ((Con.Sub.refl _).right (C := Con.dg xs)).right (C := Con.bool s)
theorem Con.pre_1 (s : Bool) (xs ys : List Nat) : (Con.pre s xs ys).Sub 1 (Con.any_ xs) := ((Con.Sub.refl _).left (D := Con.any_ ys)).right (C := Con.bool s)
theorem Con.pre_2 (s : Bool) (xs ys : List Nat) : (Con.pre s xs ys).Sub 2 (Con.any_ ys) := ((Con.Sub.refl _).right (C := Con.any_ xs)).right (C := Con.bool s)
theorem Fact.pre_few {s : Bool} {xs ys : List Nat} {v : Value} {w : World} (h : (Fact.agg (Con.pre s xs ys)).holds v w) (hx : xs.length ≤ 400) (hy : ys.length ≤ 400) : (Fact.agg (Con.few s xs ys)).holds v w := by
  obtain ⟨cs, h1, a, b, h2, h3, c, d, h4, ⟨A, e, h5, h6, h7, h8⟩, ⟨B, f, k5, k6, k7, k8⟩⟩ := h
  exact ⟨cs, h1, a, b, h2, h3, c, d, h4, ⟨A, e, h5, h6, rfl, h7, h8, hx⟩, ⟨B, f, k5, k6, rfl, k7, k8, hy⟩⟩
theorem Fact.few_tri {s : Bool} {xs ys : List Nat} {v : Value} {w : World} {k l : Nat} (h : (Fact.agg (Con.few s xs ys)).holds v w) (hx : Nm.tlen xs = xs.length) (hy : Nm.tlen ys = ys.length) (hk : xs.length ≤ k) (hl : ys.length ≤ l) : (Fact.agg (Con.tri k l s (Nm.val xs) (Nm.val ys))).holds v w := by
  obtain ⟨cs, h1, a, b, h2, h3, c, d, h4, ⟨A, e, h5, h6⟩, ⟨B, f, k5, k6⟩⟩ := h
  have ex := Nm.eq_nat h6.dig hx
  have ey := Nm.eq_nat k6.dig hy
  have zx : Nm.Sz k (Nm.val xs) := Nat.lt_of_lt_of_le (Nm.val_lt h6.dig) (Nat.pow_le_pow_right (by omega) hk)
  have zy : Nm.Sz l (Nm.val ys) := Nat.lt_of_lt_of_le (Nm.val_lt k6.dig) (Nat.pow_le_pow_right (by omega) hl)
  refine ⟨cs, h1, a, b, h2, h3, c, d, h4, ⟨A, e, ?_, ?_, zx⟩, ⟨B, f, ?_, ?_, zy⟩⟩
  · rw [← ex]; exact h5
  · rw [← ex]; exact h6
  · rw [← ey]; exact k5
  · rw [← ey]; exact k6
def vldB (s : Bool) (xs ys : List Nat) : Bool := decide (Nm.tlen xs = xs.length) && (decide (Nm.tlen ys = ys.length) && (!decide (ys.length = 0) && (!(s && decide (xs.length = 0)) && decide (Nat.gcd (Nm.val xs) (Nm.val ys) = 1))))
def fitB (s : Bool) (xs ys : List Nat) : Bool := decide (xs.length ≤ 12) && (decide (ys.length ≤ 12) && vldB s xs ys)
theorem len_val {zs : List Nat} (hd : Nm.Dig zs) (ht : Nm.tlen zs = zs.length) : zs.length = 0 ↔ Nm.val zs = 0 := by
  have e := Nm.eq_nat hd ht
  constructor
  · intro h
    rw [List.eq_nil_of_length_eq_zero h]; rfl
  · intro h
    rw [e, h, Nm.nat_zero]; rfl
theorem vldB_vld {s : Bool} {xs ys : List Nat} (h : vldB s xs ys = true) (hx : Nm.Dig xs) (hy : Nm.Dig ys) : Nm.tlen xs = xs.length ∧ Nm.tlen ys = ys.length ∧ Rt.Vld s (Nm.val xs) (Nm.val ys) := by
  simp only [vldB, Bool.and_eq_true, decide_eq_true_eq, Bool.not_eq_true', decide_eq_false_iff_not, Bool.and_eq_false_iff] at h
  obtain ⟨h1, h2, h3, h4, h5⟩ := h
  refine ⟨h1, h2, fun e => h3 ((len_val hy h2).2 e), h5, fun hs e => ?_⟩
  rcases h4 with h4 | h4
  · rw [hs] at h4; cases h4
  · exact h4 ((len_val hx h1).2 e)
theorem Fact.few_fr {s : Bool} {xs ys : List Nat} {v : Value} {w : World} {k : Nat} (h : (Fact.agg (Con.few s xs ys)).holds v w) (hx : xs.length ≤ k) (hy : ys.length ≤ k) (hv : vldB s xs ys = true) : (Fact.fr k (Rt.of s (Nm.val xs) (Nm.val ys))).holds v w := by
  have hd : Nm.Dig xs ∧ Nm.Dig ys := by
    obtain ⟨cs, h1, a, b, h2, h3, c, d, h4, ⟨A, e, h5, h6⟩, ⟨B, f, k5, k6⟩⟩ := h
    exact ⟨h6.dig, k6.dig⟩
  obtain ⟨h1, h2, h3⟩ := vldB_vld hv hd.1 hd.2
  refine Fact.tri_eq (Fact.few_tri h h1 h2 hx hy) ?_ ?_ ?_
  · exact h3.ng.symm
  · exact h3.tp.symm
  · exact h3.den.symm
theorem Fact.pre_fr {s : Bool} {xs ys : List Nat} {v : Value} {w : World} (h : (Fact.agg (Con.pre s xs ys)).holds v w) (hf : fitB s xs ys = true) : (Fact.fr 12 (Rt.of s (Nm.val xs) (Nm.val ys))).holds v w := by
  simp only [fitB, Bool.and_eq_true, decide_eq_true_eq] at hf
  exact Fact.few_fr (Fact.pre_few h (by omega) (by omega)) hf.1 hf.2.1 hf.2.2
theorem d_valid (zs : List Nat) (b : Bool) (hb : decide (Nm.tlen zs = zs.length) = b) : ∀ v w, (Fact.agg (Con.dg zs)).holds v w → Calls Tryz.prog 43 #[v] w (Ret (Fact.eq (.bool b)) w) := by
  rintro v w ⟨cs, rfl, A, c, rfl, hn⟩
  exact (refValid_any A c _ w hn.rd (by have := hn.small; omega)).mono fun _ _ ⟨he, hb'⟩ => ⟨_, he, hb', by rw [hb]; rfl⟩
def Fact.rowd (zs : List Nat) : Fact := ⟨fun v w => ∃ A c, v = .slice A zs.length c ∧ Rd w A zs, fun _ _ _ ⟨A, c, h, hn⟩ hb => ⟨A, c, h, hn.below hb⟩⟩
theorem len_rowd {zs : List Nat} : ∀ v w, (Fact.rowd zs).holds v w → ∃ A c, v = .slice A zs.length c := fun _ _ ⟨A, c, h, _⟩ => ⟨A, c, h⟩
section
variable {ops : Array Oper} {Q : Exit → Act → World → Prop} {F : Nat → Fact} {base : List Nat} {N : Nat} {o : Oper}
theorem ob_loadrowd (t d : Nat) (zs : List Nat) (C : Con) (hC : ∀ w cs, C.is w cs → ∃ A c, cs = [.slice A zs.length c] ∧ Rd w A zs) (ho : o.op = .load 22 (.tmp t)) (hd : o.dst = some d) (hg : GuardOk ops F base N o) (hk : known ops base o t = true) (hv : Points (F t) C) (hF : F d = Fact.rowd zs) : Ob ops Q F base N o :=
  ob_val hg fun a w hf => by
    obtain ⟨b, off, h2, _, cs, hc, his⟩ := hv _ _ (hf t hk)
    obtain ⟨A, c, rfl, hn⟩ := hC w cs his
    have h3 : a.eval (.tmp t) = .pointer (some ⟨b, off, none⟩) := h2
    have h4 := load22 w b off A _ c (by simpa using hc 0 _ rfl)
    refine ⟨.slice A zs.length c, w, by simp [execOp, ho, h3, h4], Below.refl _ _, fun s hs => ?_⟩
    rw [hd] at hs; injection hs with hs; subst hs; rw [hF]
    exact ⟨A, c, rfl, hn⟩
end
theorem any_row {zs : List Nat} : ∀ w cs, (Con.any_ zs).is w cs → ∃ A c, cs = [.slice A zs.length c] ∧ Rd w A zs := fun _ _ ⟨A, c, h, hn, _⟩ => ⟨A, c, h, hn⟩
theorem dg_row {zs : List Nat} : ∀ w cs, (Con.dg zs).is w cs → ∃ A c, cs = [.slice A zs.length c] ∧ Rd w A zs := fun _ _ ⟨A, c, h, hn⟩ => ⟨A, c, h, hn.rd⟩
end Go.Proofs.YtjfehdkfogdpgaaGreatDoor

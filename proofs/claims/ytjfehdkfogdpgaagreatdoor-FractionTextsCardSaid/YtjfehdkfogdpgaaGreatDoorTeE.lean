/-
  Contracts of Format and Parse of package fraction. Conditions: texts of at most 1000000 bytes.
  The examples that every law asks for.
-/
import Derived.Test.YtjfehdkfogdpgaaGreatDoorTeD
namespace Go.Proofs.YtjfehdkfogdpgaaGreatDoor
open Go.RowKit
def fmt (x : Rat) : List Nat :=
  if decide (x.den = 1) = true then (if Rt.ng x = true then [45] ++ Nm.dec (Rt.tp x) else Nm.dec (Rt.tp x))
  else ((if Rt.ng x = true then [45] ++ Nm.dec (Rt.tp x) else Nm.dec (Rt.tp x)) ++ [47]) ++ Nm.dec x.den
theorem t_cutb (l : List Nat) (h : Byt l) (hs : l.length ≤ 1000000) (b : Bool) (hb : sls l = b) : ∀ v w, (Fact.eq (.string (ofB l))).holds v w → Calls Tryz.prog 67 #[v, .string ⟨#[47]⟩] w (Ret (Fact.three (Fact.eq (.string (ofB (bef l)))) (Fact.eq (.string (ofB (aft l)))) (Fact.eq (.bool b))) w) := by
  subst hb; exact t_cut l h hs
theorem vldT_fr {k l m : Nat} {s : Bool} {p q : Nat} {v : Value} {w : World} (hv : vldT s p q = true) (h : (Fact.agg (Con.tri k l s p q)).holds v w) (hk : k ≤ m) (hl : l ≤ m) : (Fact.fr m (Rt.of s p q)).holds v w := by
  unfold vldT at hv
  rw [Bool.and_eq_true, Bool.and_eq_true] at hv
  obtain ⟨h1, h2, h3⟩ := hv
  have hq : q ≠ 0 := by simpa using h1
  have hg : Nat.gcd p q = 1 := of_decide_eq_true h3
  refine Fact.tri_fr h hq ?_ (by rw [hg, Nat.div_one]) (by rw [hg, Nat.div_one]) rfl hk hl
  cases s with
  | false => rfl
  | true => simpa using h2
set_option maxRecDepth 100000 in
theorem q_format (k : Nat) (x : Rat) (hp : (Nm.dec (Rt.tp x)).length ≤ 100000) (hq : (Nm.dec x.den).length ≤ 100000) : ∀ v0 w, (Fact.agg (Con.fr k x)).holds v0 w → Calls Tryz.prog 35 #[v0] w (Ret (Fact.eq (.string (ofB (fmt x)))) w) := by
  intro v0 w hv0
  cases hng : Rt.ng x with
  | false =>
    cases hd1 : decide (x.den = 1) with
    | false =>
      refine sym_calls 21 [(0, Fact.agg (Con.fr k x))] Tryz.func35 rfl rfl (Nat.le_of_ble_eq_true rfl) (fcs ⟨⟨Nat.le_of_ble_eq_true rfl, hv0⟩, fnl⟩) fun a st => ?_
      have hb := Below.refl w.heap.size w
      refine wp_seq ?_
      refine sym_region st [(1, Fact.var' (Con.fr k x)), (2, Fact.eq (.string (ofB ([]))))] [1] 2 (by kernel_rfl) (by kernel_rfl) (by kernel_rfl) (Nat.le_of_ble_eq_true rfl) (by kernel_rfl) rfl rfl ?_ ?_
      · refine fcs ⟨obn_box 26 0 1 _ (Con.fr k x) rfl rfl rfl (by kernel_rfl) rfl rfl, ?_⟩
        refine fcn (ob_const (.string ⟨#[]⟩) 2 (.inr rfl) rfl (.inl rfl) rfl) ?_
        exact fnl
      intro a1 w1 st1 hbr1 hfr
      have hs1 := hbr1.size
      have hb := up hb hbr1
      obtain ⟨b1, c1⟩ := (show (Fact.var' (Con.fr k x)).holds _ _ from st1.at_ 1)
      have g1 := hfr.ge (s := 1) rfl c1.1
      have st : St 21 [(1, Fact.cell b1 (Con.fr k x)), (2, Fact.eq (.string (ofB ([]))))] a1 w1 := st1.to (fcs ⟨c1, fcs ⟨st1.at_ 2, fnl⟩⟩)
      clear st1 hbr1 hfr c1
      refine wpList_nil ?_
      refine then_normal ?_
      refine wp_seq ?_
      refine sym_region st [(4, Fact.ptr (Con.nn k (Rt.tp x))), (5, Fact.agg (Con.nn k (Rt.tp x))), (6, Fact.eq (.string (ofB (Nm.dec (Rt.tp x))))), (3, Fact.eq (.string (ofB (Nm.dec (Rt.tp x)))))] [] 4 (by kernel_rfl) (by kernel_rfl) (by kernel_rfl) (Nat.le_of_ble_eq_true rfl) (by kernel_rfl) rfl rfl ?_ ?_
      · refine fcn (ob_addr 26 1 1 4 1 (Con.fr k x) (Con.nn k (Rt.tp x)) rfl rfl (.inl rfl) (by kernel_rfl) points_cell rfl (Con.fr_tp k x) field26_1) ?_
        refine fcn (ob_read 24 4 5 (Con.nn k (Rt.tp x)) rfl rfl (.inl rfl) (by kernel_rfl) points_ptr rfl row24 info24) ?_
        refine fcn (ob_call1 72 5 6 _ rfl rfl (.inl rfl) (by kernel_rfl) (by kernel_rfl) (n_format k (Rt.tp x))) ?_
        refine fcn (ob_copy 6 3 (.inr rfl) rfl (.inl rfl) (by kernel_rfl) rfl) ?_
        exact fnl
      intro a2 w2 st2 hbr2 hfr
      have hs2 := hbr2.size
      have hb := up hb hbr2
      have st : St 21 [(1, Fact.cell b1 (Con.fr k x)), (2, Fact.eq (.string (ofB ([])))), (3, Fact.eq (.string (ofB (Nm.dec (Rt.tp x)))))] a2 w2 := st2.to (fcs ⟨st2.at_ 1, fcs ⟨st2.at_ 2, fcs ⟨st2.at_ 3, fnl⟩⟩⟩)
      clear st2 hbr2 hfr
      refine wpList_nil ?_
      refine then_normal ?_
      refine wp_seq ?_
      refine wp_seq ?_
      refine sym_region st [(7, Fact.ptr (Con.bool (Rt.ng x))), (8, fF)] [] 2 (by kernel_rfl) (by kernel_rfl) (by kernel_rfl) (Nat.le_of_ble_eq_true rfl) (by kernel_rfl) rfl rfl ?_ ?_
      · refine fcn (ob_addr 26 0 1 7 0 (Con.fr k x) (Con.bool (Rt.ng x)) rfl rfl (.inl rfl) (by kernel_rfl) points_cell rfl (Con.fr_ng k x) field26_0) ?_
        refine fcn (ob_readb 7 8 (Rt.ng x) false hng rfl rfl (.inl rfl) (by kernel_rfl) points_ptr rfl) ?_
        exact fnl
      intro a3 w3 st3 hbr3 hfr
      have hs3 := hbr3.size
      have hb := up hb hbr3
      have st : St 21 [(1, Fact.cell b1 (Con.fr k x)), (2, Fact.eq (.string (ofB ([])))), (3, Fact.eq (.string (ofB (Nm.dec (Rt.tp x))))), (8, fF)] a3 w3 := st3.to (fcs ⟨st3.at_ 1, fcs ⟨st3.at_ 2, fcs ⟨st3.at_ 3, fcs ⟨st3.at_ 8, fnl⟩⟩⟩⟩)
      clear st3 hbr3 hfr
      refine wpList_nil ?_
      refine then_normal ?_
      refine wp_cond_false (st.at_ 8) ?_
      refine wp_skip ?_
      refine then_normal ?_
      refine wp_seq ?_
      refine wp_seq ?_
      refine sym_region st [(11, Fact.ptr (Con.nn k (Rat.den x))), (12, Fact.agg (Con.nn k (Rat.den x))), (13, fF)] [] 3 (by kernel_rfl) (by kernel_rfl) (by kernel_rfl) (Nat.le_of_ble_eq_true rfl) (by kernel_rfl) rfl rfl ?_ ?_
      · refine fcn (ob_addr 26 2 1 11 2 (Con.fr k x) (Con.nn k (Rat.den x)) rfl rfl (.inl rfl) (by kernel_rfl) points_cell rfl (Con.fr_den k x) field26_2) ?_
        refine fcn (ob_read 24 11 12 (Con.nn k (Rat.den x)) rfl rfl (.inl rfl) (by kernel_rfl) points_ptr rfl row24 info24) ?_
        refine fcn (ob_call1 69 12 13 _ rfl rfl (.inl rfl) (by kernel_rfl) (by kernel_rfl) (q_isOne k (Rat.den x) false hd1)) ?_
        exact fnl
      intro a4 w4 st4 hbr4 hfr
      have hs4 := hbr4.size
      have hb := up hb hbr4
      have st : St 21 [(1, Fact.cell b1 (Con.fr k x)), (2, Fact.eq (.string (ofB ([])))), (3, Fact.eq (.string (ofB (Nm.dec (Rt.tp x))))), (13, fF)] a4 w4 := st4.to (fcs ⟨st4.at_ 1, fcs ⟨st4.at_ 2, fcs ⟨st4.at_ 3, fcs ⟨st4.at_ 13, fnl⟩⟩⟩⟩)
      clear st4 hbr4 hfr
      refine wpList_nil ?_
      refine then_normal ?_
      refine wp_cond_false (st.at_ 13) ?_
      refine wp_skip ?_
      refine then_normal ?_
      refine wp_seq ?_
      have st := st.to (ks' := [(1, Fact.cell b1 (Con.fr k x)), (3, Fact.eq (.string (ofB (Nm.dec (Rt.tp x))))), (13, fF)]) (fcs ⟨st.at_ 1, fcs ⟨st.at_ 3, fcs ⟨st.at_ 13, fnl⟩⟩⟩)
      refine sym_region st [(15, Fact.eq (.string (ofB (Nm.dec (Rt.tp x))))), (16, Fact.eq (.string (ofB ((Nm.dec (Rt.tp x)) ++ ([47]))))), (17, Fact.ptr (Con.nn k (Rat.den x))), (18, Fact.agg (Con.nn k (Rat.den x))), (19, Fact.eq (.string (ofB (Nm.dec (Rat.den x))))), (20, Fact.eq (.string (ofB (((Nm.dec (Rt.tp x)) ++ ([47])) ++ (Nm.dec (Rat.den x)))))), (2, Fact.eq (.string (ofB (((Nm.dec (Rt.tp x)) ++ ([47])) ++ (Nm.dec (Rat.den x))))))] [] 7 (by kernel_rfl) (by kernel_rfl) (by kernel_rfl) (Nat.le_of_ble_eq_true rfl) (by kernel_rfl) rfl rfl ?_ ?_
      · refine fcn (ob_copy 3 15 (.inl rfl) rfl (.inl rfl) (by kernel_rfl) rfl) ?_
        refine fcn (ob_catc 15 16 (Nm.dec (Rt.tp x)) ([47]) _ rfl (by simp only [List.length_cons, List.length_nil]; omega) rfl rfl (.inl rfl) (by kernel_rfl) rfl rfl) ?_
        refine fcn (ob_addr 26 2 1 17 2 (Con.fr k x) (Con.nn k (Rat.den x)) rfl rfl (.inl rfl) (by kernel_rfl) points_cell rfl (Con.fr_den k x) field26_2) ?_
        refine fcn (ob_read 24 17 18 (Con.nn k (Rat.den x)) rfl rfl (.inl rfl) (by kernel_rfl) points_ptr rfl row24 info24) ?_
        refine fcn (ob_call1 72 18 19 _ rfl rfl (.inl rfl) (by kernel_rfl) (by kernel_rfl) (n_format k (Rat.den x))) ?_
        refine fcn (ob_cat 16 19 20 ((Nm.dec (Rt.tp x)) ++ ([47])) (Nm.dec (Rat.den x)) (by simp only [List.length_append, List.length_cons, List.length_nil]; omega) rfl rfl (.inl rfl) (by kernel_rfl) (by kernel_rfl) rfl rfl rfl) ?_
        refine fcn (ob_copy 20 2 (.inr rfl) rfl (.inl rfl) (by kernel_rfl) rfl) ?_
        exact fnl
      intro a5 w5 st5 hbr5 hfr
      have hs5 := hbr5.size
      have hb := up hb hbr5
      have st : St 21 [(2, Fact.eq (.string (ofB (((Nm.dec (Rt.tp x)) ++ ([47])) ++ (Nm.dec (Rat.den x))))))] a5 w5 := st5.to (fcs ⟨st5.at_ 2, fnl⟩)
      clear st5 hbr5 hfr
      refine wpList_nil ?_
      refine then_normal ?_
      refine wp_ret ?_
      exact sym_ret1 rfl st.defers (resAt_tmp st 2) hb (fun _ h => by rw [show fmt x = (Nm.dec (Rt.tp x) ++ [47]) ++ Nm.dec x.den from by unfold fmt; rw [hng, hd1]; rfl]; exact h)
    | true =>
      refine sym_calls 21 [(0, Fact.agg (Con.fr k x))] Tryz.func35 rfl rfl (Nat.le_of_ble_eq_true rfl) (fcs ⟨⟨Nat.le_of_ble_eq_true rfl, hv0⟩, fnl⟩) fun a st => ?_
      have hb := Below.refl w.heap.size w
      refine wp_seq ?_
      refine sym_region st [(1, Fact.var' (Con.fr k x)), (2, Fact.eq (.string (ofB ([]))))] [1] 2 (by kernel_rfl) (by kernel_rfl) (by kernel_rfl) (Nat.le_of_ble_eq_true rfl) (by kernel_rfl) rfl rfl ?_ ?_
      · refine fcs ⟨obn_box 26 0 1 _ (Con.fr k x) rfl rfl rfl (by kernel_rfl) rfl rfl, ?_⟩
        refine fcn (ob_const (.string ⟨#[]⟩) 2 (.inr rfl) rfl (.inl rfl) rfl) ?_
        exact fnl
      intro a1 w1 st1 hbr1 hfr
      have hs1 := hbr1.size
      have hb := up hb hbr1
      obtain ⟨b1, c1⟩ := (show (Fact.var' (Con.fr k x)).holds _ _ from st1.at_ 1)
      have g1 := hfr.ge (s := 1) rfl c1.1
      have st : St 21 [(1, Fact.cell b1 (Con.fr k x)), (2, Fact.eq (.string (ofB ([]))))] a1 w1 := st1.to (fcs ⟨c1, fcs ⟨st1.at_ 2, fnl⟩⟩)
      clear st1 hbr1 hfr c1
      refine wpList_nil ?_
      refine then_normal ?_
      refine wp_seq ?_
      refine sym_region st [(4, Fact.ptr (Con.nn k (Rt.tp x))), (5, Fact.agg (Con.nn k (Rt.tp x))), (6, Fact.eq (.string (ofB (Nm.dec (Rt.tp x))))), (3, Fact.eq (.string (ofB (Nm.dec (Rt.tp x)))))] [] 4 (by kernel_rfl) (by kernel_rfl) (by kernel_rfl) (Nat.le_of_ble_eq_true rfl) (by kernel_rfl) rfl rfl ?_ ?_
      · refine fcn (ob_addr 26 1 1 4 1 (Con.fr k x) (Con.nn k (Rt.tp x)) rfl rfl (.inl rfl) (by kernel_rfl) points_cell rfl (Con.fr_tp k x) field26_1) ?_
        refine fcn (ob_read 24 4 5 (Con.nn k (Rt.tp x)) rfl rfl (.inl rfl) (by kernel_rfl) points_ptr rfl row24 info24) ?_
        refine fcn (ob_call1 72 5 6 _ rfl rfl (.inl rfl) (by kernel_rfl) (by kernel_rfl) (n_format k (Rt.tp x))) ?_
        refine fcn (ob_copy 6 3 (.inr rfl) rfl (.inl rfl) (by kernel_rfl) rfl) ?_
        exact fnl
      intro a2 w2 st2 hbr2 hfr
      have hs2 := hbr2.size
      have hb := up hb hbr2
      have st : St 21 [(1, Fact.cell b1 (Con.fr k x)), (2, Fact.eq (.string (ofB ([])))), (3, Fact.eq (.string (ofB (Nm.dec (Rt.tp x)))))] a2 w2 := st2.to (fcs ⟨st2.at_ 1, fcs ⟨st2.at_ 2, fcs ⟨st2.at_ 3, fnl⟩⟩⟩)
      clear st2 hbr2 hfr
      refine wpList_nil ?_
      refine then_normal ?_
      refine wp_seq ?_
      refine wp_seq ?_
      refine sym_region st [(7, Fact.ptr (Con.bool (Rt.ng x))), (8, fF)] [] 2 (by kernel_rfl) (by kernel_rfl) (by kernel_rfl) (Nat.le_of_ble_eq_true rfl) (by kernel_rfl) rfl rfl ?_ ?_
      · refine fcn (ob_addr 26 0 1 7 0 (Con.fr k x) (Con.bool (Rt.ng x)) rfl rfl (.inl rfl) (by kernel_rfl) points_cell rfl (Con.fr_ng k x) field26_0) ?_
        refine fcn (ob_readb 7 8 (Rt.ng x) false hng rfl rfl (.inl rfl) (by kernel_rfl) points_ptr rfl) ?_
        exact fnl
      intro a3 w3 st3 hbr3 hfr
      have hs3 := hbr3.size
      have hb := up hb hbr3
      have st : St 21 [(1, Fact.cell b1 (Con.fr k x)), (2, Fact.eq (.string (ofB ([])))), (3, Fact.eq (.string (ofB (Nm.dec (Rt.tp x))))), (8, fF)] a3 w3 := st3.to (fcs ⟨st3.at_ 1, fcs ⟨st3.at_ 2, fcs ⟨st3.at_ 3, fcs ⟨st3.at_ 8, fnl⟩⟩⟩⟩)
      clear st3 hbr3 hfr
      refine wpList_nil ?_
      refine then_normal ?_
      refine wp_cond_false (st.at_ 8) ?_
      refine wp_skip ?_
      refine then_normal ?_
      refine wp_seq ?_
      refine wp_seq ?_
      refine sym_region st [(11, Fact.ptr (Con.nn k (Rat.den x))), (12, Fact.agg (Con.nn k (Rat.den x))), (13, fT)] [] 3 (by kernel_rfl) (by kernel_rfl) (by kernel_rfl) (Nat.le_of_ble_eq_true rfl) (by kernel_rfl) rfl rfl ?_ ?_
      · refine fcn (ob_addr 26 2 1 11 2 (Con.fr k x) (Con.nn k (Rat.den x)) rfl rfl (.inl rfl) (by kernel_rfl) points_cell rfl (Con.fr_den k x) field26_2) ?_
        refine fcn (ob_read 24 11 12 (Con.nn k (Rat.den x)) rfl rfl (.inl rfl) (by kernel_rfl) points_ptr rfl row24 info24) ?_
        refine fcn (ob_call1 69 12 13 _ rfl rfl (.inl rfl) (by kernel_rfl) (by kernel_rfl) (q_isOne k (Rat.den x) true hd1)) ?_
        exact fnl
      intro a4 w4 st4 hbr4 hfr
      have hs4 := hbr4.size
      have hb := up hb hbr4
      have st : St 21 [(1, Fact.cell b1 (Con.fr k x)), (2, Fact.eq (.string (ofB ([])))), (3, Fact.eq (.string (ofB (Nm.dec (Rt.tp x))))), (13, fT)] a4 w4 := st4.to (fcs ⟨st4.at_ 1, fcs ⟨st4.at_ 2, fcs ⟨st4.at_ 3, fcs ⟨st4.at_ 13, fnl⟩⟩⟩⟩)
      clear st4 hbr4 hfr
      refine wpList_nil ?_
      refine then_normal ?_
      refine wp_cond_true (st.at_ 13) ?_
      refine wp_seq ?_
      have st := st.to (ks' := [(1, Fact.cell b1 (Con.fr k x)), (3, Fact.eq (.string (ofB (Nm.dec (Rt.tp x))))), (13, fT)]) (fcs ⟨st.at_ 1, fcs ⟨st.at_ 3, fcs ⟨st.at_ 13, fnl⟩⟩⟩)
      refine sym_region st [(14, Fact.eq (.string (ofB (Nm.dec (Rt.tp x))))), (2, Fact.eq (.string (ofB (Nm.dec (Rt.tp x)))))] [] 2 (by kernel_rfl) (by kernel_rfl) (by kernel_rfl) (Nat.le_of_ble_eq_true rfl) (by kernel_rfl) rfl rfl ?_ ?_
      · refine fcn (ob_copy 3 14 (.inl rfl) rfl (.inl rfl) (by kernel_rfl) rfl) ?_
        refine fcn (ob_copy 14 2 (.inr rfl) rfl (.inl rfl) (by kernel_rfl) rfl) ?_
        exact fnl
      intro a5 w5 st5 hbr5 hfr
      have hs5 := hbr5.size
      have hb := up hb hbr5
      have st : St 21 [(1, Fact.cell b1 (Con.fr k x)), (3, Fact.eq (.string (ofB (Nm.dec (Rt.tp x))))), (2, Fact.eq (.string (ofB (Nm.dec (Rt.tp x)))))] a5 w5 := st5.to (fcs ⟨st5.at_ 1, fcs ⟨st5.at_ 3, fcs ⟨st5.at_ 2, fnl⟩⟩⟩)
      clear st5 hbr5 hfr
      refine wpList_nil ?_
      refine then_normal ?_
      refine wp_ret ?_
      exact sym_ret1 rfl st.defers (resAt_tmp st 2) hb (fun _ h => by rw [show fmt x = Nm.dec (Rt.tp x) from by unfold fmt; rw [hng, hd1]; rfl]; exact h)
  | true =>
    cases hd1 : decide (x.den = 1) with
    | false =>
      refine sym_calls 21 [(0, Fact.agg (Con.fr k x))] Tryz.func35 rfl rfl (Nat.le_of_ble_eq_true rfl) (fcs ⟨⟨Nat.le_of_ble_eq_true rfl, hv0⟩, fnl⟩) fun a st => ?_
      have hb := Below.refl w.heap.size w
      refine wp_seq ?_
      refine sym_region st [(1, Fact.var' (Con.fr k x)), (2, Fact.eq (.string (ofB ([]))))] [1] 2 (by kernel_rfl) (by kernel_rfl) (by kernel_rfl) (Nat.le_of_ble_eq_true rfl) (by kernel_rfl) rfl rfl ?_ ?_
      · refine fcs ⟨obn_box 26 0 1 _ (Con.fr k x) rfl rfl rfl (by kernel_rfl) rfl rfl, ?_⟩
        refine fcn (ob_const (.string ⟨#[]⟩) 2 (.inr rfl) rfl (.inl rfl) rfl) ?_
        exact fnl
      intro a1 w1 st1 hbr1 hfr
      have hs1 := hbr1.size
      have hb := up hb hbr1
      obtain ⟨b1, c1⟩ := (show (Fact.var' (Con.fr k x)).holds _ _ from st1.at_ 1)
      have g1 := hfr.ge (s := 1) rfl c1.1
      have st : St 21 [(1, Fact.cell b1 (Con.fr k x)), (2, Fact.eq (.string (ofB ([]))))] a1 w1 := st1.to (fcs ⟨c1, fcs ⟨st1.at_ 2, fnl⟩⟩)
      clear st1 hbr1 hfr c1
      refine wpList_nil ?_
      refine then_normal ?_
      refine wp_seq ?_
      refine sym_region st [(4, Fact.ptr (Con.nn k (Rt.tp x))), (5, Fact.agg (Con.nn k (Rt.tp x))), (6, Fact.eq (.string (ofB (Nm.dec (Rt.tp x))))), (3, Fact.eq (.string (ofB (Nm.dec (Rt.tp x)))))] [] 4 (by kernel_rfl) (by kernel_rfl) (by kernel_rfl) (Nat.le_of_ble_eq_true rfl) (by kernel_rfl) rfl rfl ?_ ?_
      · refine fcn (ob_addr 26 1 1 4 1 (Con.fr k x) (Con.nn k (Rt.tp x)) rfl rfl (.inl rfl) (by kernel_rfl) points_cell rfl (Con.fr_tp k x) field26_1) ?_
        refine fcn (ob_read 24 4 5 (Con.nn k (Rt.tp x)) rfl rfl (.inl rfl) (by kernel_rfl) points_ptr rfl row24 info24) ?_
        refine fcn (ob_call1 72 5 6 _ rfl rfl (.inl rfl) (by kernel_rfl) (by kernel_rfl) (n_format k (Rt.tp x))) ?_
        refine fcn (ob_copy 6 3 (.inr rfl) rfl (.inl rfl) (by kernel_rfl) rfl) ?_
        exact fnl
      intro a2 w2 st2 hbr2 hfr
      have hs2 := hbr2.size
      have hb := up hb hbr2
      have st : St 21 [(1, Fact.cell b1 (Con.fr k x)), (2, Fact.eq (.string (ofB ([])))), (3, Fact.eq (.string (ofB (Nm.dec (Rt.tp x)))))] a2 w2 := st2.to (fcs ⟨st2.at_ 1, fcs ⟨st2.at_ 2, fcs ⟨st2.at_ 3, fnl⟩⟩⟩)
      clear st2 hbr2 hfr
      refine wpList_nil ?_
      refine then_normal ?_
      refine wp_seq ?_
      refine wp_seq ?_
      refine sym_region st [(7, Fact.ptr (Con.bool (Rt.ng x))), (8, fT)] [] 2 (by kernel_rfl) (by kernel_rfl) (by kernel_rfl) (Nat.le_of_ble_eq_true rfl) (by kernel_rfl) rfl rfl ?_ ?_
      · refine fcn (ob_addr 26 0 1 7 0 (Con.fr k x) (Con.bool (Rt.ng x)) rfl rfl (.inl rfl) (by kernel_rfl) points_cell rfl (Con.fr_ng k x) field26_0) ?_
        refine fcn (ob_readb 7 8 (Rt.ng x) true hng rfl rfl (.inl rfl) (by kernel_rfl) points_ptr rfl) ?_
        exact fnl
      intro a3 w3 st3 hbr3 hfr
      have hs3 := hbr3.size
      have hb := up hb hbr3
      have st : St 21 [(1, Fact.cell b1 (Con.fr k x)), (2, Fact.eq (.string (ofB ([])))), (3, Fact.eq (.string (ofB (Nm.dec (Rt.tp x))))), (8, fT)] a3 w3 := st3.to (fcs ⟨st3.at_ 1, fcs ⟨st3.at_ 2, fcs ⟨st3.at_ 3, fcs ⟨st3.at_ 8, fnl⟩⟩⟩⟩)
      clear st3 hbr3 hfr
      refine wpList_nil ?_
      refine then_normal ?_
      refine wp_cond_true (st.at_ 8) ?_
      refine wp_region_lit ?_
      refine sym_op st 9 (Fact.eq (.string (ofB (Nm.dec (Rt.tp x))))) rfl (Nat.le_of_ble_eq_true rfl) rfl rfl (by kernel_rfl) (ob_copy 3 9 (.inl rfl) rfl (.inl rfl) (by kernel_rfl) rfl) ?_
      clear st; intro a5 w5 hbr st; have hs5 := hbr.size; have hb := up hb hbr; clear hbr
      refine sym_op st 10 (Fact.eq (.string (ofB (([45]) ++ (Nm.dec (Rt.tp x)))))) rfl (Nat.le_of_ble_eq_true rfl) rfl rfl (by kernel_rfl) (ob_ccat 9 10 (Nm.dec (Rt.tp x)) ([45]) _ rfl (by simp only [List.length_cons, List.length_nil]; omega) rfl rfl (.inl rfl) (by kernel_rfl) rfl rfl) ?_
      clear st; intro a6 w6 hbr st; have hs6 := hbr.size; have hb := up hb hbr; clear hbr
      have st := st.to (ks' := [(1, Fact.cell b1 (Con.fr k x)), (2, Fact.eq (.string (ofB ([])))), (8, fT), (9, Fact.eq (.string (ofB (Nm.dec (Rt.tp x))))), (10, Fact.eq (.string (ofB (([45]) ++ (Nm.dec (Rt.tp x))))))]) (fcs ⟨st.at_ 1, fcs ⟨st.at_ 2, fcs ⟨st.at_ 8, fcs ⟨st.at_ 9, fcs ⟨st.at_ 10, fnl⟩⟩⟩⟩⟩)
      refine sym_op st 3 (Fact.eq (.string (ofB (([45]) ++ (Nm.dec (Rt.tp x)))))) rfl (Nat.le_of_ble_eq_true rfl) rfl rfl (by kernel_rfl) (ob_copy 10 3 (.inr rfl) rfl (.inl rfl) (by kernel_rfl) rfl) ?_
      clear st; intro a7 w7 hbr st; have hs7 := hbr.size; have hb := up hb hbr; clear hbr
      refine wpList_nil ?_
      refine then_normal ?_
      refine wp_seq ?_
      refine wp_seq ?_
      refine sym_region st [(11, Fact.ptr (Con.nn k (Rat.den x))), (12, Fact.agg (Con.nn k (Rat.den x))), (13, fF)] [] 3 (by kernel_rfl) (by kernel_rfl) (by kernel_rfl) (Nat.le_of_ble_eq_true rfl) (by kernel_rfl) rfl rfl ?_ ?_
      · refine fcn (ob_addr 26 2 1 11 2 (Con.fr k x) (Con.nn k (Rat.den x)) rfl rfl (.inl rfl) (by kernel_rfl) points_cell rfl (Con.fr_den k x) field26_2) ?_
        refine fcn (ob_read 24 11 12 (Con.nn k (Rat.den x)) rfl rfl (.inl rfl) (by kernel_rfl) points_ptr rfl row24 info24) ?_
        refine fcn (ob_call1 69 12 13 _ rfl rfl (.inl rfl) (by kernel_rfl) (by kernel_rfl) (q_isOne k (Rat.den x) false hd1)) ?_
        exact fnl
      intro a8 w8 st8 hbr8 hfr
      have hs8 := hbr8.size
      have hb := up hb hbr8
      have st : St 21 [(1, Fact.cell b1 (Con.fr k x)), (2, Fact.eq (.string (ofB ([])))), (3, Fact.eq (.string (ofB (([45]) ++ (Nm.dec (Rt.tp x)))))), (13, fF)] a8 w8 := st8.to (fcs ⟨st8.at_ 1, fcs ⟨st8.at_ 2, fcs ⟨st8.at_ 3, fcs ⟨st8.at_ 13, fnl⟩⟩⟩⟩)
      clear st8 hbr8 hfr
      refine wpList_nil ?_
      refine then_normal ?_
      refine wp_cond_false (st.at_ 13) ?_
      refine wp_skip ?_
      refine then_normal ?_
      refine wp_seq ?_
      have st := st.to (ks' := [(1, Fact.cell b1 (Con.fr k x)), (3, Fact.eq (.string (ofB (([45]) ++ (Nm.dec (Rt.tp x)))))), (13, fF)]) (fcs ⟨st.at_ 1, fcs ⟨st.at_ 3, fcs ⟨st.at_ 13, fnl⟩⟩⟩)
      refine sym_region st [(15, Fact.eq (.string (ofB (([45]) ++ (Nm.dec (Rt.tp x)))))), (16, Fact.eq (.string (ofB ((([45]) ++ (Nm.dec (Rt.tp x))) ++ ([47]))))), (17, Fact.ptr (Con.nn k (Rat.den x))), (18, Fact.agg (Con.nn k (Rat.den x))), (19, Fact.eq (.string (ofB (Nm.dec (Rat.den x))))), (20, Fact.eq (.string (ofB (((([45]) ++ (Nm.dec (Rt.tp x))) ++ ([47])) ++ (Nm.dec (Rat.den x)))))), (2, Fact.eq (.string (ofB (((([45]) ++ (Nm.dec (Rt.tp x))) ++ ([47])) ++ (Nm.dec (Rat.den x))))))] [] 7 (by kernel_rfl) (by kernel_rfl) (by kernel_rfl) (Nat.le_of_ble_eq_true rfl) (by kernel_rfl) rfl rfl ?_ ?_
      · refine fcn (ob_copy 3 15 (.inl rfl) rfl (.inl rfl) (by kernel_rfl) rfl) ?_
        refine fcn (ob_catc 15 16 (([45]) ++ (Nm.dec (Rt.tp x))) ([47]) _ rfl (by simp only [List.length_append, List.length_cons, List.length_nil]; omega) rfl rfl (.inl rfl) (by kernel_rfl) rfl rfl) ?_
        refine fcn (ob_addr 26 2 1 17 2 (Con.fr k x) (Con.nn k (Rat.den x)) rfl rfl (.inl rfl) (by kernel_rfl) points_cell rfl (Con.fr_den k x) field26_2) ?_
        refine fcn (ob_read 24 17 18 (Con.nn k (Rat.den x)) rfl rfl (.inl rfl) (by kernel_rfl) points_ptr rfl row24 info24) ?_
        refine fcn (ob_call1 72 18 19 _ rfl rfl (.inl rfl) (by kernel_rfl) (by kernel_rfl) (n_format k (Rat.den x))) ?_
        refine fcn (ob_cat 16 19 20 ((([45]) ++ (Nm.dec (Rt.tp x))) ++ ([47])) (Nm.dec (Rat.den x)) (by simp only [List.length_append, List.length_cons, List.length_nil]; omega) rfl rfl (.inl rfl) (by kernel_rfl) (by kernel_rfl) rfl rfl rfl) ?_
        refine fcn (ob_copy 20 2 (.inr rfl) rfl (.inl rfl) (by kernel_rfl) rfl) ?_
        exact fnl
      intro a9 w9 st9 hbr9 hfr
      have hs9 := hbr9.size
      have hb := up hb hbr9
      have st : St 21 [(2, Fact.eq (.string (ofB (((([45]) ++ (Nm.dec (Rt.tp x))) ++ ([47])) ++ (Nm.dec (Rat.den x))))))] a9 w9 := st9.to (fcs ⟨st9.at_ 2, fnl⟩)
      clear st9 hbr9 hfr
      refine wpList_nil ?_
      refine then_normal ?_
      refine wp_ret ?_
      exact sym_ret1 rfl st.defers (resAt_tmp st 2) hb (fun _ h => by rw [show fmt x = (([45] ++ Nm.dec (Rt.tp x)) ++ [47]) ++ Nm.dec x.den from by unfold fmt; rw [hng, hd1]; rfl]; exact h)
    | true =>
      refine sym_calls 21 [(0, Fact.agg (Con.fr k x))] Tryz.func35 rfl rfl (Nat.le_of_ble_eq_true rfl) (fcs ⟨⟨Nat.le_of_ble_eq_true rfl, hv0⟩, fnl⟩) fun a st => ?_
      have hb := Below.refl w.heap.size w
      refine wp_seq ?_
      refine sym_region st [(1, Fact.var' (Con.fr k x)), (2, Fact.eq (.string (ofB ([]))))] [1] 2 (by kernel_rfl) (by kernel_rfl) (by kernel_rfl) (Nat.le_of_ble_eq_true rfl) (by kernel_rfl) rfl rfl ?_ ?_
      · refine fcs ⟨obn_box 26 0 1 _ (Con.fr k x) rfl rfl rfl (by kernel_rfl) rfl rfl, ?_⟩
        refine fcn (ob_const (.string ⟨#[]⟩) 2 (.inr rfl) rfl (.inl rfl) rfl) ?_
        exact fnl
      intro a1 w1 st1 hbr1 hfr
      have hs1 := hbr1.size
      have hb := up hb hbr1
      obtain ⟨b1, c1⟩ := (show (Fact.var' (Con.fr k x)).holds _ _ from st1.at_ 1)
      have g1 := hfr.ge (s := 1) rfl c1.1
      have st : St 21 [(1, Fact.cell b1 (Con.fr k x)), (2, Fact.eq (.string (ofB ([]))))] a1 w1 := st1.to (fcs ⟨c1, fcs ⟨st1.at_ 2, fnl⟩⟩)
      clear st1 hbr1 hfr c1
      refine wpList_nil ?_
      refine then_normal ?_
      refine wp_seq ?_
      refine sym_region st [(4, Fact.ptr (Con.nn k (Rt.tp x))), (5, Fact.agg (Con.nn k (Rt.tp x))), (6, Fact.eq (.string (ofB (Nm.dec (Rt.tp x))))), (3, Fact.eq (.string (ofB (Nm.dec (Rt.tp x)))))] [] 4 (by kernel_rfl) (by kernel_rfl) (by kernel_rfl) (Nat.le_of_ble_eq_true rfl) (by kernel_rfl) rfl rfl ?_ ?_
      · refine fcn (ob_addr 26 1 1 4 1 (Con.fr k x) (Con.nn k (Rt.tp x)) rfl rfl (.inl rfl) (by kernel_rfl) points_cell rfl (Con.fr_tp k x) field26_1) ?_
        refine fcn (ob_read 24 4 5 (Con.nn k (Rt.tp x)) rfl rfl (.inl rfl) (by kernel_rfl) points_ptr rfl row24 info24) ?_
        refine fcn (ob_call1 72 5 6 _ rfl rfl (.inl rfl) (by kernel_rfl) (by kernel_rfl) (n_format k (Rt.tp x))) ?_
        refine fcn (ob_copy 6 3 (.inr rfl) rfl (.inl rfl) (by kernel_rfl) rfl) ?_
        exact fnl
      intro a2 w2 st2 hbr2 hfr
      have hs2 := hbr2.size
      have hb := up hb hbr2
      have st : St 21 [(1, Fact.cell b1 (Con.fr k x)), (2, Fact.eq (.string (ofB ([])))), (3, Fact.eq (.string (ofB (Nm.dec (Rt.tp x)))))] a2 w2 := st2.to (fcs ⟨st2.at_ 1, fcs ⟨st2.at_ 2, fcs ⟨st2.at_ 3, fnl⟩⟩⟩)
      clear st2 hbr2 hfr
      refine wpList_nil ?_
      refine then_normal ?_
      refine wp_seq ?_
      refine wp_seq ?_
      refine sym_region st [(7, Fact.ptr (Con.bool (Rt.ng x))), (8, fT)] [] 2 (by kernel_rfl) (by kernel_rfl) (by kernel_rfl) (Nat.le_of_ble_eq_true rfl) (by kernel_rfl) rfl rfl ?_ ?_
      · refine fcn (ob_addr 26 0 1 7 0 (Con.fr k x) (Con.bool (Rt.ng x)) rfl rfl (.inl rfl) (by kernel_rfl) points_cell rfl (Con.fr_ng k x) field26_0) ?_
        refine fcn (ob_readb 7 8 (Rt.ng x) true hng rfl rfl (.inl rfl) (by kernel_rfl) points_ptr rfl) ?_
        exact fnl
      intro a3 w3 st3 hbr3 hfr
      have hs3 := hbr3.size
      have hb := up hb hbr3
      have st : St 21 [(1, Fact.cell b1 (Con.fr k x)), (2, Fact.eq (.string (ofB ([])))), (3, Fact.eq (.string (ofB (Nm.dec (Rt.tp x))))), (8, fT)] a3 w3 := st3.to (fcs ⟨st3.at_ 1, fcs ⟨st3.at_ 2, fcs ⟨st3.at_ 3, fcs ⟨st3.at_ 8, fnl⟩⟩⟩⟩)
      clear st3 hbr3 hfr
      refine wpList_nil ?_
      refine then_normal ?_
      refine wp_cond_true (st.at_ 8) ?_
      refine wp_region_lit ?_
      refine sym_op st 9 (Fact.eq (.string (ofB (Nm.dec (Rt.tp x))))) rfl (Nat.le_of_ble_eq_true rfl) rfl rfl (by kernel_rfl) (ob_copy 3 9 (.inl rfl) rfl (.inl rfl) (by kernel_rfl) rfl) ?_
      clear st; intro a5 w5 hbr st; have hs5 := hbr.size; have hb := up hb hbr; clear hbr
      refine sym_op st 10 (Fact.eq (.string (ofB (([45]) ++ (Nm.dec (Rt.tp x)))))) rfl (Nat.le_of_ble_eq_true rfl) rfl rfl (by kernel_rfl) (ob_ccat 9 10 (Nm.dec (Rt.tp x)) ([45]) _ rfl (by simp only [List.length_cons, List.length_nil]; omega) rfl rfl (.inl rfl) (by kernel_rfl) rfl rfl) ?_
      clear st; intro a6 w6 hbr st; have hs6 := hbr.size; have hb := up hb hbr; clear hbr
      have st := st.to (ks' := [(1, Fact.cell b1 (Con.fr k x)), (2, Fact.eq (.string (ofB ([])))), (8, fT), (9, Fact.eq (.string (ofB (Nm.dec (Rt.tp x))))), (10, Fact.eq (.string (ofB (([45]) ++ (Nm.dec (Rt.tp x))))))]) (fcs ⟨st.at_ 1, fcs ⟨st.at_ 2, fcs ⟨st.at_ 8, fcs ⟨st.at_ 9, fcs ⟨st.at_ 10, fnl⟩⟩⟩⟩⟩)
      refine sym_op st 3 (Fact.eq (.string (ofB (([45]) ++ (Nm.dec (Rt.tp x)))))) rfl (Nat.le_of_ble_eq_true rfl) rfl rfl (by kernel_rfl) (ob_copy 10 3 (.inr rfl) rfl (.inl rfl) (by kernel_rfl) rfl) ?_
      clear st; intro a7 w7 hbr st; have hs7 := hbr.size; have hb := up hb hbr; clear hbr
      refine wpList_nil ?_
      refine then_normal ?_
      refine wp_seq ?_
      refine wp_seq ?_
      refine sym_region st [(11, Fact.ptr (Con.nn k (Rat.den x))), (12, Fact.agg (Con.nn k (Rat.den x))), (13, fT)] [] 3 (by kernel_rfl) (by kernel_rfl) (by kernel_rfl) (Nat.le_of_ble_eq_true rfl) (by kernel_rfl) rfl rfl ?_ ?_
      · refine fcn (ob_addr 26 2 1 11 2 (Con.fr k x) (Con.nn k (Rat.den x)) rfl rfl (.inl rfl) (by kernel_rfl) points_cell rfl (Con.fr_den k x) field26_2) ?_
        refine fcn (ob_read 24 11 12 (Con.nn k (Rat.den x)) rfl rfl (.inl rfl) (by kernel_rfl) points_ptr rfl row24 info24) ?_
        refine fcn (ob_call1 69 12 13 _ rfl rfl (.inl rfl) (by kernel_rfl) (by kernel_rfl) (q_isOne k (Rat.den x) true hd1)) ?_
        exact fnl
      intro a8 w8 st8 hbr8 hfr
      have hs8 := hbr8.size
      have hb := up hb hbr8
      have st : St 21 [(1, Fact.cell b1 (Con.fr k x)), (2, Fact.eq (.string (ofB ([])))), (3, Fact.eq (.string (ofB (([45]) ++ (Nm.dec (Rt.tp x)))))), (13, fT)] a8 w8 := st8.to (fcs ⟨st8.at_ 1, fcs ⟨st8.at_ 2, fcs ⟨st8.at_ 3, fcs ⟨st8.at_ 13, fnl⟩⟩⟩⟩)
      clear st8 hbr8 hfr
      refine wpList_nil ?_
      refine then_normal ?_
      refine wp_cond_true (st.at_ 13) ?_
      refine wp_seq ?_
      have st := st.to (ks' := [(1, Fact.cell b1 (Con.fr k x)), (3, Fact.eq (.string (ofB (([45]) ++ (Nm.dec (Rt.tp x)))))), (13, fT)]) (fcs ⟨st.at_ 1, fcs ⟨st.at_ 3, fcs ⟨st.at_ 13, fnl⟩⟩⟩)
      refine sym_region st [(14, Fact.eq (.string (ofB (([45]) ++ (Nm.dec (Rt.tp x)))))), (2, Fact.eq (.string (ofB (([45]) ++ (Nm.dec (Rt.tp x))))))] [] 2 (by kernel_rfl) (by kernel_rfl) (by kernel_rfl) (Nat.le_of_ble_eq_true rfl) (by kernel_rfl) rfl rfl ?_ ?_
      · refine fcn (ob_copy 3 14 (.inl rfl) rfl (.inl rfl) (by kernel_rfl) rfl) ?_
        refine fcn (ob_copy 14 2 (.inr rfl) rfl (.inl rfl) (by kernel_rfl) rfl) ?_
        exact fnl
      intro a9 w9 st9 hbr9 hfr
      have hs9 := hbr9.size
      have hb := up hb hbr9
      have st : St 21 [(1, Fact.cell b1 (Con.fr k x)), (3, Fact.eq (.string (ofB (([45]) ++ (Nm.dec (Rt.tp x)))))), (2, Fact.eq (.string (ofB (([45]) ++ (Nm.dec (Rt.tp x))))))] a9 w9 := st9.to (fcs ⟨st9.at_ 1, fcs ⟨st9.at_ 3, fcs ⟨st9.at_ 2, fnl⟩⟩⟩)
      clear st9 hbr9 hfr
      refine wpList_nil ?_
      refine then_normal ?_
      refine wp_ret ?_
      exact sym_ret1 rfl st.defers (resAt_tmp st 2) hb (fun _ h => by rw [show fmt x = [45] ++ Nm.dec (Rt.tp x) from by unfold fmt; rw [hng, hd1]; rfl]; exact h)
theorem unsg_len (l : List Nat) : (unsg l).length ≤ l.length := by
  unfold unsg
  split
  · rw [List.length_tail]; omega
  · exact Nat.le_refl _
theorem bef_len (l : List Nat) : (bef l).length ≤ l.length := (List.takeWhile_sublist _).length_le
theorem aft_len (l : List Nat) : (aft l).length ≤ l.length := by
  unfold aft
  rw [List.length_tail]
  have := (List.dropWhile_sublist (l := l) (fun c => c != 47)).length_le
  omega
def pe (l : List Nat) : Nat :=
  if Nm.chk (bef (unsg l)) ≠ 0 then Nm.chk (bef (unsg l))
  else if sls (unsg l) = true then (if Nm.chk (aft (unsg l)) ≠ 0 then Nm.chk (aft (unsg l)) else if pv (aft (unsg l)) = 1 then 2 else if vldT (neg45 l) (pv (bef (unsg l))) (pv (aft (unsg l))) = true then 0 else 2)
  else if vldT (neg45 l) (pv (bef (unsg l))) 1 = true then 0 else 2
def px (l : List Nat) : Rat := Rt.of (neg45 l) (pv (bef (unsg l))) (if sls (unsg l) = true then pv (aft (unsg l)) else 1)
def PR (l : List Nat) : Fact := Fact.two (if pe l = 0 then Fact.fr 42 (px l) else Fact.agg (Con.tri 1 1 false 0 0)) (fI (pe l : Int))
theorem PR_err {l : List Nat} {e : Nat} (he : pe l = e) (h0 : e ≠ 0) : PR l = Fact.two (Fact.agg (Con.tri 1 1 false 0 0)) (fI (e : Int)) := by unfold PR; rw [he, if_neg h0]
theorem PR_ok {l : List Nat} (he : pe l = 0) : PR l = Fact.two (Fact.fr 42 (px l)) (fI 0) := by unfold PR; rw [he, if_pos rfl]; rfl
theorem ne_of_bne {n : Nat} (h : ((n : Int) != 0) = true) : n ≠ 0 := by
  rw [bne_iff_ne] at h; omega
theorem eq_of_bne {n : Nat} (h : ((n : Int) != 0) = false) : n = 0 := by
  have h1 : ¬ ((n : Int) ≠ 0) := fun e => by rw [bne_iff_ne.2 e] at h; cases h
  omega
theorem pe_e1 {l : List Nat} (h : ((Nm.chk (bef (unsg l)) : Int) != 0) = true) : pe l = Nm.chk (bef (unsg l)) := by unfold pe; rw [if_pos (ne_of_bne h)]
theorem pe_e2 {l : List Nat} (h : ((Nm.chk (bef (unsg l)) : Int) != 0) = false) (hs : sls (unsg l) = true) (h2 : ((Nm.chk (aft (unsg l)) : Int) != 0) = true) : pe l = Nm.chk (aft (unsg l)) := by
  unfold pe; rw [if_neg (fun e => e (eq_of_bne h)), if_pos hs, if_pos (ne_of_bne h2)]
theorem pe_b1 {l : List Nat} (h : ((Nm.chk (bef (unsg l)) : Int) != 0) = false) (hs : sls (unsg l) = true) (h2 : ((Nm.chk (aft (unsg l)) : Int) != 0) = false) (h3 : pv (aft (unsg l)) = 1) : pe l = 2 := by
  unfold pe; rw [if_neg (fun e => e (eq_of_bne h)), if_pos hs, if_neg (fun e => e (eq_of_bne h2)), if_pos h3]
theorem pe_v {l : List Nat} (h : ((Nm.chk (bef (unsg l)) : Int) != 0) = false) (hs : sls (unsg l) = true) (h2 : ((Nm.chk (aft (unsg l)) : Int) != 0) = false) (h3 : pv (aft (unsg l)) ≠ 1) : pe l = if vldT (neg45 l) (pv (bef (unsg l))) (pv (aft (unsg l))) = true then 0 else 2 := by
  unfold pe; rw [if_neg (fun e => e (eq_of_bne h)), if_pos hs, if_neg (fun e => e (eq_of_bne h2)), if_neg h3]
theorem pe_w {l : List Nat} (h : ((Nm.chk (bef (unsg l)) : Int) != 0) = false) (hs : sls (unsg l) = false) : pe l = if vldT (neg45 l) (pv (bef (unsg l))) 1 = true then 0 else 2 := by
  unfold pe; rw [if_neg (fun e => e (eq_of_bne h)), if_neg (by rw [hs]; decide)]
theorem px_s {l : List Nat} (hs : sls (unsg l) = true) : px l = Rt.of (neg45 l) (pv (bef (unsg l))) (pv (aft (unsg l))) := by unfold px; rw [if_pos hs]
theorem px_n {l : List Nat} (hs : sls (unsg l) = false) : px l = Rt.of (neg45 l) (pv (bef (unsg l))) 1 := by unfold px; rw [if_neg (by rw [hs]; decide)]
theorem not_true {b : Bool} (h : (!b) = true) : b = false := by simpa using h
theorem not_false {b : Bool} (h : (!b) = false) : b = true := by simpa using h
set_option maxRecDepth 100000 in
theorem q_parse_s0 (l : List Nat) (h : Byt l) (hs : l.length ≤ 1000000) (hsl : sls (unsg l) = false) : ∀ v0 w, (Fact.eq (.string (ofB l))).holds v0 w → Calls Tryz.prog 33 #[v0] w (Ret (PR l) w) := by
  intro v0 w hv0
  have hsu : (unsg l).length ≤ 1000000 := Nat.le_trans (unsg_len l) hs
  have hsb : (bef (unsg l)).length ≤ 1000000 := Nat.le_trans (bef_len _) hsu
  have hsa : (aft (unsg l)).length ≤ 1000000 := Nat.le_trans (aft_len _) hsu
  refine sym_calls 60 [(0, Fact.eq (.string (ofB l)))] Tryz.func33 rfl rfl (Nat.le_of_ble_eq_true rfl) (fcs ⟨⟨Nat.le_of_ble_eq_true rfl, hv0⟩, fnl⟩) fun a st => ?_
  have hb := Below.refl w.heap.size w
  refine wp_seq ?_
  refine sym_region st [(2, Fact.var' (Con.raw 3)), (3, fI 0)] [2] 2 (by kernel_rfl) (by kernel_rfl) (by kernel_rfl) (Nat.le_of_ble_eq_true rfl) (by kernel_rfl) rfl rfl ?_ ?_
  · refine fcs ⟨obn_new 26 2 _ [.bool false, .slice none 0 0, .slice none 0 0] rfl rfl rfl rfl rfl alloc26, ?_⟩
    refine fcn (ob_const (.int .i64 0) 3 (.inr rfl) rfl (.inl rfl) rfl) ?_
    exact fnl
  intro a1 w1 st1 hbr1 hfr
  have hs1 := hbr1.size
  have hb := up hb hbr1
  obtain ⟨b2, c2⟩ := (show (Fact.var' (Con.raw 3)).holds _ _ from st1.at_ 2)
  have g2 := hfr.ge (s := 2) rfl c2.1
  have st : St 60 [(0, Fact.eq (.string (ofB l))), (2, Fact.cell b2 (Con.raw 3)), (3, fI 0)] a1 w1 := st1.to (fcs ⟨st1.at_ 0, fcs ⟨c2, fcs ⟨st1.at_ 3, fnl⟩⟩⟩)
  clear st1 hbr1 hfr c2
  refine wpList_nil ?_
  refine then_normal ?_
  refine wp_seq ?_
  refine sym_region st [(14, Fact.eq (.string (ofB l))), (15, Fact.two (Fact.eq (.string (ofB (unsg l)))) (Fact.eq (.bool (neg45 l)))), (13, Fact.two (Fact.eq (.string (ofB (unsg l)))) (Fact.eq (.bool (neg45 l)))), (16, Fact.eq (.string (ofB (unsg l)))), (17, Fact.eq (.bool (neg45 l))), (4, Fact.eq (.string (ofB (unsg l)))), (5, Fact.eq (.bool (neg45 l)))] [] 7 (by kernel_rfl) (by kernel_rfl) (by kernel_rfl) (Nat.le_of_ble_eq_true rfl) (by kernel_rfl) rfl rfl ?_ ?_
  · refine fcn (ob_copy 0 14 (.inl rfl) rfl (.inl rfl) (by kernel_rfl) rfl) ?_
    refine fcn (ob_call_tc 66 14 15 (.string ⟨#[45]⟩) _ rfl rfl (.inl rfl) (by kernel_rfl) (by kernel_rfl) (t_cutPrefix l h hs)) ?_
    refine fcn (ob_copy 15 13 (.inl rfl) rfl (.inl rfl) (by kernel_rfl) rfl) ?_
    refine fcn (ob_fst 13 16 (Fact.eq (.string (ofB (unsg l)))) (Fact.eq (.bool (neg45 l))) rfl rfl (.inl rfl) (by kernel_rfl) rfl rfl) ?_
    refine fcn (ob_snd 13 17 (Fact.eq (.string (ofB (unsg l)))) (Fact.eq (.bool (neg45 l))) rfl rfl (.inl rfl) (by kernel_rfl) rfl rfl) ?_
    refine fcn (ob_copy 16 4 (.inr rfl) rfl (.inl rfl) (by kernel_rfl) rfl) ?_
    refine fcn (ob_copy 17 5 (.inr rfl) rfl (.inl rfl) (by kernel_rfl) rfl) ?_
    exact fnl
  intro a2 w2 st2 hbr2 hfr
  have hs2 := hbr2.size
  have hb := up hb hbr2
  have st : St 60 [(2, Fact.cell b2 (Con.raw 3)), (3, fI 0), (4, Fact.eq (.string (ofB (unsg l)))), (5, Fact.eq (.bool (neg45 l)))] a2 w2 := st2.to (fcs ⟨st2.at_ 2, fcs ⟨st2.at_ 3, fcs ⟨st2.at_ 4, fcs ⟨st2.at_ 5, fnl⟩⟩⟩⟩)
  clear st2 hbr2 hfr
  refine wpList_nil ?_
  refine then_normal ?_
  refine wp_seq ?_
  refine sym_region st [(19, Fact.eq (.string (ofB (unsg l)))), (20, Fact.three (Fact.eq (.string (ofB (bef (unsg l))))) (Fact.eq (.string (ofB (aft (unsg l))))) (fF)), (18, Fact.three (Fact.eq (.string (ofB (bef (unsg l))))) (Fact.eq (.string (ofB (aft (unsg l))))) (fF)), (21, Fact.eq (.string (ofB (bef (unsg l))))), (22, Fact.eq (.string (ofB (aft (unsg l))))), (23, fF), (6, Fact.eq (.string (ofB (bef (unsg l))))), (7, Fact.eq (.string (ofB (aft (unsg l))))), (8, fF)] [] 9 (by kernel_rfl) (by kernel_rfl) (by kernel_rfl) (Nat.le_of_ble_eq_true rfl) (by kernel_rfl) rfl rfl ?_ ?_
  · refine fcn (ob_copy 4 19 (.inl rfl) rfl (.inl rfl) (by kernel_rfl) rfl) ?_
    refine fcn (ob_call_tc 67 19 20 (.string ⟨#[47]⟩) _ rfl rfl (.inl rfl) (by kernel_rfl) (by kernel_rfl) (t_cutb (unsg l) h.unsg hsu false hsl)) ?_
    refine fcn (ob_copy 20 18 (.inl rfl) rfl (.inl rfl) (by kernel_rfl) rfl) ?_
    refine fcn (ob_3a 18 21 (Fact.eq (.string (ofB (bef (unsg l))))) (Fact.eq (.string (ofB (aft (unsg l))))) (fF) rfl rfl (.inl rfl) (by kernel_rfl) rfl rfl) ?_
    refine fcn (ob_3b 18 22 (Fact.eq (.string (ofB (bef (unsg l))))) (Fact.eq (.string (ofB (aft (unsg l))))) (fF) rfl rfl (.inl rfl) (by kernel_rfl) rfl rfl) ?_
    refine fcn (ob_3c 18 23 (Fact.eq (.string (ofB (bef (unsg l))))) (Fact.eq (.string (ofB (aft (unsg l))))) (fF) rfl rfl (.inl rfl) (by kernel_rfl) rfl rfl) ?_
    refine fcn (ob_copy 21 6 (.inr rfl) rfl (.inl rfl) (by kernel_rfl) rfl) ?_
    refine fcn (ob_copy 22 7 (.inr rfl) rfl (.inl rfl) (by kernel_rfl) rfl) ?_
    refine fcn (ob_copy 23 8 (.inr rfl) rfl (.inl rfl) (by kernel_rfl) rfl) ?_
    exact fnl
  intro a3 w3 st3 hbr3 hfr
  have hs3 := hbr3.size
  have hb := up hb hbr3
  have st : St 60 [(2, Fact.cell b2 (Con.raw 3)), (3, fI 0), (5, Fact.eq (.bool (neg45 l))), (6, Fact.eq (.string (ofB (bef (unsg l))))), (7, Fact.eq (.string (ofB (aft (unsg l))))), (8, fF)] a3 w3 := st3.to (fcs ⟨st3.at_ 2, fcs ⟨st3.at_ 3, fcs ⟨st3.at_ 5, fcs ⟨st3.at_ 6, fcs ⟨st3.at_ 7, fcs ⟨st3.at_ 8, fnl⟩⟩⟩⟩⟩⟩)
  clear st3 hbr3 hfr
  refine wpList_nil ?_
  refine then_normal ?_
  refine wp_seq ?_
  refine sym_region st [(25, Fact.eq (.string (ofB (bef (unsg l))))), (26, Fact.two (Fact.agg (Con.nn 42 (pv (bef (unsg l))))) (fI (Nm.chk (bef (unsg l)) : Int))), (24, Fact.two (Fact.agg (Con.nn 42 (pv (bef (unsg l))))) (fI (Nm.chk (bef (unsg l)) : Int))), (27, Fact.agg (Con.nn 42 (pv (bef (unsg l))))), (28, fI (Nm.chk (bef (unsg l)) : Int)), (9, Fact.var' (Con.raw 1))] [9] 6 (by kernel_rfl) (by kernel_rfl) (by kernel_rfl) (Nat.le_of_ble_eq_true rfl) (by kernel_rfl) rfl rfl ?_ ?_
  · refine fcn (ob_copy 6 25 (.inl rfl) rfl (.inl rfl) (by kernel_rfl) rfl) ?_
    refine fcn (ob_call1 68 25 26 _ rfl rfl (.inl rfl) (by kernel_rfl) (by kernel_rfl) (n_parse (bef (unsg l)) h.unsg.bef hsb)) ?_
    refine fcn (ob_copy 26 24 (.inl rfl) rfl (.inl rfl) (by kernel_rfl) rfl) ?_
    refine fcn (ob_fst 24 27 (Fact.agg (Con.nn 42 (pv (bef (unsg l))))) (fI (Nm.chk (bef (unsg l)) : Int)) rfl rfl (.inl rfl) (by kernel_rfl) rfl rfl) ?_
    refine fcn (ob_snd 24 28 (Fact.agg (Con.nn 42 (pv (bef (unsg l))))) (fI (Nm.chk (bef (unsg l)) : Int)) rfl rfl (.inl rfl) (by kernel_rfl) rfl rfl) ?_
    refine fcs ⟨obn_new 24 9 _ [.slice none 0 0] rfl rfl rfl rfl rfl alloc24, ?_⟩
    exact fnl
  intro a4 w4 st4 hbr4 hfr
  have hs4 := hbr4.size
  have hb := up hb hbr4
  obtain ⟨b9, c9⟩ := (show (Fact.var' (Con.raw 1)).holds _ _ from st4.at_ 9)
  have g9 := hfr.ge (s := 9) rfl c9.1
  have st : St 60 [(2, Fact.cell b2 (Con.raw 3)), (3, fI 0), (5, Fact.eq (.bool (neg45 l))), (7, Fact.eq (.string (ofB (aft (unsg l))))), (8, fF), (27, Fact.agg (Con.nn 42 (pv (bef (unsg l))))), (28, fI (Nm.chk (bef (unsg l)) : Int)), (9, Fact.cell b9 (Con.raw 1))] a4 w4 := st4.to (fcs ⟨st4.at_ 2, fcs ⟨st4.at_ 3, fcs ⟨st4.at_ 5, fcs ⟨st4.at_ 7, fcs ⟨st4.at_ 8, fcs ⟨st4.at_ 27, fcs ⟨st4.at_ 28, fcs ⟨c9, fnl⟩⟩⟩⟩⟩⟩⟩⟩)
  clear st4 hbr4 hfr c9
  refine sym_store st 24 9 27 b9 (Con.raw 1) (Con.nn 42 (pv (bef (unsg l)))) [(2, Fact.cell b2 (Con.raw 3)), (3, fI 0), (5, Fact.eq (.bool (neg45 l))), (7, Fact.eq (.string (ofB (aft (unsg l))))), (8, fF), (28, fI (Nm.chk (bef (unsg l)) : Int)), (9, Fact.cell b9 (Con.nn 42 (pv (bef (unsg l)))))] rfl rfl rfl rfl rfl rfl info24 ?_ ?_
  · exact fcs ⟨.inr ⟨rfl, safe_cell _ (by omega)⟩, fcs ⟨.inr ⟨rfl, safe_eq _ _⟩, fcs ⟨.inr ⟨rfl, safe_eq _ _⟩, fcs ⟨.inr ⟨rfl, safe_eq _ _⟩, fcs ⟨.inr ⟨rfl, safe_eq _ _⟩, fcs ⟨.inr ⟨rfl, safe_eq _ _⟩, fcs ⟨.inl rfl, fnl⟩⟩⟩⟩⟩⟩⟩
  clear st; intro w5 hB hsz5 st
  have hb := hB _ _ hb (by omega) (by omega)
  clear hB
  refine sym_op st 10 (fI (Nm.chk (bef (unsg l)) : Int)) rfl (Nat.le_of_ble_eq_true rfl) rfl rfl (by kernel_rfl) (ob_copy 28 10 (.inr rfl) rfl (.inl rfl) (by kernel_rfl) rfl) ?_
  clear st; intro a6 w6 hbr st; have hs6 := hbr.size; have hb := up hb hbr; clear hbr
  refine wpList_nil ?_
  refine then_normal ?_
  refine wp_seq ?_
  refine wp_seq ?_
  refine sym_region st [(29, fI (Nm.chk (bef (unsg l)) : Int)), (30, Fact.eq (.bool ((Nm.chk (bef (unsg l)) : Int) != 0)))] [] 2 (by kernel_rfl) (by kernel_rfl) (by kernel_rfl) (Nat.le_of_ble_eq_true rfl) (by kernel_rfl) rfl rfl ?_ ?_
  · refine fcn (ob_copy 10 29 (.inl rfl) rfl (.inl rfl) (by kernel_rfl) rfl) ?_
    refine fcn (ob_nec 29 30 .i64 33 _ (Nm.chk (bef (unsg l)) : Int) 0 ((Nm.chk (bef (unsg l)) : Int) != 0) rfl rfl rfl (.inl rfl) (by kernel_rfl) rfl rfl) ?_
    exact fnl
  intro a7 w7 st7 hbr7 hfr
  have hs7 := hbr7.size
  have hb := up hb hbr7
  have st : St 60 [(2, Fact.cell b2 (Con.raw 3)), (3, fI 0), (5, Fact.eq (.bool (neg45 l))), (7, Fact.eq (.string (ofB (aft (unsg l))))), (8, fF), (9, Fact.cell b9 (Con.nn 42 (pv (bef (unsg l))))), (10, fI (Nm.chk (bef (unsg l)) : Int)), (30, Fact.eq (.bool ((Nm.chk (bef (unsg l)) : Int) != 0)))] a7 w7 := st7.to (fcs ⟨st7.at_ 2, fcs ⟨st7.at_ 3, fcs ⟨st7.at_ 5, fcs ⟨st7.at_ 7, fcs ⟨st7.at_ 8, fcs ⟨st7.at_ 9, fcs ⟨st7.at_ 10, fcs ⟨st7.at_ 30, fnl⟩⟩⟩⟩⟩⟩⟩⟩)
  clear st7 hbr7 hfr
  refine wpList_nil ?_
  refine then_normal ?_
  refine wp_cond_split (st.at_ 30) (fun h30 => ?_) (fun h30 => ?_)
  · skip
    refine wp_seq ?_
    have st := st.to (ks' := [(2, Fact.cell b2 (Con.raw 3)), (5, Fact.eq (.bool (neg45 l))), (7, Fact.eq (.string (ofB (aft (unsg l))))), (8, fF), (9, Fact.cell b9 (Con.nn 42 (pv (bef (unsg l))))), (10, fI (Nm.chk (bef (unsg l)) : Int)), (30, Fact.eq (.bool ((Nm.chk (bef (unsg l)) : Int) != 0)))]) (fcs ⟨st.at_ 2, fcs ⟨st.at_ 5, fcs ⟨st.at_ 7, fcs ⟨st.at_ 8, fcs ⟨st.at_ 9, fcs ⟨st.at_ 10, fcs ⟨st.at_ 30, fnl⟩⟩⟩⟩⟩⟩⟩)
    refine sym_region st [(31, Fact.agg (Con.tri 1 1 false 0 0)), (32, fI (Nm.chk (bef (unsg l)) : Int))] [] 2 (by kernel_rfl) (by kernel_rfl) (by kernel_rfl) (Nat.le_of_ble_eq_true rfl) (by kernel_rfl) rfl rfl ?_ ?_
    · refine fcn (ob_buildzero 31 rfl rfl (.inl rfl) rfl) ?_
      refine fcn (ob_copy 10 32 (.inl rfl) rfl (.inl rfl) (by kernel_rfl) rfl) ?_
      exact fnl
    intro a8 w8 st8 hbr8 hfr
    have hs8 := hbr8.size
    have hb := up hb hbr8
    have st : St 60 [(2, Fact.cell b2 (Con.raw 3)), (5, Fact.eq (.bool (neg45 l))), (7, Fact.eq (.string (ofB (aft (unsg l))))), (8, fF), (9, Fact.cell b9 (Con.nn 42 (pv (bef (unsg l))))), (10, fI (Nm.chk (bef (unsg l)) : Int)), (31, Fact.agg (Con.tri 1 1 false 0 0)), (32, fI (Nm.chk (bef (unsg l)) : Int))] a8 w8 := st8.to (fcs ⟨st8.at_ 2, fcs ⟨st8.at_ 5, fcs ⟨st8.at_ 7, fcs ⟨st8.at_ 8, fcs ⟨st8.at_ 9, fcs ⟨st8.at_ 10, fcs ⟨st8.at_ 31, fcs ⟨st8.at_ 32, fnl⟩⟩⟩⟩⟩⟩⟩⟩)
    clear st8 hbr8 hfr
    refine sym_store st 26 2 31 b2 (Con.raw 3) (Con.tri 1 1 false 0 0) [(2, Fact.cell b2 (Con.tri 1 1 false 0 0)), (5, Fact.eq (.bool (neg45 l))), (7, Fact.eq (.string (ofB (aft (unsg l))))), (8, fF), (9, Fact.cell b9 (Con.nn 42 (pv (bef (unsg l))))), (10, fI (Nm.chk (bef (unsg l)) : Int)), (32, fI (Nm.chk (bef (unsg l)) : Int))] rfl rfl rfl rfl rfl rfl info26 ?_ ?_
    · exact fcs ⟨.inl rfl, fcs ⟨.inr ⟨rfl, safe_eq _ _⟩, fcs ⟨.inr ⟨rfl, safe_eq _ _⟩, fcs ⟨.inr ⟨rfl, safe_eq _ _⟩, fcs ⟨.inr ⟨rfl, safe_cell _ (by omega)⟩, fcs ⟨.inr ⟨rfl, safe_eq _ _⟩, fcs ⟨.inr ⟨rfl, safe_eq _ _⟩, fnl⟩⟩⟩⟩⟩⟩⟩
    clear st; intro w9 hB hsz9 st
    have hb := hB _ _ hb (by omega) (by omega)
    clear hB
    refine sym_op st 3 (fI (Nm.chk (bef (unsg l)) : Int)) rfl (Nat.le_of_ble_eq_true rfl) rfl rfl (by kernel_rfl) (ob_copy 32 3 (.inr rfl) rfl (.inl rfl) (by kernel_rfl) rfl) ?_
    clear st; intro a10 w10 hbr st; have hs10 := hbr.size; have hb := up hb hbr; clear hbr
    refine wpList_nil ?_
    refine then_normal ?_
    refine wp_ret ?_
    exact sym_ret2 rfl st.defers (resAt_cell st 2 b2 26 (Con.tri 1 1 false 0 0) rfl row26 info26) (resAt_tmp st 3) hb (by rw [PR_err (pe_e1 h30) (ne_of_bne h30)]; exact fun v u h1 h2 => ⟨v, u, rfl, h1, h2⟩)
  · skip
    refine wp_skip ?_
    refine then_normal ?_
    refine wp_seq ?_
    refine sym_region st [(33, Fact.agg (Con.nn 1 1)), (11, Fact.var' (Con.raw 1))] [11] 2 (by kernel_rfl) (by kernel_rfl) (by kernel_rfl) (Nat.le_of_ble_eq_true rfl) (by kernel_rfl) rfl rfl ?_ ?_
    · refine fcn (ob_callc 61 _ 33 _ rfl rfl (.inl rfl) (by kernel_rfl) (n_of 1 1 (by decide) (by unfold Nm.Sz; decide) (by decide))) ?_
      refine fcs ⟨obn_new 24 11 _ [.slice none 0 0] rfl rfl rfl rfl rfl alloc24, ?_⟩
      exact fnl
    intro a11 w11 st11 hbr11 hfr
    have hs11 := hbr11.size
    have hb := up hb hbr11
    obtain ⟨b11, c11⟩ := (show (Fact.var' (Con.raw 1)).holds _ _ from st11.at_ 11)
    have g11 := hfr.ge (s := 11) rfl c11.1
    have st : St 60 [(2, Fact.cell b2 (Con.raw 3)), (3, fI 0), (5, Fact.eq (.bool (neg45 l))), (7, Fact.eq (.string (ofB (aft (unsg l))))), (8, fF), (9, Fact.cell b9 (Con.nn 42 (pv (bef (unsg l))))), (10, fI (Nm.chk (bef (unsg l)) : Int)), (33, Fact.agg (Con.nn 1 1)), (11, Fact.cell b11 (Con.raw 1))] a11 w11 := st11.to (fcs ⟨st11.at_ 2, fcs ⟨st11.at_ 3, fcs ⟨st11.at_ 5, fcs ⟨st11.at_ 7, fcs ⟨st11.at_ 8, fcs ⟨st11.at_ 9, fcs ⟨st11.at_ 10, fcs ⟨st11.at_ 33, fcs ⟨c11, fnl⟩⟩⟩⟩⟩⟩⟩⟩⟩)
    clear st11 hbr11 hfr c11
    refine sym_store st 24 11 33 b11 (Con.raw 1) (Con.nn 1 1) [(2, Fact.cell b2 (Con.raw 3)), (3, fI 0), (5, Fact.eq (.bool (neg45 l))), (7, Fact.eq (.string (ofB (aft (unsg l))))), (8, fF), (9, Fact.cell b9 (Con.nn 42 (pv (bef (unsg l))))), (10, fI (Nm.chk (bef (unsg l)) : Int)), (11, Fact.cell b11 (Con.nn 1 1))] rfl rfl rfl rfl rfl rfl info24 ?_ ?_
    · exact fcs ⟨.inr ⟨rfl, safe_cell _ (by omega)⟩, fcs ⟨.inr ⟨rfl, safe_eq _ _⟩, fcs ⟨.inr ⟨rfl, safe_eq _ _⟩, fcs ⟨.inr ⟨rfl, safe_eq _ _⟩, fcs ⟨.inr ⟨rfl, safe_eq _ _⟩, fcs ⟨.inr ⟨rfl, safe_cell _ (by omega)⟩, fcs ⟨.inr ⟨rfl, safe_eq _ _⟩, fcs ⟨.inl rfl, fnl⟩⟩⟩⟩⟩⟩⟩⟩
    clear st; intro w12 hB hsz12 st
    have hb := hB _ _ hb (by omega) (by omega)
    clear hB
    refine wpList_nil ?_
    refine then_normal ?_
    refine wp_seq ?_
    refine wp_seq ?_
    refine sym_region st [(34, fF)] [] 1 (by kernel_rfl) (by kernel_rfl) (by kernel_rfl) (Nat.le_of_ble_eq_true rfl) (by kernel_rfl) rfl rfl ?_ ?_
    · refine fcn (ob_copy 8 34 (.inl rfl) rfl (.inl rfl) (by kernel_rfl) rfl) ?_
      exact fnl
    intro a13 w13 st13 hbr13 hfr
    have hs13 := hbr13.size
    have hb := up hb hbr13
    have st : St 60 [(2, Fact.cell b2 (Con.raw 3)), (3, fI 0), (5, Fact.eq (.bool (neg45 l))), (7, Fact.eq (.string (ofB (aft (unsg l))))), (8, fF), (9, Fact.cell b9 (Con.nn 42 (pv (bef (unsg l))))), (10, fI (Nm.chk (bef (unsg l)) : Int)), (11, Fact.cell b11 (Con.nn 1 1)), (34, fF)] a13 w13 := st13.to (fcs ⟨st13.at_ 2, fcs ⟨st13.at_ 3, fcs ⟨st13.at_ 5, fcs ⟨st13.at_ 7, fcs ⟨st13.at_ 8, fcs ⟨st13.at_ 9, fcs ⟨st13.at_ 10, fcs ⟨st13.at_ 11, fcs ⟨st13.at_ 34, fnl⟩⟩⟩⟩⟩⟩⟩⟩⟩)
    clear st13 hbr13 hfr
    refine wpList_nil ?_
    refine then_normal ?_
    refine wp_cond_false (st.at_ 34) ?_
    refine wp_skip ?_
    refine then_normal ?_
    refine wp_seq ?_
    refine sym_region st [(44, Fact.eq (.bool (neg45 l))), (45, Fact.agg (Con.nn 42 (pv (bef (unsg l))))), (46, Fact.agg (Con.nn 1 1)), (47, Fact.agg (Con.tri 42 1 (neg45 l) (pv (bef (unsg l))) 1)), (12, Fact.var' (Con.raw 3))] [12] 5 (by kernel_rfl) (by kernel_rfl) (by kernel_rfl) (Nat.le_of_ble_eq_true rfl) (by kernel_rfl) rfl rfl ?_ ?_
    · refine fcn (ob_copy 5 44 (.inl rfl) rfl (.inl rfl) (by kernel_rfl) rfl) ?_
      refine fcn (ob_read 24 9 45 (Con.nn 42 (pv (bef (unsg l)))) rfl rfl (.inl rfl) (by kernel_rfl) points_cell rfl row24 info24) ?_
      refine fcn (ob_read 24 11 46 (Con.nn 1 1) rfl rfl (.inl rfl) (by kernel_rfl) points_cell rfl row24 info24) ?_
      refine fcn (ob_buildtri 44 45 46 47 42 1 (pv (bef (unsg l))) 1 (neg45 l) rfl rfl (.inl rfl) (by kernel_rfl) (by kernel_rfl) (by kernel_rfl) rfl rfl rfl rfl) ?_
      refine fcs ⟨obn_new 26 12 _ [.bool false, .slice none 0 0, .slice none 0 0] rfl rfl rfl rfl rfl alloc26, ?_⟩
      exact fnl
    intro a14 w14 st14 hbr14 hfr
    have hs14 := hbr14.size
    have hb := up hb hbr14
    obtain ⟨b12, c12⟩ := (show (Fact.var' (Con.raw 3)).holds _ _ from st14.at_ 12)
    have g12 := hfr.ge (s := 12) rfl c12.1
    have st : St 60 [(2, Fact.cell b2 (Con.raw 3)), (3, fI 0), (8, fF), (11, Fact.cell b11 (Con.nn 1 1)), (47, Fact.agg (Con.tri 42 1 (neg45 l) (pv (bef (unsg l))) 1)), (12, Fact.cell b12 (Con.raw 3))] a14 w14 := st14.to (fcs ⟨st14.at_ 2, fcs ⟨st14.at_ 3, fcs ⟨st14.at_ 8, fcs ⟨st14.at_ 11, fcs ⟨st14.at_ 47, fcs ⟨c12, fnl⟩⟩⟩⟩⟩⟩)
    clear st14 hbr14 hfr c12
    refine sym_store st 26 12 47 b12 (Con.raw 3) (Con.tri 42 1 (neg45 l) (pv (bef (unsg l))) 1) [(2, Fact.cell b2 (Con.raw 3)), (3, fI 0), (8, fF), (11, Fact.cell b11 (Con.nn 1 1)), (12, Fact.cell b12 (Con.tri 42 1 (neg45 l) (pv (bef (unsg l))) 1))] rfl rfl rfl rfl rfl rfl info26 ?_ ?_
    · exact fcs ⟨.inr ⟨rfl, safe_cell _ (by omega)⟩, fcs ⟨.inr ⟨rfl, safe_eq _ _⟩, fcs ⟨.inr ⟨rfl, safe_eq _ _⟩, fcs ⟨.inr ⟨rfl, safe_cell _ (by omega)⟩, fcs ⟨.inl rfl, fnl⟩⟩⟩⟩⟩
    clear st; intro w15 hB hsz15 st
    have hb := hB _ _ hb (by omega) (by omega)
    clear hB
    refine wpList_nil ?_
    refine then_normal ?_
    refine wp_seq ?_
    refine wp_seq ?_
    refine sym_region st [(48, fF), (49, fF), (50, Fact.eq undef), (51, Fact.eq undef), (52, fF), (53, fF), (54, Fact.agg (Con.tri 42 1 (neg45 l) (pv (bef (unsg l))) 1)), (55, Fact.eq (.bool (vldT (neg45 l) (pv (bef (unsg l))) 1))), (56, Fact.eq (.bool (!(vldT (neg45 l) (pv (bef (unsg l))) 1)))), (57, Fact.eq (.bool (!(vldT (neg45 l) (pv (bef (unsg l))) 1))))] [] 10 (by kernel_rfl) (by kernel_rfl) (by kernel_rfl) (Nat.le_of_ble_eq_true rfl) (by kernel_rfl) rfl rfl ?_ ?_
    · refine fcn (ob_copy 8 48 (.inl rfl) rfl (.inl rfl) (by kernel_rfl) rfl) ?_
      refine fcn (ob_copy 48 49 (.inl rfl) rfl (.inl rfl) (by kernel_rfl) rfl) ?_
      refine fcn (ob_skip 1 49 50 true rfl rfl (by kernel_rfl) (by decide) rfl rfl rfl) ?_
      refine fcn (ob_skip 1 49 51 true rfl rfl (by kernel_rfl) (by decide) rfl rfl rfl) ?_
      refine fcn (ob_pick_no 49 51 52 (.bool false) rfl rfl (.inl rfl) (by kernel_rfl) rfl rfl) ?_
      refine fcn (ob_copy 52 53 (.inl rfl) rfl (.inl rfl) (by kernel_rfl) rfl) ?_
      refine fcn (ob_read 26 12 54 (Con.tri 42 1 (neg45 l) (pv (bef (unsg l))) 1) rfl rfl (.inr ⟨_, _, _, rfl, rfl, by kernel_rfl, by decide, rfl⟩) (by kernel_rfl) points_cell rfl row26 info26) ?_
      refine fcn (ob_call1 70 54 55 _ rfl rfl (.inr ⟨_, _, _, rfl, rfl, by kernel_rfl, by decide, rfl⟩) (by kernel_rfl) (by kernel_rfl) (q_valid_tri 42 1 (neg45 l) (pv (bef (unsg l))) 1 (by omega) (by omega) (vldT (neg45 l) (pv (bef (unsg l))) 1) rfl)) ?_
      refine fcn (ob_not 55 56 (vldT (neg45 l) (pv (bef (unsg l))) 1) (!(vldT (neg45 l) (pv (bef (unsg l))) 1)) rfl rfl rfl (.inr ⟨_, _, _, rfl, rfl, by kernel_rfl, by decide, rfl⟩) (by kernel_rfl) rfl rfl) ?_
      refine fcn (ob_pick_else 53 56 57 (.bool true) rfl rfl (.inl rfl) (by kernel_rfl) (by kernel_rfl) rfl rfl) ?_
      exact fnl
    intro a16 w16 st16 hbr16 hfr
    have hs16 := hbr16.size
    have hb := up hb hbr16
    have st : St 60 [(2, Fact.cell b2 (Con.raw 3)), (3, fI 0), (12, Fact.cell b12 (Con.tri 42 1 (neg45 l) (pv (bef (unsg l))) 1)), (57, Fact.eq (.bool (!(vldT (neg45 l) (pv (bef (unsg l))) 1))))] a16 w16 := st16.to (fcs ⟨st16.at_ 2, fcs ⟨st16.at_ 3, fcs ⟨st16.at_ 12, fcs ⟨st16.at_ 57, fnl⟩⟩⟩⟩)
    clear st16 hbr16 hfr
    refine wpList_nil ?_
    refine then_normal ?_
    refine wp_cond_split (st.at_ 57) (fun h57 => ?_) (fun h57 => ?_)
    · skip
      refine wp_seq ?_
      have st := st.to (ks' := [(2, Fact.cell b2 (Con.raw 3)), (12, Fact.cell b12 (Con.tri 42 1 (neg45 l) (pv (bef (unsg l))) 1)), (57, Fact.eq (.bool (!(vldT (neg45 l) (pv (bef (unsg l))) 1))))]) (fcs ⟨st.at_ 2, fcs ⟨st.at_ 12, fcs ⟨st.at_ 57, fnl⟩⟩⟩)
      refine sym_region st [(58, Fact.agg (Con.tri 1 1 false 0 0))] [] 1 (by kernel_rfl) (by kernel_rfl) (by kernel_rfl) (Nat.le_of_ble_eq_true rfl) (by kernel_rfl) rfl rfl ?_ ?_
      · refine fcn (ob_buildzero 58 rfl rfl (.inl rfl) rfl) ?_
        exact fnl
      intro a17 w17 st17 hbr17 hfr
      have hs17 := hbr17.size
      have hb := up hb hbr17
      have st : St 60 [(2, Fact.cell b2 (Con.raw 3)), (12, Fact.cell b12 (Con.tri 42 1 (neg45 l) (pv (bef (unsg l))) 1)), (58, Fact.agg (Con.tri 1 1 false 0 0))] a17 w17 := st17.to (fcs ⟨st17.at_ 2, fcs ⟨st17.at_ 12, fcs ⟨st17.at_ 58, fnl⟩⟩⟩)
      clear st17 hbr17 hfr
      refine sym_store st 26 2 58 b2 (Con.raw 3) (Con.tri 1 1 false 0 0) [(2, Fact.cell b2 (Con.tri 1 1 false 0 0)), (12, Fact.cell b12 (Con.tri 42 1 (neg45 l) (pv (bef (unsg l))) 1))] rfl rfl rfl rfl rfl rfl info26 ?_ ?_
      · exact fcs ⟨.inl rfl, fcs ⟨.inr ⟨rfl, safe_cell _ (by omega)⟩, fnl⟩⟩
      clear st; intro w18 hB hsz18 st
      have hb := hB _ _ hb (by omega) (by omega)
      clear hB
      refine sym_op st 3 (fI 2) rfl (Nat.le_of_ble_eq_true rfl) rfl rfl (by kernel_rfl) (ob_const (.int .i64 2) 3 (.inr rfl) rfl (.inl rfl) rfl) ?_
      clear st; intro a19 w19 hbr st; have hs19 := hbr.size; have hb := up hb hbr; clear hbr
      refine wpList_nil ?_
      refine then_normal ?_
      refine wp_ret ?_
      exact sym_ret2 rfl st.defers (resAt_cell st 2 b2 26 (Con.tri 1 1 false 0 0) rfl row26 info26) (resAt_tmp st 3) hb (by rw [PR_err (e := 2) ((pe_w h30 hsl).trans (by rw [not_true h57]; rfl)) (by decide)]; exact fun v u h1 h2 => ⟨v, u, rfl, h1, h2⟩)
    · skip
      refine wp_skip ?_
      refine then_normal ?_
      refine wp_seq ?_
      have st := st.to (ks' := [(2, Fact.cell b2 (Con.raw 3)), (12, Fact.cell b12 (Con.tri 42 1 (neg45 l) (pv (bef (unsg l))) 1)), (57, Fact.eq (.bool (!(vldT (neg45 l) (pv (bef (unsg l))) 1))))]) (fcs ⟨st.at_ 2, fcs ⟨st.at_ 12, fcs ⟨st.at_ 57, fnl⟩⟩⟩)
      refine sym_region st [(59, Fact.agg (Con.tri 42 1 (neg45 l) (pv (bef (unsg l))) 1))] [] 1 (by kernel_rfl) (by kernel_rfl) (by kernel_rfl) (Nat.le_of_ble_eq_true rfl) (by kernel_rfl) rfl rfl ?_ ?_
      · refine fcn (ob_read 26 12 59 (Con.tri 42 1 (neg45 l) (pv (bef (unsg l))) 1) rfl rfl (.inl rfl) (by kernel_rfl) points_cell rfl row26 info26) ?_
        exact fnl
      intro a20 w20 st20 hbr20 hfr
      have hs20 := hbr20.size
      have hb := up hb hbr20
      have st : St 60 [(2, Fact.cell b2 (Con.raw 3)), (59, Fact.agg (Con.tri 42 1 (neg45 l) (pv (bef (unsg l))) 1))] a20 w20 := st20.to (fcs ⟨st20.at_ 2, fcs ⟨st20.at_ 59, fnl⟩⟩)
      clear st20 hbr20 hfr
      refine sym_store st 26 2 59 b2 (Con.raw 3) (Con.tri 42 1 (neg45 l) (pv (bef (unsg l))) 1) [(2, Fact.cell b2 (Con.tri 42 1 (neg45 l) (pv (bef (unsg l))) 1))] rfl rfl rfl rfl rfl rfl info26 ?_ ?_
      · exact fcs ⟨.inl rfl, fnl⟩
      clear st; intro w21 hB hsz21 st
      have hb := hB _ _ hb (by omega) (by omega)
      clear hB
      refine sym_op st 3 (fI 0) rfl (Nat.le_of_ble_eq_true rfl) rfl rfl (by kernel_rfl) (ob_const (.int .i64 0) 3 (.inr rfl) rfl (.inl rfl) rfl) ?_
      clear st; intro a22 w22 hbr st; have hs22 := hbr.size; have hb := up hb hbr; clear hbr
      refine wpList_nil ?_
      refine then_normal ?_
      refine wp_ret ?_
      exact sym_ret2 rfl st.defers (resAt_cell st 2 b2 26 (Con.tri 42 1 (neg45 l) (pv (bef (unsg l))) 1) rfl row26 info26) (resAt_tmp st 3) hb (by rw [PR_ok ((pe_w h30 hsl).trans (if_pos (not_false h57))), px_n hsl]; exact fun v u h1 h2 => ⟨v, u, rfl, vldT_fr (not_false h57) h1 (by decide) (by decide), h2⟩)
set_option maxRecDepth 100000 in
theorem q_parse_s1 (l : List Nat) (h : Byt l) (hs : l.length ≤ 1000000) (hsl : sls (unsg l) = true) (hone : decide (pv (aft (unsg l)) = 1) = true) : ∀ v0 w, (Fact.eq (.string (ofB l))).holds v0 w → Calls Tryz.prog 33 #[v0] w (Ret (PR l) w) := by
  intro v0 w hv0
  have hsu : (unsg l).length ≤ 1000000 := Nat.le_trans (unsg_len l) hs
  have hsb : (bef (unsg l)).length ≤ 1000000 := Nat.le_trans (bef_len _) hsu
  have hsa : (aft (unsg l)).length ≤ 1000000 := Nat.le_trans (aft_len _) hsu
  refine sym_calls 60 [(0, Fact.eq (.string (ofB l)))] Tryz.func33 rfl rfl (Nat.le_of_ble_eq_true rfl) (fcs ⟨⟨Nat.le_of_ble_eq_true rfl, hv0⟩, fnl⟩) fun a st => ?_
  have hb := Below.refl w.heap.size w
  refine wp_seq ?_
  refine sym_region st [(2, Fact.var' (Con.raw 3)), (3, fI 0)] [2] 2 (by kernel_rfl) (by kernel_rfl) (by kernel_rfl) (Nat.le_of_ble_eq_true rfl) (by kernel_rfl) rfl rfl ?_ ?_
  · refine fcs ⟨obn_new 26 2 _ [.bool false, .slice none 0 0, .slice none 0 0] rfl rfl rfl rfl rfl alloc26, ?_⟩
    refine fcn (ob_const (.int .i64 0) 3 (.inr rfl) rfl (.inl rfl) rfl) ?_
    exact fnl
  intro a1 w1 st1 hbr1 hfr
  have hs1 := hbr1.size
  have hb := up hb hbr1
  obtain ⟨b2, c2⟩ := (show (Fact.var' (Con.raw 3)).holds _ _ from st1.at_ 2)
  have g2 := hfr.ge (s := 2) rfl c2.1
  have st : St 60 [(0, Fact.eq (.string (ofB l))), (2, Fact.cell b2 (Con.raw 3)), (3, fI 0)] a1 w1 := st1.to (fcs ⟨st1.at_ 0, fcs ⟨c2, fcs ⟨st1.at_ 3, fnl⟩⟩⟩)
  clear st1 hbr1 hfr c2
  refine wpList_nil ?_
  refine then_normal ?_
  refine wp_seq ?_
  refine sym_region st [(14, Fact.eq (.string (ofB l))), (15, Fact.two (Fact.eq (.string (ofB (unsg l)))) (Fact.eq (.bool (neg45 l)))), (13, Fact.two (Fact.eq (.string (ofB (unsg l)))) (Fact.eq (.bool (neg45 l)))), (16, Fact.eq (.string (ofB (unsg l)))), (17, Fact.eq (.bool (neg45 l))), (4, Fact.eq (.string (ofB (unsg l)))), (5, Fact.eq (.bool (neg45 l)))] [] 7 (by kernel_rfl) (by kernel_rfl) (by kernel_rfl) (Nat.le_of_ble_eq_true rfl) (by kernel_rfl) rfl rfl ?_ ?_
  · refine fcn (ob_copy 0 14 (.inl rfl) rfl (.inl rfl) (by kernel_rfl) rfl) ?_
    refine fcn (ob_call_tc 66 14 15 (.string ⟨#[45]⟩) _ rfl rfl (.inl rfl) (by kernel_rfl) (by kernel_rfl) (t_cutPrefix l h hs)) ?_
    refine fcn (ob_copy 15 13 (.inl rfl) rfl (.inl rfl) (by kernel_rfl) rfl) ?_
    refine fcn (ob_fst 13 16 (Fact.eq (.string (ofB (unsg l)))) (Fact.eq (.bool (neg45 l))) rfl rfl (.inl rfl) (by kernel_rfl) rfl rfl) ?_
    refine fcn (ob_snd 13 17 (Fact.eq (.string (ofB (unsg l)))) (Fact.eq (.bool (neg45 l))) rfl rfl (.inl rfl) (by kernel_rfl) rfl rfl) ?_
    refine fcn (ob_copy 16 4 (.inr rfl) rfl (.inl rfl) (by kernel_rfl) rfl) ?_
    refine fcn (ob_copy 17 5 (.inr rfl) rfl (.inl rfl) (by kernel_rfl) rfl) ?_
    exact fnl
  intro a2 w2 st2 hbr2 hfr
  have hs2 := hbr2.size
  have hb := up hb hbr2
  have st : St 60 [(2, Fact.cell b2 (Con.raw 3)), (3, fI 0), (4, Fact.eq (.string (ofB (unsg l)))), (5, Fact.eq (.bool (neg45 l)))] a2 w2 := st2.to (fcs ⟨st2.at_ 2, fcs ⟨st2.at_ 3, fcs ⟨st2.at_ 4, fcs ⟨st2.at_ 5, fnl⟩⟩⟩⟩)
  clear st2 hbr2 hfr
  refine wpList_nil ?_
  refine then_normal ?_
  refine wp_seq ?_
  refine sym_region st [(19, Fact.eq (.string (ofB (unsg l)))), (20, Fact.three (Fact.eq (.string (ofB (bef (unsg l))))) (Fact.eq (.string (ofB (aft (unsg l))))) (fT)), (18, Fact.three (Fact.eq (.string (ofB (bef (unsg l))))) (Fact.eq (.string (ofB (aft (unsg l))))) (fT)), (21, Fact.eq (.string (ofB (bef (unsg l))))), (22, Fact.eq (.string (ofB (aft (unsg l))))), (23, fT), (6, Fact.eq (.string (ofB (bef (unsg l))))), (7, Fact.eq (.string (ofB (aft (unsg l))))), (8, fT)] [] 9 (by kernel_rfl) (by kernel_rfl) (by kernel_rfl) (Nat.le_of_ble_eq_true rfl) (by kernel_rfl) rfl rfl ?_ ?_
  · refine fcn (ob_copy 4 19 (.inl rfl) rfl (.inl rfl) (by kernel_rfl) rfl) ?_
    refine fcn (ob_call_tc 67 19 20 (.string ⟨#[47]⟩) _ rfl rfl (.inl rfl) (by kernel_rfl) (by kernel_rfl) (t_cutb (unsg l) h.unsg hsu true hsl)) ?_
    refine fcn (ob_copy 20 18 (.inl rfl) rfl (.inl rfl) (by kernel_rfl) rfl) ?_
    refine fcn (ob_3a 18 21 (Fact.eq (.string (ofB (bef (unsg l))))) (Fact.eq (.string (ofB (aft (unsg l))))) (fT) rfl rfl (.inl rfl) (by kernel_rfl) rfl rfl) ?_
    refine fcn (ob_3b 18 22 (Fact.eq (.string (ofB (bef (unsg l))))) (Fact.eq (.string (ofB (aft (unsg l))))) (fT) rfl rfl (.inl rfl) (by kernel_rfl) rfl rfl) ?_
    refine fcn (ob_3c 18 23 (Fact.eq (.string (ofB (bef (unsg l))))) (Fact.eq (.string (ofB (aft (unsg l))))) (fT) rfl rfl (.inl rfl) (by kernel_rfl) rfl rfl) ?_
    refine fcn (ob_copy 21 6 (.inr rfl) rfl (.inl rfl) (by kernel_rfl) rfl) ?_
    refine fcn (ob_copy 22 7 (.inr rfl) rfl (.inl rfl) (by kernel_rfl) rfl) ?_
    refine fcn (ob_copy 23 8 (.inr rfl) rfl (.inl rfl) (by kernel_rfl) rfl) ?_
    exact fnl
  intro a3 w3 st3 hbr3 hfr
  have hs3 := hbr3.size
  have hb := up hb hbr3
  have st : St 60 [(2, Fact.cell b2 (Con.raw 3)), (3, fI 0), (5, Fact.eq (.bool (neg45 l))), (6, Fact.eq (.string (ofB (bef (unsg l))))), (7, Fact.eq (.string (ofB (aft (unsg l))))), (8, fT)] a3 w3 := st3.to (fcs ⟨st3.at_ 2, fcs ⟨st3.at_ 3, fcs ⟨st3.at_ 5, fcs ⟨st3.at_ 6, fcs ⟨st3.at_ 7, fcs ⟨st3.at_ 8, fnl⟩⟩⟩⟩⟩⟩)
  clear st3 hbr3 hfr
  refine wpList_nil ?_
  refine then_normal ?_
  refine wp_seq ?_
  refine sym_region st [(25, Fact.eq (.string (ofB (bef (unsg l))))), (26, Fact.two (Fact.agg (Con.nn 42 (pv (bef (unsg l))))) (fI (Nm.chk (bef (unsg l)) : Int))), (24, Fact.two (Fact.agg (Con.nn 42 (pv (bef (unsg l))))) (fI (Nm.chk (bef (unsg l)) : Int))), (27, Fact.agg (Con.nn 42 (pv (bef (unsg l))))), (28, fI (Nm.chk (bef (unsg l)) : Int)), (9, Fact.var' (Con.raw 1))] [9] 6 (by kernel_rfl) (by kernel_rfl) (by kernel_rfl) (Nat.le_of_ble_eq_true rfl) (by kernel_rfl) rfl rfl ?_ ?_
  · refine fcn (ob_copy 6 25 (.inl rfl) rfl (.inl rfl) (by kernel_rfl) rfl) ?_
    refine fcn (ob_call1 68 25 26 _ rfl rfl (.inl rfl) (by kernel_rfl) (by kernel_rfl) (n_parse (bef (unsg l)) h.unsg.bef hsb)) ?_
    refine fcn (ob_copy 26 24 (.inl rfl) rfl (.inl rfl) (by kernel_rfl) rfl) ?_
    refine fcn (ob_fst 24 27 (Fact.agg (Con.nn 42 (pv (bef (unsg l))))) (fI (Nm.chk (bef (unsg l)) : Int)) rfl rfl (.inl rfl) (by kernel_rfl) rfl rfl) ?_
    refine fcn (ob_snd 24 28 (Fact.agg (Con.nn 42 (pv (bef (unsg l))))) (fI (Nm.chk (bef (unsg l)) : Int)) rfl rfl (.inl rfl) (by kernel_rfl) rfl rfl) ?_
    refine fcs ⟨obn_new 24 9 _ [.slice none 0 0] rfl rfl rfl rfl rfl alloc24, ?_⟩
    exact fnl
  intro a4 w4 st4 hbr4 hfr
  have hs4 := hbr4.size
  have hb := up hb hbr4
  obtain ⟨b9, c9⟩ := (show (Fact.var' (Con.raw 1)).holds _ _ from st4.at_ 9)
  have g9 := hfr.ge (s := 9) rfl c9.1
  have st : St 60 [(2, Fact.cell b2 (Con.raw 3)), (3, fI 0), (5, Fact.eq (.bool (neg45 l))), (7, Fact.eq (.string (ofB (aft (unsg l))))), (8, fT), (27, Fact.agg (Con.nn 42 (pv (bef (unsg l))))), (28, fI (Nm.chk (bef (unsg l)) : Int)), (9, Fact.cell b9 (Con.raw 1))] a4 w4 := st4.to (fcs ⟨st4.at_ 2, fcs ⟨st4.at_ 3, fcs ⟨st4.at_ 5, fcs ⟨st4.at_ 7, fcs ⟨st4.at_ 8, fcs ⟨st4.at_ 27, fcs ⟨st4.at_ 28, fcs ⟨c9, fnl⟩⟩⟩⟩⟩⟩⟩⟩)
  clear st4 hbr4 hfr c9
  refine sym_store st 24 9 27 b9 (Con.raw 1) (Con.nn 42 (pv (bef (unsg l)))) [(2, Fact.cell b2 (Con.raw 3)), (3, fI 0), (5, Fact.eq (.bool (neg45 l))), (7, Fact.eq (.string (ofB (aft (unsg l))))), (8, fT), (28, fI (Nm.chk (bef (unsg l)) : Int)), (9, Fact.cell b9 (Con.nn 42 (pv (bef (unsg l)))))] rfl rfl rfl rfl rfl rfl info24 ?_ ?_
  · exact fcs ⟨.inr ⟨rfl, safe_cell _ (by omega)⟩, fcs ⟨.inr ⟨rfl, safe_eq _ _⟩, fcs ⟨.inr ⟨rfl, safe_eq _ _⟩, fcs ⟨.inr ⟨rfl, safe_eq _ _⟩, fcs ⟨.inr ⟨rfl, safe_eq _ _⟩, fcs ⟨.inr ⟨rfl, safe_eq _ _⟩, fcs ⟨.inl rfl, fnl⟩⟩⟩⟩⟩⟩⟩
  clear st; intro w5 hB hsz5 st
  have hb := hB _ _ hb (by omega) (by omega)
  clear hB
  refine sym_op st 10 (fI (Nm.chk (bef (unsg l)) : Int)) rfl (Nat.le_of_ble_eq_true rfl) rfl rfl (by kernel_rfl) (ob_copy 28 10 (.inr rfl) rfl (.inl rfl) (by kernel_rfl) rfl) ?_
  clear st; intro a6 w6 hbr st; have hs6 := hbr.size; have hb := up hb hbr; clear hbr
  refine wpList_nil ?_
  refine then_normal ?_
  refine wp_seq ?_
  refine wp_seq ?_
  refine sym_region st [(29, fI (Nm.chk (bef (unsg l)) : Int)), (30, Fact.eq (.bool ((Nm.chk (bef (unsg l)) : Int) != 0)))] [] 2 (by kernel_rfl) (by kernel_rfl) (by kernel_rfl) (Nat.le_of_ble_eq_true rfl) (by kernel_rfl) rfl rfl ?_ ?_
  · refine fcn (ob_copy 10 29 (.inl rfl) rfl (.inl rfl) (by kernel_rfl) rfl) ?_
    refine fcn (ob_nec 29 30 .i64 33 _ (Nm.chk (bef (unsg l)) : Int) 0 ((Nm.chk (bef (unsg l)) : Int) != 0) rfl rfl rfl (.inl rfl) (by kernel_rfl) rfl rfl) ?_
    exact fnl
  intro a7 w7 st7 hbr7 hfr
  have hs7 := hbr7.size
  have hb := up hb hbr7
  have st : St 60 [(2, Fact.cell b2 (Con.raw 3)), (3, fI 0), (5, Fact.eq (.bool (neg45 l))), (7, Fact.eq (.string (ofB (aft (unsg l))))), (8, fT), (9, Fact.cell b9 (Con.nn 42 (pv (bef (unsg l))))), (10, fI (Nm.chk (bef (unsg l)) : Int)), (30, Fact.eq (.bool ((Nm.chk (bef (unsg l)) : Int) != 0)))] a7 w7 := st7.to (fcs ⟨st7.at_ 2, fcs ⟨st7.at_ 3, fcs ⟨st7.at_ 5, fcs ⟨st7.at_ 7, fcs ⟨st7.at_ 8, fcs ⟨st7.at_ 9, fcs ⟨st7.at_ 10, fcs ⟨st7.at_ 30, fnl⟩⟩⟩⟩⟩⟩⟩⟩)
  clear st7 hbr7 hfr
  refine wpList_nil ?_
  refine then_normal ?_
  refine wp_cond_split (st.at_ 30) (fun h30 => ?_) (fun h30 => ?_)
  · skip
    refine wp_seq ?_
    have st := st.to (ks' := [(2, Fact.cell b2 (Con.raw 3)), (5, Fact.eq (.bool (neg45 l))), (7, Fact.eq (.string (ofB (aft (unsg l))))), (8, fT), (9, Fact.cell b9 (Con.nn 42 (pv (bef (unsg l))))), (10, fI (Nm.chk (bef (unsg l)) : Int)), (30, Fact.eq (.bool ((Nm.chk (bef (unsg l)) : Int) != 0)))]) (fcs ⟨st.at_ 2, fcs ⟨st.at_ 5, fcs ⟨st.at_ 7, fcs ⟨st.at_ 8, fcs ⟨st.at_ 9, fcs ⟨st.at_ 10, fcs ⟨st.at_ 30, fnl⟩⟩⟩⟩⟩⟩⟩)
    refine sym_region st [(31, Fact.agg (Con.tri 1 1 false 0 0)), (32, fI (Nm.chk (bef (unsg l)) : Int))] [] 2 (by kernel_rfl) (by kernel_rfl) (by kernel_rfl) (Nat.le_of_ble_eq_true rfl) (by kernel_rfl) rfl rfl ?_ ?_
    · refine fcn (ob_buildzero 31 rfl rfl (.inl rfl) rfl) ?_
      refine fcn (ob_copy 10 32 (.inl rfl) rfl (.inl rfl) (by kernel_rfl) rfl) ?_
      exact fnl
    intro a8 w8 st8 hbr8 hfr
    have hs8 := hbr8.size
    have hb := up hb hbr8
    have st : St 60 [(2, Fact.cell b2 (Con.raw 3)), (5, Fact.eq (.bool (neg45 l))), (7, Fact.eq (.string (ofB (aft (unsg l))))), (8, fT), (9, Fact.cell b9 (Con.nn 42 (pv (bef (unsg l))))), (10, fI (Nm.chk (bef (unsg l)) : Int)), (31, Fact.agg (Con.tri 1 1 false 0 0)), (32, fI (Nm.chk (bef (unsg l)) : Int))] a8 w8 := st8.to (fcs ⟨st8.at_ 2, fcs ⟨st8.at_ 5, fcs ⟨st8.at_ 7, fcs ⟨st8.at_ 8, fcs ⟨st8.at_ 9, fcs ⟨st8.at_ 10, fcs ⟨st8.at_ 31, fcs ⟨st8.at_ 32, fnl⟩⟩⟩⟩⟩⟩⟩⟩)
    clear st8 hbr8 hfr
    refine sym_store st 26 2 31 b2 (Con.raw 3) (Con.tri 1 1 false 0 0) [(2, Fact.cell b2 (Con.tri 1 1 false 0 0)), (5, Fact.eq (.bool (neg45 l))), (7, Fact.eq (.string (ofB (aft (unsg l))))), (8, fT), (9, Fact.cell b9 (Con.nn 42 (pv (bef (unsg l))))), (10, fI (Nm.chk (bef (unsg l)) : Int)), (32, fI (Nm.chk (bef (unsg l)) : Int))] rfl rfl rfl rfl rfl rfl info26 ?_ ?_
    · exact fcs ⟨.inl rfl, fcs ⟨.inr ⟨rfl, safe_eq _ _⟩, fcs ⟨.inr ⟨rfl, safe_eq _ _⟩, fcs ⟨.inr ⟨rfl, safe_eq _ _⟩, fcs ⟨.inr ⟨rfl, safe_cell _ (by omega)⟩, fcs ⟨.inr ⟨rfl, safe_eq _ _⟩, fcs ⟨.inr ⟨rfl, safe_eq _ _⟩, fnl⟩⟩⟩⟩⟩⟩⟩
    clear st; intro w9 hB hsz9 st
    have hb := hB _ _ hb (by omega) (by omega)
    clear hB
    refine sym_op st 3 (fI (Nm.chk (bef (unsg l)) : Int)) rfl (Nat.le_of_ble_eq_true rfl) rfl rfl (by kernel_rfl) (ob_copy 32 3 (.inr rfl) rfl (.inl rfl) (by kernel_rfl) rfl) ?_
    clear st; intro a10 w10 hbr st; have hs10 := hbr.size; have hb := up hb hbr; clear hbr
    refine wpList_nil ?_
    refine then_normal ?_
    refine wp_ret ?_
    exact sym_ret2 rfl st.defers (resAt_cell st 2 b2 26 (Con.tri 1 1 false 0 0) rfl row26 info26) (resAt_tmp st 3) hb (by rw [PR_err (pe_e1 h30) (ne_of_bne h30)]; exact fun v u h1 h2 => ⟨v, u, rfl, h1, h2⟩)
  · skip
    refine wp_skip ?_
    refine then_normal ?_
    refine wp_seq ?_
    refine sym_region st [(33, Fact.agg (Con.nn 1 1)), (11, Fact.var' (Con.raw 1))] [11] 2 (by kernel_rfl) (by kernel_rfl) (by kernel_rfl) (Nat.le_of_ble_eq_true rfl) (by kernel_rfl) rfl rfl ?_ ?_
    · refine fcn (ob_callc 61 _ 33 _ rfl rfl (.inl rfl) (by kernel_rfl) (n_of 1 1 (by decide) (by unfold Nm.Sz; decide) (by decide))) ?_
      refine fcs ⟨obn_new 24 11 _ [.slice none 0 0] rfl rfl rfl rfl rfl alloc24, ?_⟩
      exact fnl
    intro a11 w11 st11 hbr11 hfr
    have hs11 := hbr11.size
    have hb := up hb hbr11
    obtain ⟨b11, c11⟩ := (show (Fact.var' (Con.raw 1)).holds _ _ from st11.at_ 11)
    have g11 := hfr.ge (s := 11) rfl c11.1
    have st : St 60 [(2, Fact.cell b2 (Con.raw 3)), (3, fI 0), (5, Fact.eq (.bool (neg45 l))), (7, Fact.eq (.string (ofB (aft (unsg l))))), (8, fT), (9, Fact.cell b9 (Con.nn 42 (pv (bef (unsg l))))), (10, fI (Nm.chk (bef (unsg l)) : Int)), (33, Fact.agg (Con.nn 1 1)), (11, Fact.cell b11 (Con.raw 1))] a11 w11 := st11.to (fcs ⟨st11.at_ 2, fcs ⟨st11.at_ 3, fcs ⟨st11.at_ 5, fcs ⟨st11.at_ 7, fcs ⟨st11.at_ 8, fcs ⟨st11.at_ 9, fcs ⟨st11.at_ 10, fcs ⟨st11.at_ 33, fcs ⟨c11, fnl⟩⟩⟩⟩⟩⟩⟩⟩⟩)
    clear st11 hbr11 hfr c11
    refine sym_store st 24 11 33 b11 (Con.raw 1) (Con.nn 1 1) [(2, Fact.cell b2 (Con.raw 3)), (3, fI 0), (5, Fact.eq (.bool (neg45 l))), (7, Fact.eq (.string (ofB (aft (unsg l))))), (8, fT), (9, Fact.cell b9 (Con.nn 42 (pv (bef (unsg l))))), (10, fI (Nm.chk (bef (unsg l)) : Int)), (11, Fact.cell b11 (Con.nn 1 1))] rfl rfl rfl rfl rfl rfl info24 ?_ ?_
    · exact fcs ⟨.inr ⟨rfl, safe_cell _ (by omega)⟩, fcs ⟨.inr ⟨rfl, safe_eq _ _⟩, fcs ⟨.inr ⟨rfl, safe_eq _ _⟩, fcs ⟨.inr ⟨rfl, safe_eq _ _⟩, fcs ⟨.inr ⟨rfl, safe_eq _ _⟩, fcs ⟨.inr ⟨rfl, safe_cell _ (by omega)⟩, fcs ⟨.inr ⟨rfl, safe_eq _ _⟩, fcs ⟨.inl rfl, fnl⟩⟩⟩⟩⟩⟩⟩⟩
    clear st; intro w12 hB hsz12 st
    have hb := hB _ _ hb (by omega) (by omega)
    clear hB
    refine wpList_nil ?_
    refine then_normal ?_
    refine wp_seq ?_
    refine wp_seq ?_
    refine sym_region st [(34, fT)] [] 1 (by kernel_rfl) (by kernel_rfl) (by kernel_rfl) (Nat.le_of_ble_eq_true rfl) (by kernel_rfl) rfl rfl ?_ ?_
    · refine fcn (ob_copy 8 34 (.inl rfl) rfl (.inl rfl) (by kernel_rfl) rfl) ?_
      exact fnl
    intro a13 w13 st13 hbr13 hfr
    have hs13 := hbr13.size
    have hb := up hb hbr13
    have st : St 60 [(2, Fact.cell b2 (Con.raw 3)), (3, fI 0), (5, Fact.eq (.bool (neg45 l))), (7, Fact.eq (.string (ofB (aft (unsg l))))), (8, fT), (9, Fact.cell b9 (Con.nn 42 (pv (bef (unsg l))))), (10, fI (Nm.chk (bef (unsg l)) : Int)), (11, Fact.cell b11 (Con.nn 1 1)), (34, fT)] a13 w13 := st13.to (fcs ⟨st13.at_ 2, fcs ⟨st13.at_ 3, fcs ⟨st13.at_ 5, fcs ⟨st13.at_ 7, fcs ⟨st13.at_ 8, fcs ⟨st13.at_ 9, fcs ⟨st13.at_ 10, fcs ⟨st13.at_ 11, fcs ⟨st13.at_ 34, fnl⟩⟩⟩⟩⟩⟩⟩⟩⟩)
    clear st13 hbr13 hfr
    refine wpList_nil ?_
    refine then_normal ?_
    refine wp_cond_true (st.at_ 34) ?_
    refine wp_seq ?_
    have st := st.to (ks' := [(2, Fact.cell b2 (Con.raw 3)), (3, fI 0), (5, Fact.eq (.bool (neg45 l))), (7, Fact.eq (.string (ofB (aft (unsg l))))), (8, fT), (9, Fact.cell b9 (Con.nn 42 (pv (bef (unsg l))))), (11, Fact.cell b11 (Con.nn 1 1)), (34, fT)]) (fcs ⟨st.at_ 2, fcs ⟨st.at_ 3, fcs ⟨st.at_ 5, fcs ⟨st.at_ 7, fcs ⟨st.at_ 8, fcs ⟨st.at_ 9, fcs ⟨st.at_ 11, fcs ⟨st.at_ 34, fnl⟩⟩⟩⟩⟩⟩⟩⟩)
    refine sym_region st [(36, Fact.eq (.string (ofB (aft (unsg l))))), (37, Fact.two (Fact.agg (Con.nn 42 (pv (aft (unsg l))))) (fI (Nm.chk (aft (unsg l)) : Int))), (35, Fact.two (Fact.agg (Con.nn 42 (pv (aft (unsg l))))) (fI (Nm.chk (aft (unsg l)) : Int))), (38, Fact.agg (Con.nn 42 (pv (aft (unsg l))))), (39, fI (Nm.chk (aft (unsg l)) : Int))] [] 5 (by kernel_rfl) (by kernel_rfl) (by kernel_rfl) (Nat.le_of_ble_eq_true rfl) (by kernel_rfl) rfl rfl ?_ ?_
    · refine fcn (ob_copy 7 36 (.inl rfl) rfl (.inl rfl) (by kernel_rfl) rfl) ?_
      refine fcn (ob_call1 68 36 37 _ rfl rfl (.inl rfl) (by kernel_rfl) (by kernel_rfl) (n_parse (aft (unsg l)) h.unsg.aft hsa)) ?_
      refine fcn (ob_copy 37 35 (.inl rfl) rfl (.inl rfl) (by kernel_rfl) rfl) ?_
      refine fcn (ob_fst 35 38 (Fact.agg (Con.nn 42 (pv (aft (unsg l))))) (fI (Nm.chk (aft (unsg l)) : Int)) rfl rfl (.inl rfl) (by kernel_rfl) rfl rfl) ?_
      refine fcn (ob_snd 35 39 (Fact.agg (Con.nn 42 (pv (aft (unsg l))))) (fI (Nm.chk (aft (unsg l)) : Int)) rfl rfl (.inl rfl) (by kernel_rfl) rfl rfl) ?_
      exact fnl
    intro a14 w14 st14 hbr14 hfr
    have hs14 := hbr14.size
    have hb := up hb hbr14
    have st : St 60 [(2, Fact.cell b2 (Con.raw 3)), (3, fI 0), (5, Fact.eq (.bool (neg45 l))), (8, fT), (9, Fact.cell b9 (Con.nn 42 (pv (bef (unsg l))))), (11, Fact.cell b11 (Con.nn 1 1)), (38, Fact.agg (Con.nn 42 (pv (aft (unsg l))))), (39, fI (Nm.chk (aft (unsg l)) : Int))] a14 w14 := st14.to (fcs ⟨st14.at_ 2, fcs ⟨st14.at_ 3, fcs ⟨st14.at_ 5, fcs ⟨st14.at_ 8, fcs ⟨st14.at_ 9, fcs ⟨st14.at_ 11, fcs ⟨st14.at_ 38, fcs ⟨st14.at_ 39, fnl⟩⟩⟩⟩⟩⟩⟩⟩)
    clear st14 hbr14 hfr
    refine sym_store st 24 11 38 b11 (Con.nn 1 1) (Con.nn 42 (pv (aft (unsg l)))) [(2, Fact.cell b2 (Con.raw 3)), (3, fI 0), (5, Fact.eq (.bool (neg45 l))), (8, fT), (9, Fact.cell b9 (Con.nn 42 (pv (bef (unsg l))))), (11, Fact.cell b11 (Con.nn 42 (pv (aft (unsg l))))), (39, fI (Nm.chk (aft (unsg l)) : Int))] rfl rfl rfl rfl rfl rfl info24 ?_ ?_
    · exact fcs ⟨.inr ⟨rfl, safe_cell _ (by omega)⟩, fcs ⟨.inr ⟨rfl, safe_eq _ _⟩, fcs ⟨.inr ⟨rfl, safe_eq _ _⟩, fcs ⟨.inr ⟨rfl, safe_eq _ _⟩, fcs ⟨.inr ⟨rfl, safe_cell _ (by omega)⟩, fcs ⟨.inl rfl, fcs ⟨.inr ⟨rfl, safe_eq _ _⟩, fnl⟩⟩⟩⟩⟩⟩⟩
    clear st; intro w15 hB hsz15 st
    have hb := hB _ _ hb (by omega) (by omega)
    clear hB
    refine sym_op st 10 (fI (Nm.chk (aft (unsg l)) : Int)) rfl (Nat.le_of_ble_eq_true rfl) rfl rfl (by kernel_rfl) (ob_copy 39 10 (.inr rfl) rfl (.inl rfl) (by kernel_rfl) rfl) ?_
    clear st; intro a16 w16 hbr st; have hs16 := hbr.size; have hb := up hb hbr; clear hbr
    refine wpList_nil ?_
    refine then_normal ?_
    refine wp_seq ?_
    refine sym_region st [(40, fI (Nm.chk (aft (unsg l)) : Int)), (41, Fact.eq (.bool ((Nm.chk (aft (unsg l)) : Int) != 0)))] [] 2 (by kernel_rfl) (by kernel_rfl) (by kernel_rfl) (Nat.le_of_ble_eq_true rfl) (by kernel_rfl) rfl rfl ?_ ?_
    · refine fcn (ob_copy 10 40 (.inl rfl) rfl (.inl rfl) (by kernel_rfl) rfl) ?_
      refine fcn (ob_nec 40 41 .i64 33 _ (Nm.chk (aft (unsg l)) : Int) 0 ((Nm.chk (aft (unsg l)) : Int) != 0) rfl rfl rfl (.inl rfl) (by kernel_rfl) rfl rfl) ?_
      exact fnl
    intro a17 w17 st17 hbr17 hfr
    have hs17 := hbr17.size
    have hb := up hb hbr17
    have st : St 60 [(2, Fact.cell b2 (Con.raw 3)), (3, fI 0), (5, Fact.eq (.bool (neg45 l))), (8, fT), (9, Fact.cell b9 (Con.nn 42 (pv (bef (unsg l))))), (11, Fact.cell b11 (Con.nn 42 (pv (aft (unsg l))))), (10, fI (Nm.chk (aft (unsg l)) : Int)), (41, Fact.eq (.bool ((Nm.chk (aft (unsg l)) : Int) != 0)))] a17 w17 := st17.to (fcs ⟨st17.at_ 2, fcs ⟨st17.at_ 3, fcs ⟨st17.at_ 5, fcs ⟨st17.at_ 8, fcs ⟨st17.at_ 9, fcs ⟨st17.at_ 11, fcs ⟨st17.at_ 10, fcs ⟨st17.at_ 41, fnl⟩⟩⟩⟩⟩⟩⟩⟩)
    clear st17 hbr17 hfr
    refine wpList_nil ?_
    refine then_normal ?_
    refine wp_cond_split (st.at_ 41) (fun h41 => ?_) (fun h41 => ?_)
    · skip
      refine wp_seq ?_
      have st := st.to (ks' := [(2, Fact.cell b2 (Con.raw 3)), (5, Fact.eq (.bool (neg45 l))), (8, fT), (9, Fact.cell b9 (Con.nn 42 (pv (bef (unsg l))))), (11, Fact.cell b11 (Con.nn 42 (pv (aft (unsg l))))), (10, fI (Nm.chk (aft (unsg l)) : Int)), (41, Fact.eq (.bool ((Nm.chk (aft (unsg l)) : Int) != 0)))]) (fcs ⟨st.at_ 2, fcs ⟨st.at_ 5, fcs ⟨st.at_ 8, fcs ⟨st.at_ 9, fcs ⟨st.at_ 11, fcs ⟨st.at_ 10, fcs ⟨st.at_ 41, fnl⟩⟩⟩⟩⟩⟩⟩)
      refine sym_region st [(42, Fact.agg (Con.tri 1 1 false 0 0)), (43, fI (Nm.chk (aft (unsg l)) : Int))] [] 2 (by kernel_rfl) (by kernel_rfl) (by kernel_rfl) (Nat.le_of_ble_eq_true rfl) (by kernel_rfl) rfl rfl ?_ ?_
      · refine fcn (ob_buildzero 42 rfl rfl (.inl rfl) rfl) ?_
        refine fcn (ob_copy 10 43 (.inl rfl) rfl (.inl rfl) (by kernel_rfl) rfl) ?_
        exact fnl
      intro a18 w18 st18 hbr18 hfr
      have hs18 := hbr18.size
      have hb := up hb hbr18
      have st : St 60 [(2, Fact.cell b2 (Con.raw 3)), (5, Fact.eq (.bool (neg45 l))), (8, fT), (9, Fact.cell b9 (Con.nn 42 (pv (bef (unsg l))))), (11, Fact.cell b11 (Con.nn 42 (pv (aft (unsg l))))), (42, Fact.agg (Con.tri 1 1 false 0 0)), (43, fI (Nm.chk (aft (unsg l)) : Int))] a18 w18 := st18.to (fcs ⟨st18.at_ 2, fcs ⟨st18.at_ 5, fcs ⟨st18.at_ 8, fcs ⟨st18.at_ 9, fcs ⟨st18.at_ 11, fcs ⟨st18.at_ 42, fcs ⟨st18.at_ 43, fnl⟩⟩⟩⟩⟩⟩⟩)
      clear st18 hbr18 hfr
      refine sym_store st 26 2 42 b2 (Con.raw 3) (Con.tri 1 1 false 0 0) [(2, Fact.cell b2 (Con.tri 1 1 false 0 0)), (5, Fact.eq (.bool (neg45 l))), (8, fT), (9, Fact.cell b9 (Con.nn 42 (pv (bef (unsg l))))), (11, Fact.cell b11 (Con.nn 42 (pv (aft (unsg l))))), (43, fI (Nm.chk (aft (unsg l)) : Int))] rfl rfl rfl rfl rfl rfl info26 ?_ ?_
      · exact fcs ⟨.inl rfl, fcs ⟨.inr ⟨rfl, safe_eq _ _⟩, fcs ⟨.inr ⟨rfl, safe_eq _ _⟩, fcs ⟨.inr ⟨rfl, safe_cell _ (by omega)⟩, fcs ⟨.inr ⟨rfl, safe_cell _ (by omega)⟩, fcs ⟨.inr ⟨rfl, safe_eq _ _⟩, fnl⟩⟩⟩⟩⟩⟩
      clear st; intro w19 hB hsz19 st
      have hb := hB _ _ hb (by omega) (by omega)
      clear hB
      refine sym_op st 3 (fI (Nm.chk (aft (unsg l)) : Int)) rfl (Nat.le_of_ble_eq_true rfl) rfl rfl (by kernel_rfl) (ob_copy 43 3 (.inr rfl) rfl (.inl rfl) (by kernel_rfl) rfl) ?_
      clear st; intro a20 w20 hbr st; have hs20 := hbr.size; have hb := up hb hbr; clear hbr
      refine wpList_nil ?_
      refine then_normal ?_
      refine wp_ret ?_
      exact sym_ret2 rfl st.defers (resAt_cell st 2 b2 26 (Con.tri 1 1 false 0 0) rfl row26 info26) (resAt_tmp st 3) hb (by rw [PR_err (pe_e2 h30 hsl h41) (ne_of_bne h41)]; exact fun v u h1 h2 => ⟨v, u, rfl, h1, h2⟩)
    · skip
      refine wp_skip ?_
      refine then_normal ?_
      refine wp_seq ?_
      refine sym_region st [(44, Fact.eq (.bool (neg45 l))), (45, Fact.agg (Con.nn 42 (pv (bef (unsg l))))), (46, Fact.agg (Con.nn 42 (pv (aft (unsg l))))), (47, Fact.agg (Con.tri 42 42 (neg45 l) (pv (bef (unsg l))) (pv (aft (unsg l))))), (12, Fact.var' (Con.raw 3))] [12] 5 (by kernel_rfl) (by kernel_rfl) (by kernel_rfl) (Nat.le_of_ble_eq_true rfl) (by kernel_rfl) rfl rfl ?_ ?_
      · refine fcn (ob_copy 5 44 (.inl rfl) rfl (.inl rfl) (by kernel_rfl) rfl) ?_
        refine fcn (ob_read 24 9 45 (Con.nn 42 (pv (bef (unsg l)))) rfl rfl (.inl rfl) (by kernel_rfl) points_cell rfl row24 info24) ?_
        refine fcn (ob_read 24 11 46 (Con.nn 42 (pv (aft (unsg l)))) rfl rfl (.inl rfl) (by kernel_rfl) points_cell rfl row24 info24) ?_
        refine fcn (ob_buildtri 44 45 46 47 42 42 (pv (bef (unsg l))) (pv (aft (unsg l))) (neg45 l) rfl rfl (.inl rfl) (by kernel_rfl) (by kernel_rfl) (by kernel_rfl) rfl rfl rfl rfl) ?_
        refine fcs ⟨obn_new 26 12 _ [.bool false, .slice none 0 0, .slice none 0 0] rfl rfl rfl rfl rfl alloc26, ?_⟩
        exact fnl
      intro a21 w21 st21 hbr21 hfr
      have hs21 := hbr21.size
      have hb := up hb hbr21
      obtain ⟨b12, c12⟩ := (show (Fact.var' (Con.raw 3)).holds _ _ from st21.at_ 12)
      have g12 := hfr.ge (s := 12) rfl c12.1
      have st : St 60 [(2, Fact.cell b2 (Con.raw 3)), (3, fI 0), (8, fT), (11, Fact.cell b11 (Con.nn 42 (pv (aft (unsg l))))), (47, Fact.agg (Con.tri 42 42 (neg45 l) (pv (bef (unsg l))) (pv (aft (unsg l))))), (12, Fact.cell b12 (Con.raw 3))] a21 w21 := st21.to (fcs ⟨st21.at_ 2, fcs ⟨st21.at_ 3, fcs ⟨st21.at_ 8, fcs ⟨st21.at_ 11, fcs ⟨st21.at_ 47, fcs ⟨c12, fnl⟩⟩⟩⟩⟩⟩)
      clear st21 hbr21 hfr c12
      refine sym_store st 26 12 47 b12 (Con.raw 3) (Con.tri 42 42 (neg45 l) (pv (bef (unsg l))) (pv (aft (unsg l)))) [(2, Fact.cell b2 (Con.raw 3)), (3, fI 0), (8, fT), (11, Fact.cell b11 (Con.nn 42 (pv (aft (unsg l))))), (12, Fact.cell b12 (Con.tri 42 42 (neg45 l) (pv (bef (unsg l))) (pv (aft (unsg l)))))] rfl rfl rfl rfl rfl rfl info26 ?_ ?_
      · exact fcs ⟨.inr ⟨rfl, safe_cell _ (by omega)⟩, fcs ⟨.inr ⟨rfl, safe_eq _ _⟩, fcs ⟨.inr ⟨rfl, safe_eq _ _⟩, fcs ⟨.inr ⟨rfl, safe_cell _ (by omega)⟩, fcs ⟨.inl rfl, fnl⟩⟩⟩⟩⟩
      clear st; intro w22 hB hsz22 st
      have hb := hB _ _ hb (by omega) (by omega)
      clear hB
      refine wpList_nil ?_
      refine then_normal ?_
      refine wp_seq ?_
      refine wp_seq ?_
      refine sym_region st [(48, fT), (49, fT), (50, Fact.agg (Con.nn 42 (pv (aft (unsg l))))), (51, fT), (52, fT), (53, fT), (54, Fact.eq undef), (55, Fact.eq undef), (56, Fact.eq undef), (57, fT)] [] 10 (by kernel_rfl) (by kernel_rfl) (by kernel_rfl) (Nat.le_of_ble_eq_true rfl) (by kernel_rfl) rfl rfl ?_ ?_
      · refine fcn (ob_copy 8 48 (.inl rfl) rfl (.inl rfl) (by kernel_rfl) rfl) ?_
        refine fcn (ob_copy 48 49 (.inl rfl) rfl (.inl rfl) (by kernel_rfl) rfl) ?_
        refine fcn (ob_read 24 11 50 (Con.nn 42 (pv (aft (unsg l)))) rfl rfl (.inr ⟨_, _, _, rfl, rfl, by kernel_rfl, by decide, rfl⟩) (by kernel_rfl) points_cell rfl row24 info24) ?_
        refine fcn (ob_call1 69 50 51 _ rfl rfl (.inr ⟨_, _, _, rfl, rfl, by kernel_rfl, by decide, rfl⟩) (by kernel_rfl) (by kernel_rfl) (q_isOne 42 (pv (aft (unsg l))) true hone)) ?_
        refine fcn (ob_pick 49 51 52 _ rfl rfl (.inl rfl) (by kernel_rfl) (by kernel_rfl) rfl rfl) ?_
        refine fcn (ob_copy 52 53 (.inl rfl) rfl (.inl rfl) (by kernel_rfl) rfl) ?_
        refine fcn (ob_skip 5 53 54 false rfl rfl (by kernel_rfl) (by decide) rfl rfl rfl) ?_
        refine fcn (ob_skip 5 53 55 false rfl rfl (by kernel_rfl) (by decide) rfl rfl rfl) ?_
        refine fcn (ob_skip 5 53 56 false rfl rfl (by kernel_rfl) (by decide) rfl rfl rfl) ?_
        refine fcn (ob_pick_or 53 56 57 (.bool true) rfl rfl (.inl rfl) (by kernel_rfl) rfl rfl) ?_
        exact fnl
      intro a23 w23 st23 hbr23 hfr
      have hs23 := hbr23.size
      have hb := up hb hbr23
      have st : St 60 [(2, Fact.cell b2 (Con.raw 3)), (3, fI 0), (12, Fact.cell b12 (Con.tri 42 42 (neg45 l) (pv (bef (unsg l))) (pv (aft (unsg l))))), (57, fT)] a23 w23 := st23.to (fcs ⟨st23.at_ 2, fcs ⟨st23.at_ 3, fcs ⟨st23.at_ 12, fcs ⟨st23.at_ 57, fnl⟩⟩⟩⟩)
      clear st23 hbr23 hfr
      refine wpList_nil ?_
      refine then_normal ?_
      refine wp_cond_true (st.at_ 57) ?_
      refine wp_seq ?_
      have st := st.to (ks' := [(2, Fact.cell b2 (Con.raw 3)), (12, Fact.cell b12 (Con.tri 42 42 (neg45 l) (pv (bef (unsg l))) (pv (aft (unsg l))))), (57, fT)]) (fcs ⟨st.at_ 2, fcs ⟨st.at_ 12, fcs ⟨st.at_ 57, fnl⟩⟩⟩)
      refine sym_region st [(58, Fact.agg (Con.tri 1 1 false 0 0))] [] 1 (by kernel_rfl) (by kernel_rfl) (by kernel_rfl) (Nat.le_of_ble_eq_true rfl) (by kernel_rfl) rfl rfl ?_ ?_
      · refine fcn (ob_buildzero 58 rfl rfl (.inl rfl) rfl) ?_
        exact fnl
      intro a24 w24 st24 hbr24 hfr
      have hs24 := hbr24.size
      have hb := up hb hbr24
      have st : St 60 [(2, Fact.cell b2 (Con.raw 3)), (12, Fact.cell b12 (Con.tri 42 42 (neg45 l) (pv (bef (unsg l))) (pv (aft (unsg l))))), (58, Fact.agg (Con.tri 1 1 false 0 0))] a24 w24 := st24.to (fcs ⟨st24.at_ 2, fcs ⟨st24.at_ 12, fcs ⟨st24.at_ 58, fnl⟩⟩⟩)
      clear st24 hbr24 hfr
      refine sym_store st 26 2 58 b2 (Con.raw 3) (Con.tri 1 1 false 0 0) [(2, Fact.cell b2 (Con.tri 1 1 false 0 0)), (12, Fact.cell b12 (Con.tri 42 42 (neg45 l) (pv (bef (unsg l))) (pv (aft (unsg l)))))] rfl rfl rfl rfl rfl rfl info26 ?_ ?_
      · exact fcs ⟨.inl rfl, fcs ⟨.inr ⟨rfl, safe_cell _ (by omega)⟩, fnl⟩⟩
      clear st; intro w25 hB hsz25 st
      have hb := hB _ _ hb (by omega) (by omega)
      clear hB
      refine sym_op st 3 (fI 2) rfl (Nat.le_of_ble_eq_true rfl) rfl rfl (by kernel_rfl) (ob_const (.int .i64 2) 3 (.inr rfl) rfl (.inl rfl) rfl) ?_
      clear st; intro a26 w26 hbr st; have hs26 := hbr.size; have hb := up hb hbr; clear hbr
      refine wpList_nil ?_
      refine then_normal ?_
      refine wp_ret ?_
      exact sym_ret2 rfl st.defers (resAt_cell st 2 b2 26 (Con.tri 1 1 false 0 0) rfl row26 info26) (resAt_tmp st 3) hb (by rw [PR_err (e := 2) (pe_b1 h30 hsl h41 (of_decide_eq_true hone)) (by decide)]; exact fun v u h1 h2 => ⟨v, u, rfl, h1, h2⟩)
set_option maxRecDepth 100000 in
theorem q_parse_s2 (l : List Nat) (h : Byt l) (hs : l.length ≤ 1000000) (hsl : sls (unsg l) = true) (hone : decide (pv (aft (unsg l)) = 1) = false) : ∀ v0 w, (Fact.eq (.string (ofB l))).holds v0 w → Calls Tryz.prog 33 #[v0] w (Ret (PR l) w) := by
  intro v0 w hv0
  have hsu : (unsg l).length ≤ 1000000 := Nat.le_trans (unsg_len l) hs
  have hsb : (bef (unsg l)).length ≤ 1000000 := Nat.le_trans (bef_len _) hsu
  have hsa : (aft (unsg l)).length ≤ 1000000 := Nat.le_trans (aft_len _) hsu
  refine sym_calls 60 [(0, Fact.eq (.string (ofB l)))] Tryz.func33 rfl rfl (Nat.le_of_ble_eq_true rfl) (fcs ⟨⟨Nat.le_of_ble_eq_true rfl, hv0⟩, fnl⟩) fun a st => ?_
  have hb := Below.refl w.heap.size w
  refine wp_seq ?_
  refine sym_region st [(2, Fact.var' (Con.raw 3)), (3, fI 0)] [2] 2 (by kernel_rfl) (by kernel_rfl) (by kernel_rfl) (Nat.le_of_ble_eq_true rfl) (by kernel_rfl) rfl rfl ?_ ?_
  · refine fcs ⟨obn_new 26 2 _ [.bool false, .slice none 0 0, .slice none 0 0] rfl rfl rfl rfl rfl alloc26, ?_⟩
    refine fcn (ob_const (.int .i64 0) 3 (.inr rfl) rfl (.inl rfl) rfl) ?_
    exact fnl
  intro a1 w1 st1 hbr1 hfr
  have hs1 := hbr1.size
  have hb := up hb hbr1
  obtain ⟨b2, c2⟩ := (show (Fact.var' (Con.raw 3)).holds _ _ from st1.at_ 2)
  have g2 := hfr.ge (s := 2) rfl c2.1
  have st : St 60 [(0, Fact.eq (.string (ofB l))), (2, Fact.cell b2 (Con.raw 3)), (3, fI 0)] a1 w1 := st1.to (fcs ⟨st1.at_ 0, fcs ⟨c2, fcs ⟨st1.at_ 3, fnl⟩⟩⟩)
  clear st1 hbr1 hfr c2
  refine wpList_nil ?_
  refine then_normal ?_
  refine wp_seq ?_
  refine sym_region st [(14, Fact.eq (.string (ofB l))), (15, Fact.two (Fact.eq (.string (ofB (unsg l)))) (Fact.eq (.bool (neg45 l)))), (13, Fact.two (Fact.eq (.string (ofB (unsg l)))) (Fact.eq (.bool (neg45 l)))), (16, Fact.eq (.string (ofB (unsg l)))), (17, Fact.eq (.bool (neg45 l))), (4, Fact.eq (.string (ofB (unsg l)))), (5, Fact.eq (.bool (neg45 l)))] [] 7 (by kernel_rfl) (by kernel_rfl) (by kernel_rfl) (Nat.le_of_ble_eq_true rfl) (by kernel_rfl) rfl rfl ?_ ?_
  · refine fcn (ob_copy 0 14 (.inl rfl) rfl (.inl rfl) (by kernel_rfl) rfl) ?_
    refine fcn (ob_call_tc 66 14 15 (.string ⟨#[45]⟩) _ rfl rfl (.inl rfl) (by kernel_rfl) (by kernel_rfl) (t_cutPrefix l h hs)) ?_
    refine fcn (ob_copy 15 13 (.inl rfl) rfl (.inl rfl) (by kernel_rfl) rfl) ?_
    refine fcn (ob_fst 13 16 (Fact.eq (.string (ofB (unsg l)))) (Fact.eq (.bool (neg45 l))) rfl rfl (.inl rfl) (by kernel_rfl) rfl rfl) ?_
    refine fcn (ob_snd 13 17 (Fact.eq (.string (ofB (unsg l)))) (Fact.eq (.bool (neg45 l))) rfl rfl (.inl rfl) (by kernel_rfl) rfl rfl) ?_
    refine fcn (ob_copy 16 4 (.inr rfl) rfl (.inl rfl) (by kernel_rfl) rfl) ?_
    refine fcn (ob_copy 17 5 (.inr rfl) rfl (.inl rfl) (by kernel_rfl) rfl) ?_
    exact fnl
  intro a2 w2 st2 hbr2 hfr
  have hs2 := hbr2.size
  have hb := up hb hbr2
  have st : St 60 [(2, Fact.cell b2 (Con.raw 3)), (3, fI 0), (4, Fact.eq (.string (ofB (unsg l)))), (5, Fact.eq (.bool (neg45 l)))] a2 w2 := st2.to (fcs ⟨st2.at_ 2, fcs ⟨st2.at_ 3, fcs ⟨st2.at_ 4, fcs ⟨st2.at_ 5, fnl⟩⟩⟩⟩)
  clear st2 hbr2 hfr
  refine wpList_nil ?_
  refine then_normal ?_
  refine wp_seq ?_
  refine sym_region st [(19, Fact.eq (.string (ofB (unsg l)))), (20, Fact.three (Fact.eq (.string (ofB (bef (unsg l))))) (Fact.eq (.string (ofB (aft (unsg l))))) (fT)), (18, Fact.three (Fact.eq (.string (ofB (bef (unsg l))))) (Fact.eq (.string (ofB (aft (unsg l))))) (fT)), (21, Fact.eq (.string (ofB (bef (unsg l))))), (22, Fact.eq (.string (ofB (aft (unsg l))))), (23, fT), (6, Fact.eq (.string (ofB (bef (unsg l))))), (7, Fact.eq (.string (ofB (aft (unsg l))))), (8, fT)] [] 9 (by kernel_rfl) (by kernel_rfl) (by kernel_rfl) (Nat.le_of_ble_eq_true rfl) (by kernel_rfl) rfl rfl ?_ ?_
  · refine fcn (ob_copy 4 19 (.inl rfl) rfl (.inl rfl) (by kernel_rfl) rfl) ?_
    refine fcn (ob_call_tc 67 19 20 (.string ⟨#[47]⟩) _ rfl rfl (.inl rfl) (by kernel_rfl) (by kernel_rfl) (t_cutb (unsg l) h.unsg hsu true hsl)) ?_
    refine fcn (ob_copy 20 18 (.inl rfl) rfl (.inl rfl) (by kernel_rfl) rfl) ?_
    refine fcn (ob_3a 18 21 (Fact.eq (.string (ofB (bef (unsg l))))) (Fact.eq (.string (ofB (aft (unsg l))))) (fT) rfl rfl (.inl rfl) (by kernel_rfl) rfl rfl) ?_
    refine fcn (ob_3b 18 22 (Fact.eq (.string (ofB (bef (unsg l))))) (Fact.eq (.string (ofB (aft (unsg l))))) (fT) rfl rfl (.inl rfl) (by kernel_rfl) rfl rfl) ?_
    refine fcn (ob_3c 18 23 (Fact.eq (.string (ofB (bef (unsg l))))) (Fact.eq (.string (ofB (aft (unsg l))))) (fT) rfl rfl (.inl rfl) (by kernel_rfl) rfl rfl) ?_
    refine fcn (ob_copy 21 6 (.inr rfl) rfl (.inl rfl) (by kernel_rfl) rfl) ?_
    refine fcn (ob_copy 22 7 (.inr rfl) rfl (.inl rfl) (by kernel_rfl) rfl) ?_
    refine fcn (ob_copy 23 8 (.inr rfl) rfl (.inl rfl) (by kernel_rfl) rfl) ?_
    exact fnl
  intro a3 w3 st3 hbr3 hfr
  have hs3 := hbr3.size
  have hb := up hb hbr3
  have st : St 60 [(2, Fact.cell b2 (Con.raw 3)), (3, fI 0), (5, Fact.eq (.bool (neg45 l))), (6, Fact.eq (.string (ofB (bef (unsg l))))), (7, Fact.eq (.string (ofB (aft (unsg l))))), (8, fT)] a3 w3 := st3.to (fcs ⟨st3.at_ 2, fcs ⟨st3.at_ 3, fcs ⟨st3.at_ 5, fcs ⟨st3.at_ 6, fcs ⟨st3.at_ 7, fcs ⟨st3.at_ 8, fnl⟩⟩⟩⟩⟩⟩)
  clear st3 hbr3 hfr
  refine wpList_nil ?_
  refine then_normal ?_
  refine wp_seq ?_
  refine sym_region st [(25, Fact.eq (.string (ofB (bef (unsg l))))), (26, Fact.two (Fact.agg (Con.nn 42 (pv (bef (unsg l))))) (fI (Nm.chk (bef (unsg l)) : Int))), (24, Fact.two (Fact.agg (Con.nn 42 (pv (bef (unsg l))))) (fI (Nm.chk (bef (unsg l)) : Int))), (27, Fact.agg (Con.nn 42 (pv (bef (unsg l))))), (28, fI (Nm.chk (bef (unsg l)) : Int)), (9, Fact.var' (Con.raw 1))] [9] 6 (by kernel_rfl) (by kernel_rfl) (by kernel_rfl) (Nat.le_of_ble_eq_true rfl) (by kernel_rfl) rfl rfl ?_ ?_
  · refine fcn (ob_copy 6 25 (.inl rfl) rfl (.inl rfl) (by kernel_rfl) rfl) ?_
    refine fcn (ob_call1 68 25 26 _ rfl rfl (.inl rfl) (by kernel_rfl) (by kernel_rfl) (n_parse (bef (unsg l)) h.unsg.bef hsb)) ?_
    refine fcn (ob_copy 26 24 (.inl rfl) rfl (.inl rfl) (by kernel_rfl) rfl) ?_
    refine fcn (ob_fst 24 27 (Fact.agg (Con.nn 42 (pv (bef (unsg l))))) (fI (Nm.chk (bef (unsg l)) : Int)) rfl rfl (.inl rfl) (by kernel_rfl) rfl rfl) ?_
    refine fcn (ob_snd 24 28 (Fact.agg (Con.nn 42 (pv (bef (unsg l))))) (fI (Nm.chk (bef (unsg l)) : Int)) rfl rfl (.inl rfl) (by kernel_rfl) rfl rfl) ?_
    refine fcs ⟨obn_new 24 9 _ [.slice none 0 0] rfl rfl rfl rfl rfl alloc24, ?_⟩
    exact fnl
  intro a4 w4 st4 hbr4 hfr
  have hs4 := hbr4.size
  have hb := up hb hbr4
  obtain ⟨b9, c9⟩ := (show (Fact.var' (Con.raw 1)).holds _ _ from st4.at_ 9)
  have g9 := hfr.ge (s := 9) rfl c9.1
  have st : St 60 [(2, Fact.cell b2 (Con.raw 3)), (3, fI 0), (5, Fact.eq (.bool (neg45 l))), (7, Fact.eq (.string (ofB (aft (unsg l))))), (8, fT), (27, Fact.agg (Con.nn 42 (pv (bef (unsg l))))), (28, fI (Nm.chk (bef (unsg l)) : Int)), (9, Fact.cell b9 (Con.raw 1))] a4 w4 := st4.to (fcs ⟨st4.at_ 2, fcs ⟨st4.at_ 3, fcs ⟨st4.at_ 5, fcs ⟨st4.at_ 7, fcs ⟨st4.at_ 8, fcs ⟨st4.at_ 27, fcs ⟨st4.at_ 28, fcs ⟨c9, fnl⟩⟩⟩⟩⟩⟩⟩⟩)
  clear st4 hbr4 hfr c9
  refine sym_store st 24 9 27 b9 (Con.raw 1) (Con.nn 42 (pv (bef (unsg l)))) [(2, Fact.cell b2 (Con.raw 3)), (3, fI 0), (5, Fact.eq (.bool (neg45 l))), (7, Fact.eq (.string (ofB (aft (unsg l))))), (8, fT), (28, fI (Nm.chk (bef (unsg l)) : Int)), (9, Fact.cell b9 (Con.nn 42 (pv (bef (unsg l)))))] rfl rfl rfl rfl rfl rfl info24 ?_ ?_
  · exact fcs ⟨.inr ⟨rfl, safe_cell _ (by omega)⟩, fcs ⟨.inr ⟨rfl, safe_eq _ _⟩, fcs ⟨.inr ⟨rfl, safe_eq _ _⟩, fcs ⟨.inr ⟨rfl, safe_eq _ _⟩, fcs ⟨.inr ⟨rfl, safe_eq _ _⟩, fcs ⟨.inr ⟨rfl, safe_eq _ _⟩, fcs ⟨.inl rfl, fnl⟩⟩⟩⟩⟩⟩⟩
  clear st; intro w5 hB hsz5 st
  have hb := hB _ _ hb (by omega) (by omega)
  clear hB
  refine sym_op st 10 (fI (Nm.chk (bef (unsg l)) : Int)) rfl (Nat.le_of_ble_eq_true rfl) rfl rfl (by kernel_rfl) (ob_copy 28 10 (.inr rfl) rfl (.inl rfl) (by kernel_rfl) rfl) ?_
  clear st; intro a6 w6 hbr st; have hs6 := hbr.size; have hb := up hb hbr; clear hbr
  refine wpList_nil ?_
  refine then_normal ?_
  refine wp_seq ?_
  refine wp_seq ?_
  refine sym_region st [(29, fI (Nm.chk (bef (unsg l)) : Int)), (30, Fact.eq (.bool ((Nm.chk (bef (unsg l)) : Int) != 0)))] [] 2 (by kernel_rfl) (by kernel_rfl) (by kernel_rfl) (Nat.le_of_ble_eq_true rfl) (by kernel_rfl) rfl rfl ?_ ?_
  · refine fcn (ob_copy 10 29 (.inl rfl) rfl (.inl rfl) (by kernel_rfl) rfl) ?_
    refine fcn (ob_nec 29 30 .i64 33 _ (Nm.chk (bef (unsg l)) : Int) 0 ((Nm.chk (bef (unsg l)) : Int) != 0) rfl rfl rfl (.inl rfl) (by kernel_rfl) rfl rfl) ?_
    exact fnl
  intro a7 w7 st7 hbr7 hfr
  have hs7 := hbr7.size
  have hb := up hb hbr7
  have st : St 60 [(2, Fact.cell b2 (Con.raw 3)), (3, fI 0), (5, Fact.eq (.bool (neg45 l))), (7, Fact.eq (.string (ofB (aft (unsg l))))), (8, fT), (9, Fact.cell b9 (Con.nn 42 (pv (bef (unsg l))))), (10, fI (Nm.chk (bef (unsg l)) : Int)), (30, Fact.eq (.bool ((Nm.chk (bef (unsg l)) : Int) != 0)))] a7 w7 := st7.to (fcs ⟨st7.at_ 2, fcs ⟨st7.at_ 3, fcs ⟨st7.at_ 5, fcs ⟨st7.at_ 7, fcs ⟨st7.at_ 8, fcs ⟨st7.at_ 9, fcs ⟨st7.at_ 10, fcs ⟨st7.at_ 30, fnl⟩⟩⟩⟩⟩⟩⟩⟩)
  clear st7 hbr7 hfr
  refine wpList_nil ?_
  refine then_normal ?_
  refine wp_cond_split (st.at_ 30) (fun h30 => ?_) (fun h30 => ?_)
  · skip
    refine wp_seq ?_
    have st := st.to (ks' := [(2, Fact.cell b2 (Con.raw 3)), (5, Fact.eq (.bool (neg45 l))), (7, Fact.eq (.string (ofB (aft (unsg l))))), (8, fT), (9, Fact.cell b9 (Con.nn 42 (pv (bef (unsg l))))), (10, fI (Nm.chk (bef (unsg l)) : Int)), (30, Fact.eq (.bool ((Nm.chk (bef (unsg l)) : Int) != 0)))]) (fcs ⟨st.at_ 2, fcs ⟨st.at_ 5, fcs ⟨st.at_ 7, fcs ⟨st.at_ 8, fcs ⟨st.at_ 9, fcs ⟨st.at_ 10, fcs ⟨st.at_ 30, fnl⟩⟩⟩⟩⟩⟩⟩)
    refine sym_region st [(31, Fact.agg (Con.tri 1 1 false 0 0)), (32, fI (Nm.chk (bef (unsg l)) : Int))] [] 2 (by kernel_rfl) (by kernel_rfl) (by kernel_rfl) (Nat.le_of_ble_eq_true rfl) (by kernel_rfl) rfl rfl ?_ ?_
    · refine fcn (ob_buildzero 31 rfl rfl (.inl rfl) rfl) ?_
      refine fcn (ob_copy 10 32 (.inl rfl) rfl (.inl rfl) (by kernel_rfl) rfl) ?_
      exact fnl
    intro a8 w8 st8 hbr8 hfr
    have hs8 := hbr8.size
    have hb := up hb hbr8
    have st : St 60 [(2, Fact.cell b2 (Con.raw 3)), (5, Fact.eq (.bool (neg45 l))), (7, Fact.eq (.string (ofB (aft (unsg l))))), (8, fT), (9, Fact.cell b9 (Con.nn 42 (pv (bef (unsg l))))), (10, fI (Nm.chk (bef (unsg l)) : Int)), (31, Fact.agg (Con.tri 1 1 false 0 0)), (32, fI (Nm.chk (bef (unsg l)) : Int))] a8 w8 := st8.to (fcs ⟨st8.at_ 2, fcs ⟨st8.at_ 5, fcs ⟨st8.at_ 7, fcs ⟨st8.at_ 8, fcs ⟨st8.at_ 9, fcs ⟨st8.at_ 10, fcs ⟨st8.at_ 31, fcs ⟨st8.at_ 32, fnl⟩⟩⟩⟩⟩⟩⟩⟩)
    clear st8 hbr8 hfr
    refine sym_store st 26 2 31 b2 (Con.raw 3) (Con.tri 1 1 false 0 0) [(2, Fact.cell b2 (Con.tri 1 1 false 0 0)), (5, Fact.eq (.bool (neg45 l))), (7, Fact.eq (.string (ofB (aft (unsg l))))), (8, fT), (9, Fact.cell b9 (Con.nn 42 (pv (bef (unsg l))))), (10, fI (Nm.chk (bef (unsg l)) : Int)), (32, fI (Nm.chk (bef (unsg l)) : Int))] rfl rfl rfl rfl rfl rfl info26 ?_ ?_
    · exact fcs ⟨.inl rfl, fcs ⟨.inr ⟨rfl, safe_eq _ _⟩, fcs ⟨.inr ⟨rfl, safe_eq _ _⟩, fcs ⟨.inr ⟨rfl, safe_eq _ _⟩, fcs ⟨.inr ⟨rfl, safe_cell _ (by omega)⟩, fcs ⟨.inr ⟨rfl, safe_eq _ _⟩, fcs ⟨.inr ⟨rfl, safe_eq _ _⟩, fnl⟩⟩⟩⟩⟩⟩⟩
    clear st; intro w9 hB hsz9 st
    have hb := hB _ _ hb (by omega) (by omega)
    clear hB
    refine sym_op st 3 (fI (Nm.chk (bef (unsg l)) : Int)) rfl (Nat.le_of_ble_eq_true rfl) rfl rfl (by kernel_rfl) (ob_copy 32 3 (.inr rfl) rfl (.inl rfl) (by kernel_rfl) rfl) ?_
    clear st; intro a10 w10 hbr st; have hs10 := hbr.size; have hb := up hb hbr; clear hbr
    refine wpList_nil ?_
    refine then_normal ?_
    refine wp_ret ?_
    exact sym_ret2 rfl st.defers (resAt_cell st 2 b2 26 (Con.tri 1 1 false 0 0) rfl row26 info26) (resAt_tmp st 3) hb (by rw [PR_err (pe_e1 h30) (ne_of_bne h30)]; exact fun v u h1 h2 => ⟨v, u, rfl, h1, h2⟩)
  · skip
    refine wp_skip ?_
    refine then_normal ?_
    refine wp_seq ?_
    refine sym_region st [(33, Fact.agg (Con.nn 1 1)), (11, Fact.var' (Con.raw 1))] [11] 2 (by kernel_rfl) (by kernel_rfl) (by kernel_rfl) (Nat.le_of_ble_eq_true rfl) (by kernel_rfl) rfl rfl ?_ ?_
    · refine fcn (ob_callc 61 _ 33 _ rfl rfl (.inl rfl) (by kernel_rfl) (n_of 1 1 (by decide) (by unfold Nm.Sz; decide) (by decide))) ?_
      refine fcs ⟨obn_new 24 11 _ [.slice none 0 0] rfl rfl rfl rfl rfl alloc24, ?_⟩
      exact fnl
    intro a11 w11 st11 hbr11 hfr
    have hs11 := hbr11.size
    have hb := up hb hbr11
    obtain ⟨b11, c11⟩ := (show (Fact.var' (Con.raw 1)).holds _ _ from st11.at_ 11)
    have g11 := hfr.ge (s := 11) rfl c11.1
    have st : St 60 [(2, Fact.cell b2 (Con.raw 3)), (3, fI 0), (5, Fact.eq (.bool (neg45 l))), (7, Fact.eq (.string (ofB (aft (unsg l))))), (8, fT), (9, Fact.cell b9 (Con.nn 42 (pv (bef (unsg l))))), (10, fI (Nm.chk (bef (unsg l)) : Int)), (33, Fact.agg (Con.nn 1 1)), (11, Fact.cell b11 (Con.raw 1))] a11 w11 := st11.to (fcs ⟨st11.at_ 2, fcs ⟨st11.at_ 3, fcs ⟨st11.at_ 5, fcs ⟨st11.at_ 7, fcs ⟨st11.at_ 8, fcs ⟨st11.at_ 9, fcs ⟨st11.at_ 10, fcs ⟨st11.at_ 33, fcs ⟨c11, fnl⟩⟩⟩⟩⟩⟩⟩⟩⟩)
    clear st11 hbr11 hfr c11
    refine sym_store st 24 11 33 b11 (Con.raw 1) (Con.nn 1 1) [(2, Fact.cell b2 (Con.raw 3)), (3, fI 0), (5, Fact.eq (.bool (neg45 l))), (7, Fact.eq (.string (ofB (aft (unsg l))))), (8, fT), (9, Fact.cell b9 (Con.nn 42 (pv (bef (unsg l))))), (10, fI (Nm.chk (bef (unsg l)) : Int)), (11, Fact.cell b11 (Con.nn 1 1))] rfl rfl rfl rfl rfl rfl info24 ?_ ?_
    · exact fcs ⟨.inr ⟨rfl, safe_cell _ (by omega)⟩, fcs ⟨.inr ⟨rfl, safe_eq _ _⟩, fcs ⟨.inr ⟨rfl, safe_eq _ _⟩, fcs ⟨.inr ⟨rfl, safe_eq _ _⟩, fcs ⟨.inr ⟨rfl, safe_eq _ _⟩, fcs ⟨.inr ⟨rfl, safe_cell _ (by omega)⟩, fcs ⟨.inr ⟨rfl, safe_eq _ _⟩, fcs ⟨.inl rfl, fnl⟩⟩⟩⟩⟩⟩⟩⟩
    clear st; intro w12 hB hsz12 st
    have hb := hB _ _ hb (by omega) (by omega)
    clear hB
    refine wpList_nil ?_
    refine then_normal ?_
    refine wp_seq ?_
    refine wp_seq ?_
    refine sym_region st [(34, fT)] [] 1 (by kernel_rfl) (by kernel_rfl) (by kernel_rfl) (Nat.le_of_ble_eq_true rfl) (by kernel_rfl) rfl rfl ?_ ?_
    · refine fcn (ob_copy 8 34 (.inl rfl) rfl (.inl rfl) (by kernel_rfl) rfl) ?_
      exact fnl
    intro a13 w13 st13 hbr13 hfr
    have hs13 := hbr13.size
    have hb := up hb hbr13
    have st : St 60 [(2, Fact.cell b2 (Con.raw 3)), (3, fI 0), (5, Fact.eq (.bool (neg45 l))), (7, Fact.eq (.string (ofB (aft (unsg l))))), (8, fT), (9, Fact.cell b9 (Con.nn 42 (pv (bef (unsg l))))), (10, fI (Nm.chk (bef (unsg l)) : Int)), (11, Fact.cell b11 (Con.nn 1 1)), (34, fT)] a13 w13 := st13.to (fcs ⟨st13.at_ 2, fcs ⟨st13.at_ 3, fcs ⟨st13.at_ 5, fcs ⟨st13.at_ 7, fcs ⟨st13.at_ 8, fcs ⟨st13.at_ 9, fcs ⟨st13.at_ 10, fcs ⟨st13.at_ 11, fcs ⟨st13.at_ 34, fnl⟩⟩⟩⟩⟩⟩⟩⟩⟩)
    clear st13 hbr13 hfr
    refine wpList_nil ?_
    refine then_normal ?_
    refine wp_cond_true (st.at_ 34) ?_
    refine wp_seq ?_
    have st := st.to (ks' := [(2, Fact.cell b2 (Con.raw 3)), (3, fI 0), (5, Fact.eq (.bool (neg45 l))), (7, Fact.eq (.string (ofB (aft (unsg l))))), (8, fT), (9, Fact.cell b9 (Con.nn 42 (pv (bef (unsg l))))), (11, Fact.cell b11 (Con.nn 1 1)), (34, fT)]) (fcs ⟨st.at_ 2, fcs ⟨st.at_ 3, fcs ⟨st.at_ 5, fcs ⟨st.at_ 7, fcs ⟨st.at_ 8, fcs ⟨st.at_ 9, fcs ⟨st.at_ 11, fcs ⟨st.at_ 34, fnl⟩⟩⟩⟩⟩⟩⟩⟩)
    refine sym_region st [(36, Fact.eq (.string (ofB (aft (unsg l))))), (37, Fact.two (Fact.agg (Con.nn 42 (pv (aft (unsg l))))) (fI (Nm.chk (aft (unsg l)) : Int))), (35, Fact.two (Fact.agg (Con.nn 42 (pv (aft (unsg l))))) (fI (Nm.chk (aft (unsg l)) : Int))), (38, Fact.agg (Con.nn 42 (pv (aft (unsg l))))), (39, fI (Nm.chk (aft (unsg l)) : Int))] [] 5 (by kernel_rfl) (by kernel_rfl) (by kernel_rfl) (Nat.le_of_ble_eq_true rfl) (by kernel_rfl) rfl rfl ?_ ?_
    · refine fcn (ob_copy 7 36 (.inl rfl) rfl (.inl rfl) (by kernel_rfl) rfl) ?_
      refine fcn (ob_call1 68 36 37 _ rfl rfl (.inl rfl) (by kernel_rfl) (by kernel_rfl) (n_parse (aft (unsg l)) h.unsg.aft hsa)) ?_
      refine fcn (ob_copy 37 35 (.inl rfl) rfl (.inl rfl) (by kernel_rfl) rfl) ?_
      refine fcn (ob_fst 35 38 (Fact.agg (Con.nn 42 (pv (aft (unsg l))))) (fI (Nm.chk (aft (unsg l)) : Int)) rfl rfl (.inl rfl) (by kernel_rfl) rfl rfl) ?_
      refine fcn (ob_snd 35 39 (Fact.agg (Con.nn 42 (pv (aft (unsg l))))) (fI (Nm.chk (aft (unsg l)) : Int)) rfl rfl (.inl rfl) (by kernel_rfl) rfl rfl) ?_
      exact fnl
    intro a14 w14 st14 hbr14 hfr
    have hs14 := hbr14.size
    have hb := up hb hbr14
    have st : St 60 [(2, Fact.cell b2 (Con.raw 3)), (3, fI 0), (5, Fact.eq (.bool (neg45 l))), (8, fT), (9, Fact.cell b9 (Con.nn 42 (pv (bef (unsg l))))), (11, Fact.cell b11 (Con.nn 1 1)), (38, Fact.agg (Con.nn 42 (pv (aft (unsg l))))), (39, fI (Nm.chk (aft (unsg l)) : Int))] a14 w14 := st14.to (fcs ⟨st14.at_ 2, fcs ⟨st14.at_ 3, fcs ⟨st14.at_ 5, fcs ⟨st14.at_ 8, fcs ⟨st14.at_ 9, fcs ⟨st14.at_ 11, fcs ⟨st14.at_ 38, fcs ⟨st14.at_ 39, fnl⟩⟩⟩⟩⟩⟩⟩⟩)
    clear st14 hbr14 hfr
    refine sym_store st 24 11 38 b11 (Con.nn 1 1) (Con.nn 42 (pv (aft (unsg l)))) [(2, Fact.cell b2 (Con.raw 3)), (3, fI 0), (5, Fact.eq (.bool (neg45 l))), (8, fT), (9, Fact.cell b9 (Con.nn 42 (pv (bef (unsg l))))), (11, Fact.cell b11 (Con.nn 42 (pv (aft (unsg l))))), (39, fI (Nm.chk (aft (unsg l)) : Int))] rfl rfl rfl rfl rfl rfl info24 ?_ ?_
    · exact fcs ⟨.inr ⟨rfl, safe_cell _ (by omega)⟩, fcs ⟨.inr ⟨rfl, safe_eq _ _⟩, fcs ⟨.inr ⟨rfl, safe_eq _ _⟩, fcs ⟨.inr ⟨rfl, safe_eq _ _⟩, fcs ⟨.inr ⟨rfl, safe_cell _ (by omega)⟩, fcs ⟨.inl rfl, fcs ⟨.inr ⟨rfl, safe_eq _ _⟩, fnl⟩⟩⟩⟩⟩⟩⟩
    clear st; intro w15 hB hsz15 st
    have hb := hB _ _ hb (by omega) (by omega)
    clear hB
    refine sym_op st 10 (fI (Nm.chk (aft (unsg l)) : Int)) rfl (Nat.le_of_ble_eq_true rfl) rfl rfl (by kernel_rfl) (ob_copy 39 10 (.inr rfl) rfl (.inl rfl) (by kernel_rfl) rfl) ?_
    clear st; intro a16 w16 hbr st; have hs16 := hbr.size; have hb := up hb hbr; clear hbr
    refine wpList_nil ?_
    refine then_normal ?_
    refine wp_seq ?_
    refine sym_region st [(40, fI (Nm.chk (aft (unsg l)) : Int)), (41, Fact.eq (.bool ((Nm.chk (aft (unsg l)) : Int) != 0)))] [] 2 (by kernel_rfl) (by kernel_rfl) (by kernel_rfl) (Nat.le_of_ble_eq_true rfl) (by kernel_rfl) rfl rfl ?_ ?_
    · refine fcn (ob_copy 10 40 (.inl rfl) rfl (.inl rfl) (by kernel_rfl) rfl) ?_
      refine fcn (ob_nec 40 41 .i64 33 _ (Nm.chk (aft (unsg l)) : Int) 0 ((Nm.chk (aft (unsg l)) : Int) != 0) rfl rfl rfl (.inl rfl) (by kernel_rfl) rfl rfl) ?_
      exact fnl
    intro a17 w17 st17 hbr17 hfr
    have hs17 := hbr17.size
    have hb := up hb hbr17
    have st : St 60 [(2, Fact.cell b2 (Con.raw 3)), (3, fI 0), (5, Fact.eq (.bool (neg45 l))), (8, fT), (9, Fact.cell b9 (Con.nn 42 (pv (bef (unsg l))))), (11, Fact.cell b11 (Con.nn 42 (pv (aft (unsg l))))), (10, fI (Nm.chk (aft (unsg l)) : Int)), (41, Fact.eq (.bool ((Nm.chk (aft (unsg l)) : Int) != 0)))] a17 w17 := st17.to (fcs ⟨st17.at_ 2, fcs ⟨st17.at_ 3, fcs ⟨st17.at_ 5, fcs ⟨st17.at_ 8, fcs ⟨st17.at_ 9, fcs ⟨st17.at_ 11, fcs ⟨st17.at_ 10, fcs ⟨st17.at_ 41, fnl⟩⟩⟩⟩⟩⟩⟩⟩)
    clear st17 hbr17 hfr
    refine wpList_nil ?_
    refine then_normal ?_
    refine wp_cond_split (st.at_ 41) (fun h41 => ?_) (fun h41 => ?_)
    · skip
      refine wp_seq ?_
      have st := st.to (ks' := [(2, Fact.cell b2 (Con.raw 3)), (5, Fact.eq (.bool (neg45 l))), (8, fT), (9, Fact.cell b9 (Con.nn 42 (pv (bef (unsg l))))), (11, Fact.cell b11 (Con.nn 42 (pv (aft (unsg l))))), (10, fI (Nm.chk (aft (unsg l)) : Int)), (41, Fact.eq (.bool ((Nm.chk (aft (unsg l)) : Int) != 0)))]) (fcs ⟨st.at_ 2, fcs ⟨st.at_ 5, fcs ⟨st.at_ 8, fcs ⟨st.at_ 9, fcs ⟨st.at_ 11, fcs ⟨st.at_ 10, fcs ⟨st.at_ 41, fnl⟩⟩⟩⟩⟩⟩⟩)
      refine sym_region st [(42, Fact.agg (Con.tri 1 1 false 0 0)), (43, fI (Nm.chk (aft (unsg l)) : Int))] [] 2 (by kernel_rfl) (by kernel_rfl) (by kernel_rfl) (Nat.le_of_ble_eq_true rfl) (by kernel_rfl) rfl rfl ?_ ?_
      · refine fcn (ob_buildzero 42 rfl rfl (.inl rfl) rfl) ?_
        refine fcn (ob_copy 10 43 (.inl rfl) rfl (.inl rfl) (by kernel_rfl) rfl) ?_
        exact fnl
      intro a18 w18 st18 hbr18 hfr
      have hs18 := hbr18.size
      have hb := up hb hbr18
      have st : St 60 [(2, Fact.cell b2 (Con.raw 3)), (5, Fact.eq (.bool (neg45 l))), (8, fT), (9, Fact.cell b9 (Con.nn 42 (pv (bef (unsg l))))), (11, Fact.cell b11 (Con.nn 42 (pv (aft (unsg l))))), (42, Fact.agg (Con.tri 1 1 false 0 0)), (43, fI (Nm.chk (aft (unsg l)) : Int))] a18 w18 := st18.to (fcs ⟨st18.at_ 2, fcs ⟨st18.at_ 5, fcs ⟨st18.at_ 8, fcs ⟨st18.at_ 9, fcs ⟨st18.at_ 11, fcs ⟨st18.at_ 42, fcs ⟨st18.at_ 43, fnl⟩⟩⟩⟩⟩⟩⟩)
      clear st18 hbr18 hfr
      refine sym_store st 26 2 42 b2 (Con.raw 3) (Con.tri 1 1 false 0 0) [(2, Fact.cell b2 (Con.tri 1 1 false 0 0)), (5, Fact.eq (.bool (neg45 l))), (8, fT), (9, Fact.cell b9 (Con.nn 42 (pv (bef (unsg l))))), (11, Fact.cell b11 (Con.nn 42 (pv (aft (unsg l))))), (43, fI (Nm.chk (aft (unsg l)) : Int))] rfl rfl rfl rfl rfl rfl info26 ?_ ?_
      · exact fcs ⟨.inl rfl, fcs ⟨.inr ⟨rfl, safe_eq _ _⟩, fcs ⟨.inr ⟨rfl, safe_eq _ _⟩, fcs ⟨.inr ⟨rfl, safe_cell _ (by omega)⟩, fcs ⟨.inr ⟨rfl, safe_cell _ (by omega)⟩, fcs ⟨.inr ⟨rfl, safe_eq _ _⟩, fnl⟩⟩⟩⟩⟩⟩
      clear st; intro w19 hB hsz19 st
      have hb := hB _ _ hb (by omega) (by omega)
      clear hB
      refine sym_op st 3 (fI (Nm.chk (aft (unsg l)) : Int)) rfl (Nat.le_of_ble_eq_true rfl) rfl rfl (by kernel_rfl) (ob_copy 43 3 (.inr rfl) rfl (.inl rfl) (by kernel_rfl) rfl) ?_
      clear st; intro a20 w20 hbr st; have hs20 := hbr.size; have hb := up hb hbr; clear hbr
      refine wpList_nil ?_
      refine then_normal ?_
      refine wp_ret ?_
      exact sym_ret2 rfl st.defers (resAt_cell st 2 b2 26 (Con.tri 1 1 false 0 0) rfl row26 info26) (resAt_tmp st 3) hb (by rw [PR_err (pe_e2 h30 hsl h41) (ne_of_bne h41)]; exact fun v u h1 h2 => ⟨v, u, rfl, h1, h2⟩)
    · skip
      refine wp_skip ?_
      refine then_normal ?_
      refine wp_seq ?_
      refine sym_region st [(44, Fact.eq (.bool (neg45 l))), (45, Fact.agg (Con.nn 42 (pv (bef (unsg l))))), (46, Fact.agg (Con.nn 42 (pv (aft (unsg l))))), (47, Fact.agg (Con.tri 42 42 (neg45 l) (pv (bef (unsg l))) (pv (aft (unsg l))))), (12, Fact.var' (Con.raw 3))] [12] 5 (by kernel_rfl) (by kernel_rfl) (by kernel_rfl) (Nat.le_of_ble_eq_true rfl) (by kernel_rfl) rfl rfl ?_ ?_
      · refine fcn (ob_copy 5 44 (.inl rfl) rfl (.inl rfl) (by kernel_rfl) rfl) ?_
        refine fcn (ob_read 24 9 45 (Con.nn 42 (pv (bef (unsg l)))) rfl rfl (.inl rfl) (by kernel_rfl) points_cell rfl row24 info24) ?_
        refine fcn (ob_read 24 11 46 (Con.nn 42 (pv (aft (unsg l)))) rfl rfl (.inl rfl) (by kernel_rfl) points_cell rfl row24 info24) ?_
        refine fcn (ob_buildtri 44 45 46 47 42 42 (pv (bef (unsg l))) (pv (aft (unsg l))) (neg45 l) rfl rfl (.inl rfl) (by kernel_rfl) (by kernel_rfl) (by kernel_rfl) rfl rfl rfl rfl) ?_
        refine fcs ⟨obn_new 26 12 _ [.bool false, .slice none 0 0, .slice none 0 0] rfl rfl rfl rfl rfl alloc26, ?_⟩
        exact fnl
      intro a21 w21 st21 hbr21 hfr
      have hs21 := hbr21.size
      have hb := up hb hbr21
      obtain ⟨b12, c12⟩ := (show (Fact.var' (Con.raw 3)).holds _ _ from st21.at_ 12)
      have g12 := hfr.ge (s := 12) rfl c12.1
      have st : St 60 [(2, Fact.cell b2 (Con.raw 3)), (3, fI 0), (8, fT), (11, Fact.cell b11 (Con.nn 42 (pv (aft (unsg l))))), (47, Fact.agg (Con.tri 42 42 (neg45 l) (pv (bef (unsg l))) (pv (aft (unsg l))))), (12, Fact.cell b12 (Con.raw 3))] a21 w21 := st21.to (fcs ⟨st21.at_ 2, fcs ⟨st21.at_ 3, fcs ⟨st21.at_ 8, fcs ⟨st21.at_ 11, fcs ⟨st21.at_ 47, fcs ⟨c12, fnl⟩⟩⟩⟩⟩⟩)
      clear st21 hbr21 hfr c12
      refine sym_store st 26 12 47 b12 (Con.raw 3) (Con.tri 42 42 (neg45 l) (pv (bef (unsg l))) (pv (aft (unsg l)))) [(2, Fact.cell b2 (Con.raw 3)), (3, fI 0), (8, fT), (11, Fact.cell b11 (Con.nn 42 (pv (aft (unsg l))))), (12, Fact.cell b12 (Con.tri 42 42 (neg45 l) (pv (bef (unsg l))) (pv (aft (unsg l)))))] rfl rfl rfl rfl rfl rfl info26 ?_ ?_
      · exact fcs ⟨.inr ⟨rfl, safe_cell _ (by omega)⟩, fcs ⟨.inr ⟨rfl, safe_eq _ _⟩, fcs ⟨.inr ⟨rfl, safe_eq _ _⟩, fcs ⟨.inr ⟨rfl, safe_cell _ (by omega)⟩, fcs ⟨.inl rfl, fnl⟩⟩⟩⟩⟩
      clear st; intro w22 hB hsz22 st
      have hb := hB _ _ hb (by omega) (by omega)
      clear hB
      refine wpList_nil ?_
      refine then_normal ?_
      refine wp_seq ?_
      refine wp_seq ?_
      refine sym_region st [(48, fT), (49, fT), (50, Fact.agg (Con.nn 42 (pv (aft (unsg l))))), (51, fF), (52, fF), (53, fF), (54, Fact.agg (Con.tri 42 42 (neg45 l) (pv (bef (unsg l))) (pv (aft (unsg l))))), (55, Fact.eq (.bool (vldT (neg45 l) (pv (bef (unsg l))) (pv (aft (unsg l)))))), (56, Fact.eq (.bool (!(vldT (neg45 l) (pv (bef (unsg l))) (pv (aft (unsg l))))))), (57, Fact.eq (.bool (!(vldT (neg45 l) (pv (bef (unsg l))) (pv (aft (unsg l)))))))] [] 10 (by kernel_rfl) (by kernel_rfl) (by kernel_rfl) (Nat.le_of_ble_eq_true rfl) (by kernel_rfl) rfl rfl ?_ ?_
      · refine fcn (ob_copy 8 48 (.inl rfl) rfl (.inl rfl) (by kernel_rfl) rfl) ?_
        refine fcn (ob_copy 48 49 (.inl rfl) rfl (.inl rfl) (by kernel_rfl) rfl) ?_
        refine fcn (ob_read 24 11 50 (Con.nn 42 (pv (aft (unsg l)))) rfl rfl (.inr ⟨_, _, _, rfl, rfl, by kernel_rfl, by decide, rfl⟩) (by kernel_rfl) points_cell rfl row24 info24) ?_
        refine fcn (ob_call1 69 50 51 _ rfl rfl (.inr ⟨_, _, _, rfl, rfl, by kernel_rfl, by decide, rfl⟩) (by kernel_rfl) (by kernel_rfl) (q_isOne 42 (pv (aft (unsg l))) false hone)) ?_
        refine fcn (ob_pick 49 51 52 _ rfl rfl (.inl rfl) (by kernel_rfl) (by kernel_rfl) rfl rfl) ?_
        refine fcn (ob_copy 52 53 (.inl rfl) rfl (.inl rfl) (by kernel_rfl) rfl) ?_
        refine fcn (ob_read 26 12 54 (Con.tri 42 42 (neg45 l) (pv (bef (unsg l))) (pv (aft (unsg l)))) rfl rfl (.inr ⟨_, _, _, rfl, rfl, by kernel_rfl, by decide, rfl⟩) (by kernel_rfl) points_cell rfl row26 info26) ?_
        refine fcn (ob_call1 70 54 55 _ rfl rfl (.inr ⟨_, _, _, rfl, rfl, by kernel_rfl, by decide, rfl⟩) (by kernel_rfl) (by kernel_rfl) (q_valid_tri 42 42 (neg45 l) (pv (bef (unsg l))) (pv (aft (unsg l))) (by omega) (by omega) (vldT (neg45 l) (pv (bef (unsg l))) (pv (aft (unsg l)))) rfl)) ?_
        refine fcn (ob_not 55 56 (vldT (neg45 l) (pv (bef (unsg l))) (pv (aft (unsg l)))) (!(vldT (neg45 l) (pv (bef (unsg l))) (pv (aft (unsg l))))) rfl rfl rfl (.inr ⟨_, _, _, rfl, rfl, by kernel_rfl, by decide, rfl⟩) (by kernel_rfl) rfl rfl) ?_
        refine fcn (ob_pick_else 53 56 57 (.bool true) rfl rfl (.inl rfl) (by kernel_rfl) (by kernel_rfl) rfl rfl) ?_
        exact fnl
      intro a23 w23 st23 hbr23 hfr
      have hs23 := hbr23.size
      have hb := up hb hbr23
      have st : St 60 [(2, Fact.cell b2 (Con.raw 3)), (3, fI 0), (12, Fact.cell b12 (Con.tri 42 42 (neg45 l) (pv (bef (unsg l))) (pv (aft (unsg l))))), (57, Fact.eq (.bool (!(vldT (neg45 l) (pv (bef (unsg l))) (pv (aft (unsg l)))))))] a23 w23 := st23.to (fcs ⟨st23.at_ 2, fcs ⟨st23.at_ 3, fcs ⟨st23.at_ 12, fcs ⟨st23.at_ 57, fnl⟩⟩⟩⟩)
      clear st23 hbr23 hfr
      refine wpList_nil ?_
      refine then_normal ?_
      refine wp_cond_split (st.at_ 57) (fun h57 => ?_) (fun h57 => ?_)
      · skip
        refine wp_seq ?_
        have st := st.to (ks' := [(2, Fact.cell b2 (Con.raw 3)), (12, Fact.cell b12 (Con.tri 42 42 (neg45 l) (pv (bef (unsg l))) (pv (aft (unsg l))))), (57, Fact.eq (.bool (!(vldT (neg45 l) (pv (bef (unsg l))) (pv (aft (unsg l)))))))]) (fcs ⟨st.at_ 2, fcs ⟨st.at_ 12, fcs ⟨st.at_ 57, fnl⟩⟩⟩)
        refine sym_region st [(58, Fact.agg (Con.tri 1 1 false 0 0))] [] 1 (by kernel_rfl) (by kernel_rfl) (by kernel_rfl) (Nat.le_of_ble_eq_true rfl) (by kernel_rfl) rfl rfl ?_ ?_
        · refine fcn (ob_buildzero 58 rfl rfl (.inl rfl) rfl) ?_
          exact fnl
        intro a24 w24 st24 hbr24 hfr
        have hs24 := hbr24.size
        have hb := up hb hbr24
        have st : St 60 [(2, Fact.cell b2 (Con.raw 3)), (12, Fact.cell b12 (Con.tri 42 42 (neg45 l) (pv (bef (unsg l))) (pv (aft (unsg l))))), (58, Fact.agg (Con.tri 1 1 false 0 0))] a24 w24 := st24.to (fcs ⟨st24.at_ 2, fcs ⟨st24.at_ 12, fcs ⟨st24.at_ 58, fnl⟩⟩⟩)
        clear st24 hbr24 hfr
        refine sym_store st 26 2 58 b2 (Con.raw 3) (Con.tri 1 1 false 0 0) [(2, Fact.cell b2 (Con.tri 1 1 false 0 0)), (12, Fact.cell b12 (Con.tri 42 42 (neg45 l) (pv (bef (unsg l))) (pv (aft (unsg l)))))] rfl rfl rfl rfl rfl rfl info26 ?_ ?_
        · exact fcs ⟨.inl rfl, fcs ⟨.inr ⟨rfl, safe_cell _ (by omega)⟩, fnl⟩⟩
        clear st; intro w25 hB hsz25 st
        have hb := hB _ _ hb (by omega) (by omega)
        clear hB
        refine sym_op st 3 (fI 2) rfl (Nat.le_of_ble_eq_true rfl) rfl rfl (by kernel_rfl) (ob_const (.int .i64 2) 3 (.inr rfl) rfl (.inl rfl) rfl) ?_
        clear st; intro a26 w26 hbr st; have hs26 := hbr.size; have hb := up hb hbr; clear hbr
        refine wpList_nil ?_
        refine then_normal ?_
        refine wp_ret ?_
        exact sym_ret2 rfl st.defers (resAt_cell st 2 b2 26 (Con.tri 1 1 false 0 0) rfl row26 info26) (resAt_tmp st 3) hb (by rw [PR_err (e := 2) ((pe_v h30 hsl h41 (of_decide_eq_false hone)).trans (by rw [not_true h57]; rfl)) (by decide)]; exact fun v u h1 h2 => ⟨v, u, rfl, h1, h2⟩)
      · skip
        refine wp_skip ?_
        refine then_normal ?_
        refine wp_seq ?_
        have st := st.to (ks' := [(2, Fact.cell b2 (Con.raw 3)), (12, Fact.cell b12 (Con.tri 42 42 (neg45 l) (pv (bef (unsg l))) (pv (aft (unsg l))))), (57, Fact.eq (.bool (!(vldT (neg45 l) (pv (bef (unsg l))) (pv (aft (unsg l)))))))]) (fcs ⟨st.at_ 2, fcs ⟨st.at_ 12, fcs ⟨st.at_ 57, fnl⟩⟩⟩)
        refine sym_region st [(59, Fact.agg (Con.tri 42 42 (neg45 l) (pv (bef (unsg l))) (pv (aft (unsg l)))))] [] 1 (by kernel_rfl) (by kernel_rfl) (by kernel_rfl) (Nat.le_of_ble_eq_true rfl) (by kernel_rfl) rfl rfl ?_ ?_
        · refine fcn (ob_read 26 12 59 (Con.tri 42 42 (neg45 l) (pv (bef (unsg l))) (pv (aft (unsg l)))) rfl rfl (.inl rfl) (by kernel_rfl) points_cell rfl row26 info26) ?_
          exact fnl
        intro a27 w27 st27 hbr27 hfr
        have hs27 := hbr27.size
        have hb := up hb hbr27
        have st : St 60 [(2, Fact.cell b2 (Con.raw 3)), (59, Fact.agg (Con.tri 42 42 (neg45 l) (pv (bef (unsg l))) (pv (aft (unsg l)))))] a27 w27 := st27.to (fcs ⟨st27.at_ 2, fcs ⟨st27.at_ 59, fnl⟩⟩)
        clear st27 hbr27 hfr
        refine sym_store st 26 2 59 b2 (Con.raw 3) (Con.tri 42 42 (neg45 l) (pv (bef (unsg l))) (pv (aft (unsg l)))) [(2, Fact.cell b2 (Con.tri 42 42 (neg45 l) (pv (bef (unsg l))) (pv (aft (unsg l)))))] rfl rfl rfl rfl rfl rfl info26 ?_ ?_
        · exact fcs ⟨.inl rfl, fnl⟩
        clear st; intro w28 hB hsz28 st
        have hb := hB _ _ hb (by omega) (by omega)
        clear hB
        refine sym_op st 3 (fI 0) rfl (Nat.le_of_ble_eq_true rfl) rfl rfl (by kernel_rfl) (ob_const (.int .i64 0) 3 (.inr rfl) rfl (.inl rfl) rfl) ?_
        clear st; intro a29 w29 hbr st; have hs29 := hbr.size; have hb := up hb hbr; clear hbr
        refine wpList_nil ?_
        refine then_normal ?_
        refine wp_ret ?_
        exact sym_ret2 rfl st.defers (resAt_cell st 2 b2 26 (Con.tri 42 42 (neg45 l) (pv (bef (unsg l))) (pv (aft (unsg l)))) rfl row26 info26) (resAt_tmp st 3) hb (by rw [PR_ok ((pe_v h30 hsl h41 (of_decide_eq_false hone)).trans (if_pos (not_false h57))), px_s hsl]; exact fun v u h1 h2 => ⟨v, u, rfl, vldT_fr (not_false h57) h1 (by decide) (by decide), h2⟩)
theorem q_parse (l : List Nat) (h : Byt l) (hs : l.length ≤ 1000000) : ∀ v0 w, (Fact.eq (.string (ofB l))).holds v0 w → Calls Tryz.prog 33 #[v0] w (Ret (PR l) w) := by
  intro v0 w hv
  cases hsl : sls (unsg l) with
  | false => exact q_parse_s0 l h hs hsl v0 w hv
  | true =>
    cases hone : decide (pv (aft (unsg l)) = 1) with
    | true => exact q_parse_s1 l h hs hsl hone v0 w hv
    | false => exact q_parse_s2 l h hs hsl hone v0 w hv
end Go.Proofs.YtjfehdkfogdpgaaGreatDoor
namespace Go.Proofs.YtjfehdkfogdpgaaGreatDoor
open Go.RowKit
theorem dec_sz {k p : Nat} (hk : k ≤ 41) (h : Nm.Sz k p) : (Nm.dec p).length ≤ 400 := by
  have h1 : (4294967296 : Nat) ^ 41 < 10 ^ 400 := by decide +kernel
  have h2 : 4294967296 ^ k ≤ 4294967296 ^ 41 := Nat.pow_le_pow_right (by decide) hk
  exact Nat.le_of_not_lt (Nm.dec_short (Nat.lt_of_lt_of_le h (Nat.le_trans h2 (Nat.le_of_lt h1))))
theorem q_formatk (k : Nat) (x : Rat) (hk : k ≤ 41) (l : List Nat) (hl : fmt x = l) : ∀ v w, (Fact.agg (Con.fr k x)).holds v w → Calls Tryz.prog 35 #[v] w (Ret (Fact.eq (.string (ofB l))) w) := by
  intro v w hv
  have z := Fact.fr_sz hv
  have h1 := dec_sz hk z.1
  have h2 := dec_sz hk z.2
  subst hl
  exact q_format k x (by omega) (by omega) v w hv
theorem q_floorb (k : Nat) (x : Rat) (hk : k + 1 ≤ 400) (n : Int) (b : Bool) (hn : asI x.floor = n) (hb : fitsI x.floor = b) : ∀ v w, (Fact.agg (Con.fr k x)).holds v w → Calls Tryz.prog 28 #[v] w (Ret (Fact.two (fI n) (Fact.eq (.bool b))) w) := by
  subst hn hb; exact q_floor k x hk
theorem q_ratio_c (n m : Int) (h : -9223372036854775808 ≤ n ∧ n ≤ 9223372036854775807) (h2 : -9223372036854775808 ≤ m ∧ m ≤ 9223372036854775807) (hm : Int.natAbs m ≠ 0) (x : Rat) (hx : Rt.of ((decide (n < 0)) != (decide (m < 0))) (Int.natAbs n) (Int.natAbs m) = x) : ∀ w, Calls Tryz.prog 37 #[.int .i64 n, .int .i64 m] w (Ret (Fact.two (Fact.fr 2 x) (fI 0)) w) := by
  subst hx; exact fun w => q_ratio_of n m h h2 hm _ _ w rfl rfl
theorem q_ratio_c0 (n m : Int) (h : -9223372036854775808 ≤ n ∧ n ≤ 9223372036854775807) (h2 : -9223372036854775808 ≤ m ∧ m ≤ 9223372036854775807) (hm : Int.natAbs m = 0) : ∀ w, Calls Tryz.prog 37 #[.int .i64 n, .int .i64 m] w (Ret (Fact.two (Fact.agg (Con.tri 1 1 false 0 0)) (fI 8)) w) := fun w => q_ratio0 n m h h2 hm _ _ w rfl rfl
theorem byt_lit {l : List Nat} (h : l.all (fun c => decide (c < 256)) = true) : Byt l := fun c hc => of_decide_eq_true (List.all_eq_true.1 h c hc)
theorem q_parse_24 : ∀ w, Calls Tryz.prog 33 #[.string ⟨#[50, 47, 52]⟩] w (Ret (Fact.two (Fact.agg (Con.tri 1 1 false 0 0)) (fI 2)) w) := fun w => by
  have h := q_parse [50, 47, 52] (byt_lit rfl) (Nat.le_of_ble_eq_true rfl) _ w rfl
  rw [PR_err (e := 2) (by kernel_rfl) (by decide)] at h
  exact h
set_option maxRecDepth 100000 in
theorem w_awake  : ∀ w, Calls Tryz.prog 9 #[] w (Ret (fT) w) := by
  intro w
  refine sym_calls 77 [] Tryz.func9 rfl rfl (Nat.le_of_ble_eq_true rfl) (fnl) fun a st => ?_
  have hb := Below.refl w.heap.size w
  refine wp_seq ?_
  refine sym_region st [(0, fF)] [] 1 (by kernel_rfl) (by kernel_rfl) (by kernel_rfl) (Nat.le_of_ble_eq_true rfl) (by kernel_rfl) rfl rfl ?_ ?_
  · refine fcn (ob_const (.bool false) 0 (.inr rfl) rfl (.inl rfl) rfl) ?_
    exact fnl
  intro a1 w1 st1 hbr1 hfr
  have hs1 := hbr1.size
  have hb := up hb hbr1
  have st : St 77 [(0, fF)] a1 w1 := st1.to (fcs ⟨st1.at_ 0, fnl⟩)
  clear st1 hbr1 hfr
  refine wpList_nil ?_
  refine then_normal ?_
  refine wp_seq ?_
  refine sym_region st [(14, Fact.two (Fact.agg (Con.fr 2 (1 / 3 : Rat))) (fI 0)), (13, Fact.two (Fact.agg (Con.fr 2 (1 / 3 : Rat))) (fI 0)), (15, Fact.agg (Con.fr 2 (1 / 3 : Rat))), (16, fI 0), (1, Fact.var' (Con.raw 3))] [1] 5 (by kernel_rfl) (by kernel_rfl) (by kernel_rfl) (Nat.le_of_ble_eq_true rfl) (by kernel_rfl) rfl rfl ?_ ?_
  · refine fcn (ob_call_cc 37 14 (.int .i64 1) (.int .i64 3) _ rfl rfl (.inl rfl) (by kernel_rfl) (q_ratio_c (1) (3) (by decide) (by decide) (by decide) (1 / 3 : Rat) (by kernel_rfl))) ?_
    refine fcn (ob_copy 14 13 (.inl rfl) rfl (.inl rfl) (by kernel_rfl) rfl) ?_
    refine fcn (ob_fst 13 15 (Fact.agg (Con.fr 2 (1 / 3 : Rat))) (fI 0) rfl rfl (.inl rfl) (by kernel_rfl) rfl rfl) ?_
    refine fcn (ob_snd 13 16 (Fact.agg (Con.fr 2 (1 / 3 : Rat))) (fI 0) rfl rfl (.inl rfl) (by kernel_rfl) rfl rfl) ?_
    refine fcs ⟨obn_new 26 1 _ [.bool false, .slice none 0 0, .slice none 0 0] rfl rfl rfl rfl rfl alloc26, ?_⟩
    exact fnl
  intro a2 w2 st2 hbr2 hfr
  have hs2 := hbr2.size
  have hb := up hb hbr2
  obtain ⟨b1, c1⟩ := (show (Fact.var' (Con.raw 3)).holds _ _ from st2.at_ 1)
  have g1 := hfr.ge (s := 1) rfl c1.1
  have st : St 77 [(0, fF), (15, Fact.agg (Con.fr 2 (1 / 3 : Rat))), (16, fI 0), (1, Fact.cell b1 (Con.raw 3))] a2 w2 := st2.to (fcs ⟨st2.at_ 0, fcs ⟨st2.at_ 15, fcs ⟨st2.at_ 16, fcs ⟨c1, fnl⟩⟩⟩⟩)
  clear st2 hbr2 hfr c1
  refine sym_store st 26 1 15 b1 (Con.raw 3) (Con.fr 2 (1 / 3 : Rat)) [(0, fF), (16, fI 0), (1, Fact.cell b1 (Con.fr 2 (1 / 3 : Rat)))] rfl rfl rfl rfl rfl rfl info26 ?_ ?_
  · exact fcs ⟨.inr ⟨rfl, safe_eq _ _⟩, fcs ⟨.inr ⟨rfl, safe_eq _ _⟩, fcs ⟨.inl rfl, fnl⟩⟩⟩
  clear st; intro w3 hB hsz3 st
  have hb := hB _ _ hb (by omega) (by omega)
  clear hB
  refine sym_op st 2 (fI 0) rfl (Nat.le_of_ble_eq_true rfl) rfl rfl (by kernel_rfl) (ob_copy 16 2 (.inr rfl) rfl (.inl rfl) (by kernel_rfl) rfl) ?_
  clear st; intro a4 w4 hbr st; have hs4 := hbr.size; have hb := up hb hbr; clear hbr
  refine wpList_nil ?_
  refine then_normal ?_
  refine wp_seq ?_
  refine sym_region st [(18, Fact.two (Fact.agg (Con.fr 2 (1 / 6 : Rat))) (fI 0)), (17, Fact.two (Fact.agg (Con.fr 2 (1 / 6 : Rat))) (fI 0)), (19, Fact.agg (Con.fr 2 (1 / 6 : Rat))), (20, fI 0), (3, Fact.var' (Con.raw 3))] [3] 5 (by kernel_rfl) (by kernel_rfl) (by kernel_rfl) (Nat.le_of_ble_eq_true rfl) (by kernel_rfl) rfl rfl ?_ ?_
  · refine fcn (ob_call_cc 37 18 (.int .i64 1) (.int .i64 6) _ rfl rfl (.inl rfl) (by kernel_rfl) (q_ratio_c (1) (6) (by decide) (by decide) (by decide) (1 / 6 : Rat) (by kernel_rfl))) ?_
    refine fcn (ob_copy 18 17 (.inl rfl) rfl (.inl rfl) (by kernel_rfl) rfl) ?_
    refine fcn (ob_fst 17 19 (Fact.agg (Con.fr 2 (1 / 6 : Rat))) (fI 0) rfl rfl (.inl rfl) (by kernel_rfl) rfl rfl) ?_
    refine fcn (ob_snd 17 20 (Fact.agg (Con.fr 2 (1 / 6 : Rat))) (fI 0) rfl rfl (.inl rfl) (by kernel_rfl) rfl rfl) ?_
    refine fcs ⟨obn_new 26 3 _ [.bool false, .slice none 0 0, .slice none 0 0] rfl rfl rfl rfl rfl alloc26, ?_⟩
    exact fnl
  intro a5 w5 st5 hbr5 hfr
  have hs5 := hbr5.size
  have hb := up hb hbr5
  obtain ⟨b3, c3⟩ := (show (Fact.var' (Con.raw 3)).holds _ _ from st5.at_ 3)
  have g3 := hfr.ge (s := 3) rfl c3.1
  have st : St 77 [(0, fF), (1, Fact.cell b1 (Con.fr 2 (1 / 3 : Rat))), (2, fI 0), (19, Fact.agg (Con.fr 2 (1 / 6 : Rat))), (20, fI 0), (3, Fact.cell b3 (Con.raw 3))] a5 w5 := st5.to (fcs ⟨st5.at_ 0, fcs ⟨st5.at_ 1, fcs ⟨st5.at_ 2, fcs ⟨st5.at_ 19, fcs ⟨st5.at_ 20, fcs ⟨c3, fnl⟩⟩⟩⟩⟩⟩)
  clear st5 hbr5 hfr c3
  refine sym_store st 26 3 19 b3 (Con.raw 3) (Con.fr 2 (1 / 6 : Rat)) [(0, fF), (1, Fact.cell b1 (Con.fr 2 (1 / 3 : Rat))), (2, fI 0), (20, fI 0), (3, Fact.cell b3 (Con.fr 2 (1 / 6 : Rat)))] rfl rfl rfl rfl rfl rfl info26 ?_ ?_
  · exact fcs ⟨.inr ⟨rfl, safe_eq _ _⟩, fcs ⟨.inr ⟨rfl, safe_cell _ (by omega)⟩, fcs ⟨.inr ⟨rfl, safe_eq _ _⟩, fcs ⟨.inr ⟨rfl, safe_eq _ _⟩, fcs ⟨.inl rfl, fnl⟩⟩⟩⟩⟩
  clear st; intro w6 hB hsz6 st
  have hb := hB _ _ hb (by omega) (by omega)
  clear hB
  refine sym_op st 4 (fI 0) rfl (Nat.le_of_ble_eq_true rfl) rfl rfl (by kernel_rfl) (ob_copy 20 4 (.inr rfl) rfl (.inl rfl) (by kernel_rfl) rfl) ?_
  clear st; intro a7 w7 hbr st; have hs7 := hbr.size; have hb := up hb hbr; clear hbr
  refine wpList_nil ?_
  refine then_normal ?_
  refine wp_seq ?_
  refine sym_region st [(22, Fact.two (Fact.agg (Con.fr 2 (1 / 2 : Rat))) (fI 0)), (21, Fact.two (Fact.agg (Con.fr 2 (1 / 2 : Rat))) (fI 0)), (23, Fact.agg (Con.fr 2 (1 / 2 : Rat))), (24, fI 0), (5, Fact.var' (Con.raw 3))] [5] 5 (by kernel_rfl) (by kernel_rfl) (by kernel_rfl) (Nat.le_of_ble_eq_true rfl) (by kernel_rfl) rfl rfl ?_ ?_
  · refine fcn (ob_call_cc 37 22 (.int .i64 (-1)) (.int .i64 (-2)) _ rfl rfl (.inl rfl) (by kernel_rfl) (q_ratio_c (-1) (-2) (by decide) (by decide) (by decide) (1 / 2 : Rat) (by kernel_rfl))) ?_
    refine fcn (ob_copy 22 21 (.inl rfl) rfl (.inl rfl) (by kernel_rfl) rfl) ?_
    refine fcn (ob_fst 21 23 (Fact.agg (Con.fr 2 (1 / 2 : Rat))) (fI 0) rfl rfl (.inl rfl) (by kernel_rfl) rfl rfl) ?_
    refine fcn (ob_snd 21 24 (Fact.agg (Con.fr 2 (1 / 2 : Rat))) (fI 0) rfl rfl (.inl rfl) (by kernel_rfl) rfl rfl) ?_
    refine fcs ⟨obn_new 26 5 _ [.bool false, .slice none 0 0, .slice none 0 0] rfl rfl rfl rfl rfl alloc26, ?_⟩
    exact fnl
  intro a8 w8 st8 hbr8 hfr
  have hs8 := hbr8.size
  have hb := up hb hbr8
  obtain ⟨b5, c5⟩ := (show (Fact.var' (Con.raw 3)).holds _ _ from st8.at_ 5)
  have g5 := hfr.ge (s := 5) rfl c5.1
  have st : St 77 [(0, fF), (1, Fact.cell b1 (Con.fr 2 (1 / 3 : Rat))), (2, fI 0), (3, Fact.cell b3 (Con.fr 2 (1 / 6 : Rat))), (4, fI 0), (23, Fact.agg (Con.fr 2 (1 / 2 : Rat))), (24, fI 0), (5, Fact.cell b5 (Con.raw 3))] a8 w8 := st8.to (fcs ⟨st8.at_ 0, fcs ⟨st8.at_ 1, fcs ⟨st8.at_ 2, fcs ⟨st8.at_ 3, fcs ⟨st8.at_ 4, fcs ⟨st8.at_ 23, fcs ⟨st8.at_ 24, fcs ⟨c5, fnl⟩⟩⟩⟩⟩⟩⟩⟩)
  clear st8 hbr8 hfr c5
  refine sym_store st 26 5 23 b5 (Con.raw 3) (Con.fr 2 (1 / 2 : Rat)) [(0, fF), (1, Fact.cell b1 (Con.fr 2 (1 / 3 : Rat))), (2, fI 0), (3, Fact.cell b3 (Con.fr 2 (1 / 6 : Rat))), (4, fI 0), (24, fI 0), (5, Fact.cell b5 (Con.fr 2 (1 / 2 : Rat)))] rfl rfl rfl rfl rfl rfl info26 ?_ ?_
  · exact fcs ⟨.inr ⟨rfl, safe_eq _ _⟩, fcs ⟨.inr ⟨rfl, safe_cell _ (by omega)⟩, fcs ⟨.inr ⟨rfl, safe_eq _ _⟩, fcs ⟨.inr ⟨rfl, safe_cell _ (by omega)⟩, fcs ⟨.inr ⟨rfl, safe_eq _ _⟩, fcs ⟨.inr ⟨rfl, safe_eq _ _⟩, fcs ⟨.inl rfl, fnl⟩⟩⟩⟩⟩⟩⟩
  clear st; intro w9 hB hsz9 st
  have hb := hB _ _ hb (by omega) (by omega)
  clear hB
  refine sym_op st 6 (fI 0) rfl (Nat.le_of_ble_eq_true rfl) rfl rfl (by kernel_rfl) (ob_copy 24 6 (.inr rfl) rfl (.inl rfl) (by kernel_rfl) rfl) ?_
  clear st; intro a10 w10 hbr st; have hs10 := hbr.size; have hb := up hb hbr; clear hbr
  refine wpList_nil ?_
  refine then_normal ?_
  refine wp_seq ?_
  refine sym_region st [(26, Fact.two (Fact.agg (Con.tri 1 1 false 0 0)) (fI 8)), (25, Fact.two (Fact.agg (Con.tri 1 1 false 0 0)) (fI 8)), (27, Fact.agg (Con.tri 1 1 false 0 0)), (28, fI 8), (7, Fact.var' (Con.raw 3))] [7] 5 (by kernel_rfl) (by kernel_rfl) (by kernel_rfl) (Nat.le_of_ble_eq_true rfl) (by kernel_rfl) rfl rfl ?_ ?_
  · refine fcn (ob_call_cc 37 26 (.int .i64 1) (.int .i64 0) _ rfl rfl (.inl rfl) (by kernel_rfl) (q_ratio_c0 (1) (0) (by decide) (by decide) (by decide))) ?_
    refine fcn (ob_copy 26 25 (.inl rfl) rfl (.inl rfl) (by kernel_rfl) rfl) ?_
    refine fcn (ob_fst 25 27 (Fact.agg (Con.tri 1 1 false 0 0)) (fI 8) rfl rfl (.inl rfl) (by kernel_rfl) rfl rfl) ?_
    refine fcn (ob_snd 25 28 (Fact.agg (Con.tri 1 1 false 0 0)) (fI 8) rfl rfl (.inl rfl) (by kernel_rfl) rfl rfl) ?_
    refine fcs ⟨obn_new 26 7 _ [.bool false, .slice none 0 0, .slice none 0 0] rfl rfl rfl rfl rfl alloc26, ?_⟩
    exact fnl
  intro a11 w11 st11 hbr11 hfr
  have hs11 := hbr11.size
  have hb := up hb hbr11
  obtain ⟨b7, c7⟩ := (show (Fact.var' (Con.raw 3)).holds _ _ from st11.at_ 7)
  have g7 := hfr.ge (s := 7) rfl c7.1
  have st : St 77 [(0, fF), (1, Fact.cell b1 (Con.fr 2 (1 / 3 : Rat))), (2, fI 0), (3, Fact.cell b3 (Con.fr 2 (1 / 6 : Rat))), (4, fI 0), (5, Fact.cell b5 (Con.fr 2 (1 / 2 : Rat))), (6, fI 0), (27, Fact.agg (Con.tri 1 1 false 0 0)), (28, fI 8), (7, Fact.cell b7 (Con.raw 3))] a11 w11 := st11.to (fcs ⟨st11.at_ 0, fcs ⟨st11.at_ 1, fcs ⟨st11.at_ 2, fcs ⟨st11.at_ 3, fcs ⟨st11.at_ 4, fcs ⟨st11.at_ 5, fcs ⟨st11.at_ 6, fcs ⟨st11.at_ 27, fcs ⟨st11.at_ 28, fcs ⟨c7, fnl⟩⟩⟩⟩⟩⟩⟩⟩⟩⟩)
  clear st11 hbr11 hfr c7
  refine sym_store st 26 7 27 b7 (Con.raw 3) (Con.tri 1 1 false 0 0) [(0, fF), (1, Fact.cell b1 (Con.fr 2 (1 / 3 : Rat))), (2, fI 0), (3, Fact.cell b3 (Con.fr 2 (1 / 6 : Rat))), (4, fI 0), (5, Fact.cell b5 (Con.fr 2 (1 / 2 : Rat))), (6, fI 0), (28, fI 8), (7, Fact.cell b7 (Con.tri 1 1 false 0 0))] rfl rfl rfl rfl rfl rfl info26 ?_ ?_
  · exact fcs ⟨.inr ⟨rfl, safe_eq _ _⟩, fcs ⟨.inr ⟨rfl, safe_cell _ (by omega)⟩, fcs ⟨.inr ⟨rfl, safe_eq _ _⟩, fcs ⟨.inr ⟨rfl, safe_cell _ (by omega)⟩, fcs ⟨.inr ⟨rfl, safe_eq _ _⟩, fcs ⟨.inr ⟨rfl, safe_cell _ (by omega)⟩, fcs ⟨.inr ⟨rfl, safe_eq _ _⟩, fcs ⟨.inr ⟨rfl, safe_eq _ _⟩, fcs ⟨.inl rfl, fnl⟩⟩⟩⟩⟩⟩⟩⟩⟩
  clear st; intro w12 hB hsz12 st
  have hb := hB _ _ hb (by omega) (by omega)
  clear hB
  refine sym_op st 8 (fI 8) rfl (Nat.le_of_ble_eq_true rfl) rfl rfl (by kernel_rfl) (ob_copy 28 8 (.inr rfl) rfl (.inl rfl) (by kernel_rfl) rfl) ?_
  clear st; intro a13 w13 hbr st; have hs13 := hbr.size; have hb := up hb hbr; clear hbr
  refine wpList_nil ?_
  refine then_normal ?_
  refine wp_seq ?_
  refine sym_region st [(30, Fact.two (Fact.agg (Con.tri 1 1 false 0 0)) (fI 2)), (29, Fact.two (Fact.agg (Con.tri 1 1 false 0 0)) (fI 2)), (31, Fact.agg (Con.tri 1 1 false 0 0)), (32, fI 2), (9, Fact.var' (Con.raw 3))] [9] 5 (by kernel_rfl) (by kernel_rfl) (by kernel_rfl) (Nat.le_of_ble_eq_true rfl) (by kernel_rfl) rfl rfl ?_ ?_
  · refine fcn (ob_callc 33 _ 30 _ rfl rfl (.inl rfl) (by kernel_rfl) q_parse_24) ?_
    refine fcn (ob_copy 30 29 (.inl rfl) rfl (.inl rfl) (by kernel_rfl) rfl) ?_
    refine fcn (ob_fst 29 31 (Fact.agg (Con.tri 1 1 false 0 0)) (fI 2) rfl rfl (.inl rfl) (by kernel_rfl) rfl rfl) ?_
    refine fcn (ob_snd 29 32 (Fact.agg (Con.tri 1 1 false 0 0)) (fI 2) rfl rfl (.inl rfl) (by kernel_rfl) rfl rfl) ?_
    refine fcs ⟨obn_new 26 9 _ [.bool false, .slice none 0 0, .slice none 0 0] rfl rfl rfl rfl rfl alloc26, ?_⟩
    exact fnl
  intro a14 w14 st14 hbr14 hfr
  have hs14 := hbr14.size
  have hb := up hb hbr14
  obtain ⟨b9, c9⟩ := (show (Fact.var' (Con.raw 3)).holds _ _ from st14.at_ 9)
  have g9 := hfr.ge (s := 9) rfl c9.1
  have st : St 77 [(0, fF), (1, Fact.cell b1 (Con.fr 2 (1 / 3 : Rat))), (2, fI 0), (3, Fact.cell b3 (Con.fr 2 (1 / 6 : Rat))), (4, fI 0), (5, Fact.cell b5 (Con.fr 2 (1 / 2 : Rat))), (6, fI 0), (8, fI 8), (31, Fact.agg (Con.tri 1 1 false 0 0)), (32, fI 2), (9, Fact.cell b9 (Con.raw 3))] a14 w14 := st14.to (fcs ⟨st14.at_ 0, fcs ⟨st14.at_ 1, fcs ⟨st14.at_ 2, fcs ⟨st14.at_ 3, fcs ⟨st14.at_ 4, fcs ⟨st14.at_ 5, fcs ⟨st14.at_ 6, fcs ⟨st14.at_ 8, fcs ⟨st14.at_ 31, fcs ⟨st14.at_ 32, fcs ⟨c9, fnl⟩⟩⟩⟩⟩⟩⟩⟩⟩⟩⟩)
  clear st14 hbr14 hfr c9
  refine sym_store st 26 9 31 b9 (Con.raw 3) (Con.tri 1 1 false 0 0) [(0, fF), (1, Fact.cell b1 (Con.fr 2 (1 / 3 : Rat))), (2, fI 0), (3, Fact.cell b3 (Con.fr 2 (1 / 6 : Rat))), (4, fI 0), (5, Fact.cell b5 (Con.fr 2 (1 / 2 : Rat))), (6, fI 0), (8, fI 8), (32, fI 2), (9, Fact.cell b9 (Con.tri 1 1 false 0 0))] rfl rfl rfl rfl rfl rfl info26 ?_ ?_
  · exact fcs ⟨.inr ⟨rfl, safe_eq _ _⟩, fcs ⟨.inr ⟨rfl, safe_cell _ (by omega)⟩, fcs ⟨.inr ⟨rfl, safe_eq _ _⟩, fcs ⟨.inr ⟨rfl, safe_cell _ (by omega)⟩, fcs ⟨.inr ⟨rfl, safe_eq _ _⟩, fcs ⟨.inr ⟨rfl, safe_cell _ (by omega)⟩, fcs ⟨.inr ⟨rfl, safe_eq _ _⟩, fcs ⟨.inr ⟨rfl, safe_eq _ _⟩, fcs ⟨.inr ⟨rfl, safe_eq _ _⟩, fcs ⟨.inl rfl, fnl⟩⟩⟩⟩⟩⟩⟩⟩⟩⟩
  clear st; intro w15 hB hsz15 st
  have hb := hB _ _ hb (by omega) (by omega)
  clear hB
  refine sym_op st 10 (fI 2) rfl (Nat.le_of_ble_eq_true rfl) rfl rfl (by kernel_rfl) (ob_copy 32 10 (.inr rfl) rfl (.inl rfl) (by kernel_rfl) rfl) ?_
  clear st; intro a16 w16 hbr st; have hs16 := hbr.size; have hb := up hb hbr; clear hbr
  refine wpList_nil ?_
  refine then_normal ?_
  refine wp_seq ?_
  refine sym_region st [(34, Fact.agg (Con.fr 2 (1 / 2 : Rat))), (35, Fact.agg (Con.fr 2 (-(1 / 2 : Rat)))), (36, Fact.two (fI (-1)) (fT)), (33, Fact.two (fI (-1)) (fT)), (37, fI (-1)), (38, fT), (11, fI (-1)), (12, fT)] [] 8 (by kernel_rfl) (by kernel_rfl) (by kernel_rfl) (Nat.le_of_ble_eq_true rfl) (by kernel_rfl) rfl rfl ?_ ?_
  · refine fcn (ob_read 26 5 34 (Con.fr 2 (1 / 2 : Rat)) rfl rfl (.inl rfl) (by kernel_rfl) points_cell rfl row26 info26) ?_
    refine fcn (ob_call1 15 34 35 _ rfl rfl (.inl rfl) (by kernel_rfl) (by kernel_rfl) (q_neg 2 (1 / 2 : Rat))) ?_
    refine fcn (ob_call1 28 35 36 _ rfl rfl (.inl rfl) (by kernel_rfl) (by kernel_rfl) (q_floorb 2 (-(1 / 2 : Rat)) (by omega) (-1) true (by kernel_rfl) (by kernel_rfl))) ?_
    refine fcn (ob_copy 36 33 (.inl rfl) rfl (.inl rfl) (by kernel_rfl) rfl) ?_
    refine fcn (ob_fst 33 37 (fI (-1)) (fT) rfl rfl (.inl rfl) (by kernel_rfl) rfl rfl) ?_
    refine fcn (ob_snd 33 38 (fI (-1)) (fT) rfl rfl (.inl rfl) (by kernel_rfl) rfl rfl) ?_
    refine fcn (ob_copy 37 11 (.inr rfl) rfl (.inl rfl) (by kernel_rfl) rfl) ?_
    refine fcn (ob_copy 38 12 (.inr rfl) rfl (.inl rfl) (by kernel_rfl) rfl) ?_
    exact fnl
  intro a17 w17 st17 hbr17 hfr
  have hs17 := hbr17.size
  have hb := up hb hbr17
  have st : St 77 [(0, fF), (1, Fact.cell b1 (Con.fr 2 (1 / 3 : Rat))), (2, fI 0), (3, Fact.cell b3 (Con.fr 2 (1 / 6 : Rat))), (4, fI 0), (5, Fact.cell b5 (Con.fr 2 (1 / 2 : Rat))), (6, fI 0), (8, fI 8), (10, fI 2), (11, fI (-1)), (12, fT)] a17 w17 := st17.to (fcs ⟨st17.at_ 0, fcs ⟨st17.at_ 1, fcs ⟨st17.at_ 2, fcs ⟨st17.at_ 3, fcs ⟨st17.at_ 4, fcs ⟨st17.at_ 5, fcs ⟨st17.at_ 6, fcs ⟨st17.at_ 8, fcs ⟨st17.at_ 10, fcs ⟨st17.at_ 11, fcs ⟨st17.at_ 12, fnl⟩⟩⟩⟩⟩⟩⟩⟩⟩⟩⟩)
  clear st17 hbr17 hfr
  refine wpList_nil ?_
  refine then_normal ?_
  refine wp_seq ?_
  have st := st.to (ks' := [(1, Fact.cell b1 (Con.fr 2 (1 / 3 : Rat))), (2, fI 0), (3, Fact.cell b3 (Con.fr 2 (1 / 6 : Rat))), (4, fI 0), (5, Fact.cell b5 (Con.fr 2 (1 / 2 : Rat))), (6, fI 0), (8, fI 8), (10, fI 2), (11, fI (-1)), (12, fT)]) (fcs ⟨st.at_ 1, fcs ⟨st.at_ 2, fcs ⟨st.at_ 3, fcs ⟨st.at_ 4, fcs ⟨st.at_ 5, fcs ⟨st.at_ 6, fcs ⟨st.at_ 8, fcs ⟨st.at_ 10, fcs ⟨st.at_ 11, fcs ⟨st.at_ 12, fnl⟩⟩⟩⟩⟩⟩⟩⟩⟩⟩)
  refine sym_region st [(39, fI 0), (40, fT), (41, fT), (42, fI 0), (43, fT), (44, fT), (45, fT), (46, fI 0), (47, fT), (48, fT), (49, fT), (50, fI 8), (51, fT), (52, fT), (53, fT), (54, fI 2), (55, fT), (56, fT), (57, fT), (58, fI (-1)), (59, fT), (60, fT), (61, fT), (62, fT), (63, fT), (64, fT), (65, Fact.agg (Con.fr 2 (1 / 3 : Rat))), (66, Fact.agg (Con.fr 2 (1 / 6 : Rat))), (67, Fact.agg (Con.fr 5 ((1 / 3 : Rat) + (1 / 6 : Rat)))), (68, Fact.agg (Con.fr 2 (1 / 2 : Rat))), (69, fT), (70, fT), (71, fT), (72, Fact.agg (Con.fr 2 (1 / 2 : Rat))), (73, Fact.agg (Con.fr 2 (-(1 / 2 : Rat)))), (74, Fact.eq (.string (ofB ([45, 49, 47, 50])))), (75, fT), (76, fT), (0, fT)] [] 39 (by kernel_rfl) (by kernel_rfl) (by kernel_rfl) (Nat.le_of_ble_eq_true rfl) (by kernel_rfl) rfl rfl ?_ ?_
  · refine fcn (ob_copy 2 39 (.inl rfl) rfl (.inl rfl) (by kernel_rfl) rfl) ?_
    refine fcn (ob_eqc 39 40 .i64 33 _ 0 0 true rfl rfl rfl (.inl rfl) (by kernel_rfl) rfl rfl) ?_
    refine fcn (ob_copy 40 41 (.inl rfl) rfl (.inl rfl) (by kernel_rfl) rfl) ?_
    refine fcn (ob_copy 4 42 (.inl rfl) rfl (.inr ⟨_, _, _, rfl, rfl, by kernel_rfl, by decide, rfl⟩) (by kernel_rfl) rfl) ?_
    refine fcn (ob_eqc 42 43 .i64 33 _ 0 0 true rfl rfl rfl (.inr ⟨_, _, _, rfl, rfl, by kernel_rfl, by decide, rfl⟩) (by kernel_rfl) rfl rfl) ?_
    refine fcn (ob_pick 41 43 44 _ rfl rfl (.inl rfl) (by kernel_rfl) (by kernel_rfl) rfl rfl) ?_
    refine fcn (ob_copy 44 45 (.inl rfl) rfl (.inl rfl) (by kernel_rfl) rfl) ?_
    refine fcn (ob_copy 6 46 (.inl rfl) rfl (.inr ⟨_, _, _, rfl, rfl, by kernel_rfl, by decide, rfl⟩) (by kernel_rfl) rfl) ?_
    refine fcn (ob_eqc 46 47 .i64 33 _ 0 0 true rfl rfl rfl (.inr ⟨_, _, _, rfl, rfl, by kernel_rfl, by decide, rfl⟩) (by kernel_rfl) rfl rfl) ?_
    refine fcn (ob_pick 45 47 48 _ rfl rfl (.inl rfl) (by kernel_rfl) (by kernel_rfl) rfl rfl) ?_
    refine fcn (ob_copy 48 49 (.inl rfl) rfl (.inl rfl) (by kernel_rfl) rfl) ?_
    refine fcn (ob_copy 8 50 (.inl rfl) rfl (.inr ⟨_, _, _, rfl, rfl, by kernel_rfl, by decide, rfl⟩) (by kernel_rfl) rfl) ?_
    refine fcn (ob_eqc 50 51 .i64 33 _ 8 8 true rfl rfl rfl (.inr ⟨_, _, _, rfl, rfl, by kernel_rfl, by decide, rfl⟩) (by kernel_rfl) rfl rfl) ?_
    refine fcn (ob_pick 49 51 52 _ rfl rfl (.inl rfl) (by kernel_rfl) (by kernel_rfl) rfl rfl) ?_
    refine fcn (ob_copy 52 53 (.inl rfl) rfl (.inl rfl) (by kernel_rfl) rfl) ?_
    refine fcn (ob_copy 10 54 (.inl rfl) rfl (.inr ⟨_, _, _, rfl, rfl, by kernel_rfl, by decide, rfl⟩) (by kernel_rfl) rfl) ?_
    refine fcn (ob_eqc 54 55 .i64 33 _ 2 2 true rfl rfl rfl (.inr ⟨_, _, _, rfl, rfl, by kernel_rfl, by decide, rfl⟩) (by kernel_rfl) rfl rfl) ?_
    refine fcn (ob_pick 53 55 56 _ rfl rfl (.inl rfl) (by kernel_rfl) (by kernel_rfl) rfl rfl) ?_
    refine fcn (ob_copy 56 57 (.inl rfl) rfl (.inl rfl) (by kernel_rfl) rfl) ?_
    refine fcn (ob_copy 11 58 (.inl rfl) rfl (.inr ⟨_, _, _, rfl, rfl, by kernel_rfl, by decide, rfl⟩) (by kernel_rfl) rfl) ?_
    refine fcn (ob_eqc 58 59 .i64 2 _ (-1) (-1) true rfl rfl rfl (.inr ⟨_, _, _, rfl, rfl, by kernel_rfl, by decide, rfl⟩) (by kernel_rfl) rfl rfl) ?_
    refine fcn (ob_pick 57 59 60 _ rfl rfl (.inl rfl) (by kernel_rfl) (by kernel_rfl) rfl rfl) ?_
    refine fcn (ob_copy 60 61 (.inl rfl) rfl (.inl rfl) (by kernel_rfl) rfl) ?_
    refine fcn (ob_copy 12 62 (.inl rfl) rfl (.inr ⟨_, _, _, rfl, rfl, by kernel_rfl, by decide, rfl⟩) (by kernel_rfl) rfl) ?_
    refine fcn (ob_pick 61 62 63 _ rfl rfl (.inl rfl) (by kernel_rfl) (by kernel_rfl) rfl rfl) ?_
    refine fcn (ob_copy 63 64 (.inl rfl) rfl (.inl rfl) (by kernel_rfl) rfl) ?_
    refine fcn (ob_read 26 1 65 (Con.fr 2 (1 / 3 : Rat)) rfl rfl (.inr ⟨_, _, _, rfl, rfl, by kernel_rfl, by decide, rfl⟩) (by kernel_rfl) points_cell rfl row26 info26) ?_
    refine fcn (ob_read 26 3 66 (Con.fr 2 (1 / 6 : Rat)) rfl rfl (.inr ⟨_, _, _, rfl, rfl, by kernel_rfl, by decide, rfl⟩) (by kernel_rfl) points_cell rfl row26 info26) ?_
    refine fcn (ob_call2 10 65 66 67 _ rfl rfl (.inr ⟨_, _, _, rfl, rfl, by kernel_rfl, by decide, rfl⟩) (by kernel_rfl) (by kernel_rfl) (by kernel_rfl) (q_add 2 2 (1 / 3 : Rat) (1 / 6 : Rat) (by omega))) ?_
    refine fcn (ob_read 26 5 68 (Con.fr 2 (1 / 2 : Rat)) rfl rfl (.inr ⟨_, _, _, rfl, rfl, by kernel_rfl, by decide, rfl⟩) (by kernel_rfl) points_cell rfl row26 info26) ?_
    refine fcn (ob_call2 13 67 68 69 _ rfl rfl (.inr ⟨_, _, _, rfl, rfl, by kernel_rfl, by decide, rfl⟩) (by kernel_rfl) (by kernel_rfl) (by kernel_rfl) (z_same 5 2 ((1 / 3 : Rat) + (1 / 6 : Rat)) (1 / 2 : Rat) true (by kernel_rfl))) ?_
    refine fcn (ob_pick 64 69 70 _ rfl rfl (.inl rfl) (by kernel_rfl) (by kernel_rfl) rfl rfl) ?_
    refine fcn (ob_copy 70 71 (.inl rfl) rfl (.inl rfl) (by kernel_rfl) rfl) ?_
    refine fcn (ob_read 26 5 72 (Con.fr 2 (1 / 2 : Rat)) rfl rfl (.inr ⟨_, _, _, rfl, rfl, by kernel_rfl, by decide, rfl⟩) (by kernel_rfl) points_cell rfl row26 info26) ?_
    refine fcn (ob_call1 15 72 73 _ rfl rfl (.inr ⟨_, _, _, rfl, rfl, by kernel_rfl, by decide, rfl⟩) (by kernel_rfl) (by kernel_rfl) (q_neg 2 (1 / 2 : Rat))) ?_
    refine fcn (ob_call1 35 73 74 _ rfl rfl (.inr ⟨_, _, _, rfl, rfl, by kernel_rfl, by decide, rfl⟩) (by kernel_rfl) (by kernel_rfl) (q_formatk 2 (-(1 / 2 : Rat)) (by decide) [45, 49, 47, 50] (by kernel_rfl))) ?_
    refine fcn (ob_eql_str ⟨#[45, 49, 47, 50]⟩ 74 75 _ rfl rfl (.inr ⟨_, _, _, rfl, rfl, by kernel_rfl, by decide, rfl⟩) (by kernel_rfl) rfl rfl) ?_
    refine fcn (ob_pick 71 75 76 _ rfl rfl (.inl rfl) (by kernel_rfl) (by kernel_rfl) rfl rfl) ?_
    refine fcn (ob_copy 76 0 (.inr rfl) rfl (.inl rfl) (by kernel_rfl) rfl) ?_
    exact fnl
  intro a18 w18 st18 hbr18 hfr
  have hs18 := hbr18.size
  have hb := up hb hbr18
  have st : St 77 [(0, fT)] a18 w18 := st18.to (fcs ⟨st18.at_ 0, fnl⟩)
  clear st18 hbr18 hfr
  refine wpList_nil ?_
  refine then_normal ?_
  refine wp_ret ?_
  exact sym_ret1 rfl st.defers (resAt_tmp st 0) hb (fun _ h => h)
end Go.Proofs.YtjfehdkfogdpgaaGreatDoor

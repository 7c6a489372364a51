/-
  Contracts of the reference's Format and Parse. Conditions: texts of at most 1000000 bytes.
  The text of a fraction is parsed as it was, and a text that is a fraction's is its own text. Conditions: texts of bytes; fractions of at most 41 digits.
  The law FractionTexts.
  An argument that is a fraction, opened: a sign and two slices of digits. No conditions.
  The row and the tied card of FractionTexts, proved: whatever the input, the law returns true, and the input reads as it did. No conditions.
-/
import Derived.Deep.Strs
import Derived.Test.YtjfehdkfogdpgaaGreatDoorTie
import Derived.Test.YtjfehdkfogdpgaaGreatDoorCards
import Derived.LaidMore
import Derived.Lay
import Derived.SevenTiedAt
import Derived.Stop.Joined
import Derived.ChangeMaps5
import Derived.Test.YtjfehdkfogdpgaaGreatDoorTeE
namespace Go.Proofs.YtjfehdkfogdpgaaGreatDoor
open Go.RowKit
set_option maxRecDepth 100000 in
theorem z_format (k : Nat) (x : Rat) (hp : (Nm.dec (Rt.tp x)).length ≤ 100000) (hq : (Nm.dec x.den).length ≤ 100000) : ∀ v0 w, (Fact.agg (Con.fr k x)).holds v0 w → Calls Tryz.prog 36 #[v0] w (Ret (Fact.eq (.string (ofB (fmt x)))) w) := by
  intro v0 w hv0
  cases hng : Rt.ng x with
  | false =>
    cases hd1 : decide (x.den = 1) with
    | false =>
      refine sym_calls 22 [(0, Fact.agg (Con.fr k x))] Tryz.func36 rfl rfl (Nat.le_of_ble_eq_true rfl) (fcs ⟨⟨Nat.le_of_ble_eq_true rfl, hv0⟩, fnl⟩) fun a st => ?_
      have hb := Below.refl w.heap.size w
      refine wp_seq ?_
      refine sym_region st [(1, Fact.var' (Con.fr k x)), (2, Fact.eq (.string (ofB ([]))))] [1] 2 (by kernel_rfl) (by kernel_rfl) (by kernel_rfl) (Nat.le_of_ble_eq_true rfl) (by kernel_rfl) rfl rfl ?_ ?_
      · refine fcs ⟨obn_box 26 0 1 _ (Con.fr k x) rfl rfl rfl (by kernel_rfl) rfl rfl, ?_⟩
        refine fcn (ob_const (.string ⟨#[]⟩) 2 (.inr rfl) rfl (.inl rfl) rfl) ?_
        exact fnl
      intro a1 w1 st1 hbr1 hfr
      have hs1 := hbr1.size
      have hb := up hb hbr1
      obtain ⟨b1, c1⟩ := (show (Fact.var' (Con.fr k x)).holds _ _ from st1.at_ 1)
      have g1 := hfr.ge (s := 1) rfl c1.1
      have st : St 22 [(1, Fact.cell b1 (Con.fr k x)), (2, Fact.eq (.string (ofB ([]))))] a1 w1 := st1.to (fcs ⟨c1, fcs ⟨st1.at_ 2, fnl⟩⟩)
      clear st1 hbr1 hfr c1
      refine wpList_nil ?_
      refine then_normal ?_
      refine wp_seq ?_
      refine sym_region st [(4, Fact.ptr (Con.nn k (Rt.tp x))), (5, Fact.agg (Con.nn k (Rt.tp x))), (6, Fact.eq (.string (ofB (Nm.dec (Rt.tp x))))), (3, Fact.eq (.string (ofB (Nm.dec (Rt.tp x)))))] [] 4 (by kernel_rfl) (by kernel_rfl) (by kernel_rfl) (Nat.le_of_ble_eq_true rfl) (by kernel_rfl) rfl rfl ?_ ?_
      · refine fcn (ob_addr 26 1 1 4 1 (Con.fr k x) (Con.nn k (Rt.tp x)) rfl rfl (.inl rfl) (by kernel_rfl) points_cell rfl (Con.fr_tp k x) field26_1) ?_
        refine fcn (ob_read 24 4 5 (Con.nn k (Rt.tp x)) rfl rfl (.inl rfl) (by kernel_rfl) points_ptr rfl row24 info24) ?_
        refine fcn (ob_call1 73 5 6 _ rfl rfl (.inl rfl) (by kernel_rfl) (by kernel_rfl) (r_format k (Rt.tp x))) ?_
        refine fcn (ob_copy 6 3 (.inr rfl) rfl (.inl rfl) (by kernel_rfl) rfl) ?_
        exact fnl
      intro a2 w2 st2 hbr2 hfr
      have hs2 := hbr2.size
      have hb := up hb hbr2
      have st : St 22 [(1, Fact.cell b1 (Con.fr k x)), (2, Fact.eq (.string (ofB ([])))), (3, Fact.eq (.string (ofB (Nm.dec (Rt.tp x)))))] a2 w2 := st2.to (fcs ⟨st2.at_ 1, fcs ⟨st2.at_ 2, fcs ⟨st2.at_ 3, fnl⟩⟩⟩)
      clear st2 hbr2 hfr
      refine wpList_nil ?_
      refine then_normal ?_
      refine wp_seq ?_
      refine wp_seq ?_
      refine sym_region st [(7, Fact.ptr (Con.bool (Rt.ng x))), (8, fF)] [] 2 (by kernel_rfl) (by kernel_rfl) (by kernel_rfl) (Nat.le_of_ble_eq_true rfl) (by kernel_rfl) rfl rfl ?_ ?_
      · refine fcn (ob_addr 26 0 1 7 0 (Con.fr k x) (Con.bool (Rt.ng x)) rfl rfl (.inl rfl) (by kernel_rfl) points_cell rfl (Con.fr_ng k x) field26_0) ?_
        refine fcn (ob_readb 7 8 (Rt.ng x) false hng rfl rfl (.inl rfl) (by kernel_rfl) points_ptr rfl) ?_
        exact fnl
      intro a3 w3 st3 hbr3 hfr
      have hs3 := hbr3.size
      have hb := up hb hbr3
      have st : St 22 [(1, Fact.cell b1 (Con.fr k x)), (2, Fact.eq (.string (ofB ([])))), (3, Fact.eq (.string (ofB (Nm.dec (Rt.tp x))))), (8, fF)] a3 w3 := st3.to (fcs ⟨st3.at_ 1, fcs ⟨st3.at_ 2, fcs ⟨st3.at_ 3, fcs ⟨st3.at_ 8, fnl⟩⟩⟩⟩)
      clear st3 hbr3 hfr
      refine wpList_nil ?_
      refine then_normal ?_
      refine wp_cond_false (st.at_ 8) ?_
      refine wp_skip ?_
      refine then_normal ?_
      refine wp_seq ?_
      refine wp_seq ?_
      refine sym_region st [(11, Fact.ptr (Con.nn k (Rat.den x))), (12, Fact.agg (Con.nn k (Rat.den x))), (13, Fact.agg (Con.nn 1 1)), (14, fF)] [] 4 (by kernel_rfl) (by kernel_rfl) (by kernel_rfl) (Nat.le_of_ble_eq_true rfl) (by kernel_rfl) rfl rfl ?_ ?_
      · refine fcn (ob_addr 26 2 1 11 2 (Con.fr k x) (Con.nn k (Rat.den x)) rfl rfl (.inl rfl) (by kernel_rfl) points_cell rfl (Con.fr_den k x) field26_2) ?_
        refine fcn (ob_read 24 11 12 (Con.nn k (Rat.den x)) rfl rfl (.inl rfl) (by kernel_rfl) points_ptr rfl row24 info24) ?_
        refine fcn (ob_callc 47 _ 13 _ rfl rfl (.inl rfl) (by kernel_rfl) (r_ofc 1 1 (by decide) (by unfold Nm.Sz; decide))) ?_
        refine fcn (ob_call2 45 12 13 14 _ rfl rfl (.inl rfl) (by kernel_rfl) (by kernel_rfl) (by kernel_rfl) (r_same k 1 (Rat.den x) 1 false hd1)) ?_
        exact fnl
      intro a4 w4 st4 hbr4 hfr
      have hs4 := hbr4.size
      have hb := up hb hbr4
      have st : St 22 [(1, Fact.cell b1 (Con.fr k x)), (2, Fact.eq (.string (ofB ([])))), (3, Fact.eq (.string (ofB (Nm.dec (Rt.tp x))))), (14, fF)] a4 w4 := st4.to (fcs ⟨st4.at_ 1, fcs ⟨st4.at_ 2, fcs ⟨st4.at_ 3, fcs ⟨st4.at_ 14, fnl⟩⟩⟩⟩)
      clear st4 hbr4 hfr
      refine wpList_nil ?_
      refine then_normal ?_
      refine wp_cond_false (st.at_ 14) ?_
      refine wp_skip ?_
      refine then_normal ?_
      refine wp_seq ?_
      have st := st.to (ks' := [(1, Fact.cell b1 (Con.fr k x)), (3, Fact.eq (.string (ofB (Nm.dec (Rt.tp x))))), (14, fF)]) (fcs ⟨st.at_ 1, fcs ⟨st.at_ 3, fcs ⟨st.at_ 14, fnl⟩⟩⟩)
      refine sym_region st [(16, Fact.eq (.string (ofB (Nm.dec (Rt.tp x))))), (17, Fact.eq (.string (ofB ((Nm.dec (Rt.tp x)) ++ ([47]))))), (18, Fact.ptr (Con.nn k (Rat.den x))), (19, Fact.agg (Con.nn k (Rat.den x))), (20, Fact.eq (.string (ofB (Nm.dec (Rat.den x))))), (21, Fact.eq (.string (ofB (((Nm.dec (Rt.tp x)) ++ ([47])) ++ (Nm.dec (Rat.den x)))))), (2, Fact.eq (.string (ofB (((Nm.dec (Rt.tp x)) ++ ([47])) ++ (Nm.dec (Rat.den x))))))] [] 7 (by kernel_rfl) (by kernel_rfl) (by kernel_rfl) (Nat.le_of_ble_eq_true rfl) (by kernel_rfl) rfl rfl ?_ ?_
      · refine fcn (ob_copy 3 16 (.inl rfl) rfl (.inl rfl) (by kernel_rfl) rfl) ?_
        refine fcn (ob_catc 16 17 (Nm.dec (Rt.tp x)) ([47]) _ rfl (by simp only [List.length_cons, List.length_nil]; omega) rfl rfl (.inl rfl) (by kernel_rfl) rfl rfl) ?_
        refine fcn (ob_addr 26 2 1 18 2 (Con.fr k x) (Con.nn k (Rat.den x)) rfl rfl (.inl rfl) (by kernel_rfl) points_cell rfl (Con.fr_den k x) field26_2) ?_
        refine fcn (ob_read 24 18 19 (Con.nn k (Rat.den x)) rfl rfl (.inl rfl) (by kernel_rfl) points_ptr rfl row24 info24) ?_
        refine fcn (ob_call1 73 19 20 _ rfl rfl (.inl rfl) (by kernel_rfl) (by kernel_rfl) (r_format k (Rat.den x))) ?_
        refine fcn (ob_cat 17 20 21 ((Nm.dec (Rt.tp x)) ++ ([47])) (Nm.dec (Rat.den x)) (by simp only [List.length_append, List.length_cons, List.length_nil]; omega) rfl rfl (.inl rfl) (by kernel_rfl) (by kernel_rfl) rfl rfl rfl) ?_
        refine fcn (ob_copy 21 2 (.inr rfl) rfl (.inl rfl) (by kernel_rfl) rfl) ?_
        exact fnl
      intro a5 w5 st5 hbr5 hfr
      have hs5 := hbr5.size
      have hb := up hb hbr5
      have st : St 22 [(2, Fact.eq (.string (ofB (((Nm.dec (Rt.tp x)) ++ ([47])) ++ (Nm.dec (Rat.den x))))))] a5 w5 := st5.to (fcs ⟨st5.at_ 2, fnl⟩)
      clear st5 hbr5 hfr
      refine wpList_nil ?_
      refine then_normal ?_
      refine wp_ret ?_
      exact sym_ret1 rfl st.defers (resAt_tmp st 2) hb (fun _ h => by rw [show fmt x = (Nm.dec (Rt.tp x) ++ [47]) ++ Nm.dec x.den from by unfold fmt; rw [hng, hd1]; rfl]; exact h)
    | true =>
      refine sym_calls 22 [(0, Fact.agg (Con.fr k x))] Tryz.func36 rfl rfl (Nat.le_of_ble_eq_true rfl) (fcs ⟨⟨Nat.le_of_ble_eq_true rfl, hv0⟩, fnl⟩) fun a st => ?_
      have hb := Below.refl w.heap.size w
      refine wp_seq ?_
      refine sym_region st [(1, Fact.var' (Con.fr k x)), (2, Fact.eq (.string (ofB ([]))))] [1] 2 (by kernel_rfl) (by kernel_rfl) (by kernel_rfl) (Nat.le_of_ble_eq_true rfl) (by kernel_rfl) rfl rfl ?_ ?_
      · refine fcs ⟨obn_box 26 0 1 _ (Con.fr k x) rfl rfl rfl (by kernel_rfl) rfl rfl, ?_⟩
        refine fcn (ob_const (.string ⟨#[]⟩) 2 (.inr rfl) rfl (.inl rfl) rfl) ?_
        exact fnl
      intro a1 w1 st1 hbr1 hfr
      have hs1 := hbr1.size
      have hb := up hb hbr1
      obtain ⟨b1, c1⟩ := (show (Fact.var' (Con.fr k x)).holds _ _ from st1.at_ 1)
      have g1 := hfr.ge (s := 1) rfl c1.1
      have st : St 22 [(1, Fact.cell b1 (Con.fr k x)), (2, Fact.eq (.string (ofB ([]))))] a1 w1 := st1.to (fcs ⟨c1, fcs ⟨st1.at_ 2, fnl⟩⟩)
      clear st1 hbr1 hfr c1
      refine wpList_nil ?_
      refine then_normal ?_
      refine wp_seq ?_
      refine sym_region st [(4, Fact.ptr (Con.nn k (Rt.tp x))), (5, Fact.agg (Con.nn k (Rt.tp x))), (6, Fact.eq (.string (ofB (Nm.dec (Rt.tp x))))), (3, Fact.eq (.string (ofB (Nm.dec (Rt.tp x)))))] [] 4 (by kernel_rfl) (by kernel_rfl) (by kernel_rfl) (Nat.le_of_ble_eq_true rfl) (by kernel_rfl) rfl rfl ?_ ?_
      · refine fcn (ob_addr 26 1 1 4 1 (Con.fr k x) (Con.nn k (Rt.tp x)) rfl rfl (.inl rfl) (by kernel_rfl) points_cell rfl (Con.fr_tp k x) field26_1) ?_
        refine fcn (ob_read 24 4 5 (Con.nn k (Rt.tp x)) rfl rfl (.inl rfl) (by kernel_rfl) points_ptr rfl row24 info24) ?_
        refine fcn (ob_call1 73 5 6 _ rfl rfl (.inl rfl) (by kernel_rfl) (by kernel_rfl) (r_format k (Rt.tp x))) ?_
        refine fcn (ob_copy 6 3 (.inr rfl) rfl (.inl rfl) (by kernel_rfl) rfl) ?_
        exact fnl
      intro a2 w2 st2 hbr2 hfr
      have hs2 := hbr2.size
      have hb := up hb hbr2
      have st : St 22 [(1, Fact.cell b1 (Con.fr k x)), (2, Fact.eq (.string (ofB ([])))), (3, Fact.eq (.string (ofB (Nm.dec (Rt.tp x)))))] a2 w2 := st2.to (fcs ⟨st2.at_ 1, fcs ⟨st2.at_ 2, fcs ⟨st2.at_ 3, fnl⟩⟩⟩)
      clear st2 hbr2 hfr
      refine wpList_nil ?_
      refine then_normal ?_
      refine wp_seq ?_
      refine wp_seq ?_
      refine sym_region st [(7, Fact.ptr (Con.bool (Rt.ng x))), (8, fF)] [] 2 (by kernel_rfl) (by kernel_rfl) (by kernel_rfl) (Nat.le_of_ble_eq_true rfl) (by kernel_rfl) rfl rfl ?_ ?_
      · refine fcn (ob_addr 26 0 1 7 0 (Con.fr k x) (Con.bool (Rt.ng x)) rfl rfl (.inl rfl) (by kernel_rfl) points_cell rfl (Con.fr_ng k x) field26_0) ?_
        refine fcn (ob_readb 7 8 (Rt.ng x) false hng rfl rfl (.inl rfl) (by kernel_rfl) points_ptr rfl) ?_
        exact fnl
      intro a3 w3 st3 hbr3 hfr
      have hs3 := hbr3.size
      have hb := up hb hbr3
      have st : St 22 [(1, Fact.cell b1 (Con.fr k x)), (2, Fact.eq (.string (ofB ([])))), (3, Fact.eq (.string (ofB (Nm.dec (Rt.tp x))))), (8, fF)] a3 w3 := st3.to (fcs ⟨st3.at_ 1, fcs ⟨st3.at_ 2, fcs ⟨st3.at_ 3, fcs ⟨st3.at_ 8, fnl⟩⟩⟩⟩)
      clear st3 hbr3 hfr
      refine wpList_nil ?_
      refine then_normal ?_
      refine wp_cond_false (st.at_ 8) ?_
      refine wp_skip ?_
      refine then_normal ?_
      refine wp_seq ?_
      refine wp_seq ?_
      refine sym_region st [(11, Fact.ptr (Con.nn k (Rat.den x))), (12, Fact.agg (Con.nn k (Rat.den x))), (13, Fact.agg (Con.nn 1 1)), (14, fT)] [] 4 (by kernel_rfl) (by kernel_rfl) (by kernel_rfl) (Nat.le_of_ble_eq_true rfl) (by kernel_rfl) rfl rfl ?_ ?_
      · refine fcn (ob_addr 26 2 1 11 2 (Con.fr k x) (Con.nn k (Rat.den x)) rfl rfl (.inl rfl) (by kernel_rfl) points_cell rfl (Con.fr_den k x) field26_2) ?_
        refine fcn (ob_read 24 11 12 (Con.nn k (Rat.den x)) rfl rfl (.inl rfl) (by kernel_rfl) points_ptr rfl row24 info24) ?_
        refine fcn (ob_callc 47 _ 13 _ rfl rfl (.inl rfl) (by kernel_rfl) (r_ofc 1 1 (by decide) (by unfold Nm.Sz; decide))) ?_
        refine fcn (ob_call2 45 12 13 14 _ rfl rfl (.inl rfl) (by kernel_rfl) (by kernel_rfl) (by kernel_rfl) (r_same k 1 (Rat.den x) 1 true hd1)) ?_
        exact fnl
      intro a4 w4 st4 hbr4 hfr
      have hs4 := hbr4.size
      have hb := up hb hbr4
      have st : St 22 [(1, Fact.cell b1 (Con.fr k x)), (2, Fact.eq (.string (ofB ([])))), (3, Fact.eq (.string (ofB (Nm.dec (Rt.tp x))))), (14, fT)] a4 w4 := st4.to (fcs ⟨st4.at_ 1, fcs ⟨st4.at_ 2, fcs ⟨st4.at_ 3, fcs ⟨st4.at_ 14, fnl⟩⟩⟩⟩)
      clear st4 hbr4 hfr
      refine wpList_nil ?_
      refine then_normal ?_
      refine wp_cond_true (st.at_ 14) ?_
      refine wp_seq ?_
      have st := st.to (ks' := [(1, Fact.cell b1 (Con.fr k x)), (3, Fact.eq (.string (ofB (Nm.dec (Rt.tp x))))), (14, fT)]) (fcs ⟨st.at_ 1, fcs ⟨st.at_ 3, fcs ⟨st.at_ 14, fnl⟩⟩⟩)
      refine sym_region st [(15, Fact.eq (.string (ofB (Nm.dec (Rt.tp x))))), (2, Fact.eq (.string (ofB (Nm.dec (Rt.tp x)))))] [] 2 (by kernel_rfl) (by kernel_rfl) (by kernel_rfl) (Nat.le_of_ble_eq_true rfl) (by kernel_rfl) rfl rfl ?_ ?_
      · refine fcn (ob_copy 3 15 (.inl rfl) rfl (.inl rfl) (by kernel_rfl) rfl) ?_
        refine fcn (ob_copy 15 2 (.inr rfl) rfl (.inl rfl) (by kernel_rfl) rfl) ?_
        exact fnl
      intro a5 w5 st5 hbr5 hfr
      have hs5 := hbr5.size
      have hb := up hb hbr5
      have st : St 22 [(1, Fact.cell b1 (Con.fr k x)), (3, Fact.eq (.string (ofB (Nm.dec (Rt.tp x))))), (2, Fact.eq (.string (ofB (Nm.dec (Rt.tp x)))))] a5 w5 := st5.to (fcs ⟨st5.at_ 1, fcs ⟨st5.at_ 3, fcs ⟨st5.at_ 2, fnl⟩⟩⟩)
      clear st5 hbr5 hfr
      refine wpList_nil ?_
      refine then_normal ?_
      refine wp_ret ?_
      exact sym_ret1 rfl st.defers (resAt_tmp st 2) hb (fun _ h => by rw [show fmt x = Nm.dec (Rt.tp x) from by unfold fmt; rw [hng, hd1]; rfl]; exact h)
  | true =>
    cases hd1 : decide (x.den = 1) with
    | false =>
      refine sym_calls 22 [(0, Fact.agg (Con.fr k x))] Tryz.func36 rfl rfl (Nat.le_of_ble_eq_true rfl) (fcs ⟨⟨Nat.le_of_ble_eq_true rfl, hv0⟩, fnl⟩) fun a st => ?_
      have hb := Below.refl w.heap.size w
      refine wp_seq ?_
      refine sym_region st [(1, Fact.var' (Con.fr k x)), (2, Fact.eq (.string (ofB ([]))))] [1] 2 (by kernel_rfl) (by kernel_rfl) (by kernel_rfl) (Nat.le_of_ble_eq_true rfl) (by kernel_rfl) rfl rfl ?_ ?_
      · refine fcs ⟨obn_box 26 0 1 _ (Con.fr k x) rfl rfl rfl (by kernel_rfl) rfl rfl, ?_⟩
        refine fcn (ob_const (.string ⟨#[]⟩) 2 (.inr rfl) rfl (.inl rfl) rfl) ?_
        exact fnl
      intro a1 w1 st1 hbr1 hfr
      have hs1 := hbr1.size
      have hb := up hb hbr1
      obtain ⟨b1, c1⟩ := (show (Fact.var' (Con.fr k x)).holds _ _ from st1.at_ 1)
      have g1 := hfr.ge (s := 1) rfl c1.1
      have st : St 22 [(1, Fact.cell b1 (Con.fr k x)), (2, Fact.eq (.string (ofB ([]))))] a1 w1 := st1.to (fcs ⟨c1, fcs ⟨st1.at_ 2, fnl⟩⟩)
      clear st1 hbr1 hfr c1
      refine wpList_nil ?_
      refine then_normal ?_
      refine wp_seq ?_
      refine sym_region st [(4, Fact.ptr (Con.nn k (Rt.tp x))), (5, Fact.agg (Con.nn k (Rt.tp x))), (6, Fact.eq (.string (ofB (Nm.dec (Rt.tp x))))), (3, Fact.eq (.string (ofB (Nm.dec (Rt.tp x)))))] [] 4 (by kernel_rfl) (by kernel_rfl) (by kernel_rfl) (Nat.le_of_ble_eq_true rfl) (by kernel_rfl) rfl rfl ?_ ?_
      · refine fcn (ob_addr 26 1 1 4 1 (Con.fr k x) (Con.nn k (Rt.tp x)) rfl rfl (.inl rfl) (by kernel_rfl) points_cell rfl (Con.fr_tp k x) field26_1) ?_
        refine fcn (ob_read 24 4 5 (Con.nn k (Rt.tp x)) rfl rfl (.inl rfl) (by kernel_rfl) points_ptr rfl row24 info24) ?_
        refine fcn (ob_call1 73 5 6 _ rfl rfl (.inl rfl) (by kernel_rfl) (by kernel_rfl) (r_format k (Rt.tp x))) ?_
        refine fcn (ob_copy 6 3 (.inr rfl) rfl (.inl rfl) (by kernel_rfl) rfl) ?_
        exact fnl
      intro a2 w2 st2 hbr2 hfr
      have hs2 := hbr2.size
      have hb := up hb hbr2
      have st : St 22 [(1, Fact.cell b1 (Con.fr k x)), (2, Fact.eq (.string (ofB ([])))), (3, Fact.eq (.string (ofB (Nm.dec (Rt.tp x)))))] a2 w2 := st2.to (fcs ⟨st2.at_ 1, fcs ⟨st2.at_ 2, fcs ⟨st2.at_ 3, fnl⟩⟩⟩)
      clear st2 hbr2 hfr
      refine wpList_nil ?_
      refine then_normal ?_
      refine wp_seq ?_
      refine wp_seq ?_
      refine sym_region st [(7, Fact.ptr (Con.bool (Rt.ng x))), (8, fT)] [] 2 (by kernel_rfl) (by kernel_rfl) (by kernel_rfl) (Nat.le_of_ble_eq_true rfl) (by kernel_rfl) rfl rfl ?_ ?_
      · refine fcn (ob_addr 26 0 1 7 0 (Con.fr k x) (Con.bool (Rt.ng x)) rfl rfl (.inl rfl) (by kernel_rfl) points_cell rfl (Con.fr_ng k x) field26_0) ?_
        refine fcn (ob_readb 7 8 (Rt.ng x) true hng rfl rfl (.inl rfl) (by kernel_rfl) points_ptr rfl) ?_
        exact fnl
      intro a3 w3 st3 hbr3 hfr
      have hs3 := hbr3.size
      have hb := up hb hbr3
      have st : St 22 [(1, Fact.cell b1 (Con.fr k x)), (2, Fact.eq (.string (ofB ([])))), (3, Fact.eq (.string (ofB (Nm.dec (Rt.tp x))))), (8, fT)] a3 w3 := st3.to (fcs ⟨st3.at_ 1, fcs ⟨st3.at_ 2, fcs ⟨st3.at_ 3, fcs ⟨st3.at_ 8, fnl⟩⟩⟩⟩)
      clear st3 hbr3 hfr
      refine wpList_nil ?_
      refine then_normal ?_
      refine wp_cond_true (st.at_ 8) ?_
      refine wp_region_lit ?_
      refine sym_op st 9 (Fact.eq (.string (ofB (Nm.dec (Rt.tp x))))) rfl (Nat.le_of_ble_eq_true rfl) rfl rfl (by kernel_rfl) (ob_copy 3 9 (.inl rfl) rfl (.inl rfl) (by kernel_rfl) rfl) ?_
      clear st; intro a5 w5 hbr st; have hs5 := hbr.size; have hb := up hb hbr; clear hbr
      refine sym_op st 10 (Fact.eq (.string (ofB (([45]) ++ (Nm.dec (Rt.tp x)))))) rfl (Nat.le_of_ble_eq_true rfl) rfl rfl (by kernel_rfl) (ob_ccat 9 10 (Nm.dec (Rt.tp x)) ([45]) _ rfl (by simp only [List.length_cons, List.length_nil]; omega) rfl rfl (.inl rfl) (by kernel_rfl) rfl rfl) ?_
      clear st; intro a6 w6 hbr st; have hs6 := hbr.size; have hb := up hb hbr; clear hbr
      have st := st.to (ks' := [(1, Fact.cell b1 (Con.fr k x)), (2, Fact.eq (.string (ofB ([])))), (8, fT), (9, Fact.eq (.string (ofB (Nm.dec (Rt.tp x))))), (10, Fact.eq (.string (ofB (([45]) ++ (Nm.dec (Rt.tp x))))))]) (fcs ⟨st.at_ 1, fcs ⟨st.at_ 2, fcs ⟨st.at_ 8, fcs ⟨st.at_ 9, fcs ⟨st.at_ 10, fnl⟩⟩⟩⟩⟩)
      refine sym_op st 3 (Fact.eq (.string (ofB (([45]) ++ (Nm.dec (Rt.tp x)))))) rfl (Nat.le_of_ble_eq_true rfl) rfl rfl (by kernel_rfl) (ob_copy 10 3 (.inr rfl) rfl (.inl rfl) (by kernel_rfl) rfl) ?_
      clear st; intro a7 w7 hbr st; have hs7 := hbr.size; have hb := up hb hbr; clear hbr
      refine wpList_nil ?_
      refine then_normal ?_
      refine wp_seq ?_
      refine wp_seq ?_
      refine sym_region st [(11, Fact.ptr (Con.nn k (Rat.den x))), (12, Fact.agg (Con.nn k (Rat.den x))), (13, Fact.agg (Con.nn 1 1)), (14, fF)] [] 4 (by kernel_rfl) (by kernel_rfl) (by kernel_rfl) (Nat.le_of_ble_eq_true rfl) (by kernel_rfl) rfl rfl ?_ ?_
      · refine fcn (ob_addr 26 2 1 11 2 (Con.fr k x) (Con.nn k (Rat.den x)) rfl rfl (.inl rfl) (by kernel_rfl) points_cell rfl (Con.fr_den k x) field26_2) ?_
        refine fcn (ob_read 24 11 12 (Con.nn k (Rat.den x)) rfl rfl (.inl rfl) (by kernel_rfl) points_ptr rfl row24 info24) ?_
        refine fcn (ob_callc 47 _ 13 _ rfl rfl (.inl rfl) (by kernel_rfl) (r_ofc 1 1 (by decide) (by unfold Nm.Sz; decide))) ?_
        refine fcn (ob_call2 45 12 13 14 _ rfl rfl (.inl rfl) (by kernel_rfl) (by kernel_rfl) (by kernel_rfl) (r_same k 1 (Rat.den x) 1 false hd1)) ?_
        exact fnl
      intro a8 w8 st8 hbr8 hfr
      have hs8 := hbr8.size
      have hb := up hb hbr8
      have st : St 22 [(1, Fact.cell b1 (Con.fr k x)), (2, Fact.eq (.string (ofB ([])))), (3, Fact.eq (.string (ofB (([45]) ++ (Nm.dec (Rt.tp x)))))), (14, fF)] a8 w8 := st8.to (fcs ⟨st8.at_ 1, fcs ⟨st8.at_ 2, fcs ⟨st8.at_ 3, fcs ⟨st8.at_ 14, fnl⟩⟩⟩⟩)
      clear st8 hbr8 hfr
      refine wpList_nil ?_
      refine then_normal ?_
      refine wp_cond_false (st.at_ 14) ?_
      refine wp_skip ?_
      refine then_normal ?_
      refine wp_seq ?_
      have st := st.to (ks' := [(1, Fact.cell b1 (Con.fr k x)), (3, Fact.eq (.string (ofB (([45]) ++ (Nm.dec (Rt.tp x)))))), (14, fF)]) (fcs ⟨st.at_ 1, fcs ⟨st.at_ 3, fcs ⟨st.at_ 14, fnl⟩⟩⟩)
      refine sym_region st [(16, Fact.eq (.string (ofB (([45]) ++ (Nm.dec (Rt.tp x)))))), (17, Fact.eq (.string (ofB ((([45]) ++ (Nm.dec (Rt.tp x))) ++ ([47]))))), (18, Fact.ptr (Con.nn k (Rat.den x))), (19, Fact.agg (Con.nn k (Rat.den x))), (20, Fact.eq (.string (ofB (Nm.dec (Rat.den x))))), (21, Fact.eq (.string (ofB (((([45]) ++ (Nm.dec (Rt.tp x))) ++ ([47])) ++ (Nm.dec (Rat.den x)))))), (2, Fact.eq (.string (ofB (((([45]) ++ (Nm.dec (Rt.tp x))) ++ ([47])) ++ (Nm.dec (Rat.den x))))))] [] 7 (by kernel_rfl) (by kernel_rfl) (by kernel_rfl) (Nat.le_of_ble_eq_true rfl) (by kernel_rfl) rfl rfl ?_ ?_
      · refine fcn (ob_copy 3 16 (.inl rfl) rfl (.inl rfl) (by kernel_rfl) rfl) ?_
        refine fcn (ob_catc 16 17 (([45]) ++ (Nm.dec (Rt.tp x))) ([47]) _ rfl (by simp only [List.length_append, List.length_cons, List.length_nil]; omega) rfl rfl (.inl rfl) (by kernel_rfl) rfl rfl) ?_
        refine fcn (ob_addr 26 2 1 18 2 (Con.fr k x) (Con.nn k (Rat.den x)) rfl rfl (.inl rfl) (by kernel_rfl) points_cell rfl (Con.fr_den k x) field26_2) ?_
        refine fcn (ob_read 24 18 19 (Con.nn k (Rat.den x)) rfl rfl (.inl rfl) (by kernel_rfl) points_ptr rfl row24 info24) ?_
        refine fcn (ob_call1 73 19 20 _ rfl rfl (.inl rfl) (by kernel_rfl) (by kernel_rfl) (r_format k (Rat.den x))) ?_
        refine fcn (ob_cat 17 20 21 ((([45]) ++ (Nm.dec (Rt.tp x))) ++ ([47])) (Nm.dec (Rat.den x)) (by simp only [List.length_append, List.length_cons, List.length_nil]; omega) rfl rfl (.inl rfl) (by kernel_rfl) (by kernel_rfl) rfl rfl rfl) ?_
        refine fcn (ob_copy 21 2 (.inr rfl) rfl (.inl rfl) (by kernel_rfl) rfl) ?_
        exact fnl
      intro a9 w9 st9 hbr9 hfr
      have hs9 := hbr9.size
      have hb := up hb hbr9
      have st : St 22 [(2, Fact.eq (.string (ofB (((([45]) ++ (Nm.dec (Rt.tp x))) ++ ([47])) ++ (Nm.dec (Rat.den x))))))] a9 w9 := st9.to (fcs ⟨st9.at_ 2, fnl⟩)
      clear st9 hbr9 hfr
      refine wpList_nil ?_
      refine then_normal ?_
      refine wp_ret ?_
      exact sym_ret1 rfl st.defers (resAt_tmp st 2) hb (fun _ h => by rw [show fmt x = (([45] ++ Nm.dec (Rt.tp x)) ++ [47]) ++ Nm.dec x.den from by unfold fmt; rw [hng, hd1]; rfl]; exact h)
    | true =>
      refine sym_calls 22 [(0, Fact.agg (Con.fr k x))] Tryz.func36 rfl rfl (Nat.le_of_ble_eq_true rfl) (fcs ⟨⟨Nat.le_of_ble_eq_true rfl, hv0⟩, fnl⟩) fun a st => ?_
      have hb := Below.refl w.heap.size w
      refine wp_seq ?_
      refine sym_region st [(1, Fact.var' (Con.fr k x)), (2, Fact.eq (.string (ofB ([]))))] [1] 2 (by kernel_rfl) (by kernel_rfl) (by kernel_rfl) (Nat.le_of_ble_eq_true rfl) (by kernel_rfl) rfl rfl ?_ ?_
      · refine fcs ⟨obn_box 26 0 1 _ (Con.fr k x) rfl rfl rfl (by kernel_rfl) rfl rfl, ?_⟩
        refine fcn (ob_const (.string ⟨#[]⟩) 2 (.inr rfl) rfl (.inl rfl) rfl) ?_
        exact fnl
      intro a1 w1 st1 hbr1 hfr
      have hs1 := hbr1.size
      have hb := up hb hbr1
      obtain ⟨b1, c1⟩ := (show (Fact.var' (Con.fr k x)).holds _ _ from st1.at_ 1)
      have g1 := hfr.ge (s := 1) rfl c1.1
      have st : St 22 [(1, Fact.cell b1 (Con.fr k x)), (2, Fact.eq (.string (ofB ([]))))] a1 w1 := st1.to (fcs ⟨c1, fcs ⟨st1.at_ 2, fnl⟩⟩)
      clear st1 hbr1 hfr c1
      refine wpList_nil ?_
      refine then_normal ?_
      refine wp_seq ?_
      refine sym_region st [(4, Fact.ptr (Con.nn k (Rt.tp x))), (5, Fact.agg (Con.nn k (Rt.tp x))), (6, Fact.eq (.string (ofB (Nm.dec (Rt.tp x))))), (3, Fact.eq (.string (ofB (Nm.dec (Rt.tp x)))))] [] 4 (by kernel_rfl) (by kernel_rfl) (by kernel_rfl) (Nat.le_of_ble_eq_true rfl) (by kernel_rfl) rfl rfl ?_ ?_
      · refine fcn (ob_addr 26 1 1 4 1 (Con.fr k x) (Con.nn k (Rt.tp x)) rfl rfl (.inl rfl) (by kernel_rfl) points_cell rfl (Con.fr_tp k x) field26_1) ?_
        refine fcn (ob_read 24 4 5 (Con.nn k (Rt.tp x)) rfl rfl (.inl rfl) (by kernel_rfl) points_ptr rfl row24 info24) ?_
        refine fcn (ob_call1 73 5 6 _ rfl rfl (.inl rfl) (by kernel_rfl) (by kernel_rfl) (r_format k (Rt.tp x))) ?_
        refine fcn (ob_copy 6 3 (.inr rfl) rfl (.inl rfl) (by kernel_rfl) rfl) ?_
        exact fnl
      intro a2 w2 st2 hbr2 hfr
      have hs2 := hbr2.size
      have hb := up hb hbr2
      have st : St 22 [(1, Fact.cell b1 (Con.fr k x)), (2, Fact.eq (.string (ofB ([])))), (3, Fact.eq (.string (ofB (Nm.dec (Rt.tp x)))))] a2 w2 := st2.to (fcs ⟨st2.at_ 1, fcs ⟨st2.at_ 2, fcs ⟨st2.at_ 3, fnl⟩⟩⟩)
      clear st2 hbr2 hfr
      refine wpList_nil ?_
      refine then_normal ?_
      refine wp_seq ?_
      refine wp_seq ?_
      refine sym_region st [(7, Fact.ptr (Con.bool (Rt.ng x))), (8, fT)] [] 2 (by kernel_rfl) (by kernel_rfl) (by kernel_rfl) (Nat.le_of_ble_eq_true rfl) (by kernel_rfl) rfl rfl ?_ ?_
      · refine fcn (ob_addr 26 0 1 7 0 (Con.fr k x) (Con.bool (Rt.ng x)) rfl rfl (.inl rfl) (by kernel_rfl) points_cell rfl (Con.fr_ng k x) field26_0) ?_
        refine fcn (ob_readb 7 8 (Rt.ng x) true hng rfl rfl (.inl rfl) (by kernel_rfl) points_ptr rfl) ?_
        exact fnl
      intro a3 w3 st3 hbr3 hfr
      have hs3 := hbr3.size
      have hb := up hb hbr3
      have st : St 22 [(1, Fact.cell b1 (Con.fr k x)), (2, Fact.eq (.string (ofB ([])))), (3, Fact.eq (.string (ofB (Nm.dec (Rt.tp x))))), (8, fT)] a3 w3 := st3.to (fcs ⟨st3.at_ 1, fcs ⟨st3.at_ 2, fcs ⟨st3.at_ 3, fcs ⟨st3.at_ 8, fnl⟩⟩⟩⟩)
      clear st3 hbr3 hfr
      refine wpList_nil ?_
      refine then_normal ?_
      refine wp_cond_true (st.at_ 8) ?_
      refine wp_region_lit ?_
      refine sym_op st 9 (Fact.eq (.string (ofB (Nm.dec (Rt.tp x))))) rfl (Nat.le_of_ble_eq_true rfl) rfl rfl (by kernel_rfl) (ob_copy 3 9 (.inl rfl) rfl (.inl rfl) (by kernel_rfl) rfl) ?_
      clear st; intro a5 w5 hbr st; have hs5 := hbr.size; have hb := up hb hbr; clear hbr
      refine sym_op st 10 (Fact.eq (.string (ofB (([45]) ++ (Nm.dec (Rt.tp x)))))) rfl (Nat.le_of_ble_eq_true rfl) rfl rfl (by kernel_rfl) (ob_ccat 9 10 (Nm.dec (Rt.tp x)) ([45]) _ rfl (by simp only [List.length_cons, List.length_nil]; omega) rfl rfl (.inl rfl) (by kernel_rfl) rfl rfl) ?_
      clear st; intro a6 w6 hbr st; have hs6 := hbr.size; have hb := up hb hbr; clear hbr
      have st := st.to (ks' := [(1, Fact.cell b1 (Con.fr k x)), (2, Fact.eq (.string (ofB ([])))), (8, fT), (9, Fact.eq (.string (ofB (Nm.dec (Rt.tp x))))), (10, Fact.eq (.string (ofB (([45]) ++ (Nm.dec (Rt.tp x))))))]) (fcs ⟨st.at_ 1, fcs ⟨st.at_ 2, fcs ⟨st.at_ 8, fcs ⟨st.at_ 9, fcs ⟨st.at_ 10, fnl⟩⟩⟩⟩⟩)
      refine sym_op st 3 (Fact.eq (.string (ofB (([45]) ++ (Nm.dec (Rt.tp x)))))) rfl (Nat.le_of_ble_eq_true rfl) rfl rfl (by kernel_rfl) (ob_copy 10 3 (.inr rfl) rfl (.inl rfl) (by kernel_rfl) rfl) ?_
      clear st; intro a7 w7 hbr st; have hs7 := hbr.size; have hb := up hb hbr; clear hbr
      refine wpList_nil ?_
      refine then_normal ?_
      refine wp_seq ?_
      refine wp_seq ?_
      refine sym_region st [(11, Fact.ptr (Con.nn k (Rat.den x))), (12, Fact.agg (Con.nn k (Rat.den x))), (13, Fact.agg (Con.nn 1 1)), (14, fT)] [] 4 (by kernel_rfl) (by kernel_rfl) (by kernel_rfl) (Nat.le_of_ble_eq_true rfl) (by kernel_rfl) rfl rfl ?_ ?_
      · refine fcn (ob_addr 26 2 1 11 2 (Con.fr k x) (Con.nn k (Rat.den x)) rfl rfl (.inl rfl) (by kernel_rfl) points_cell rfl (Con.fr_den k x) field26_2) ?_
        refine fcn (ob_read 24 11 12 (Con.nn k (Rat.den x)) rfl rfl (.inl rfl) (by kernel_rfl) points_ptr rfl row24 info24) ?_
        refine fcn (ob_callc 47 _ 13 _ rfl rfl (.inl rfl) (by kernel_rfl) (r_ofc 1 1 (by decide) (by unfold Nm.Sz; decide))) ?_
        refine fcn (ob_call2 45 12 13 14 _ rfl rfl (.inl rfl) (by kernel_rfl) (by kernel_rfl) (by kernel_rfl) (r_same k 1 (Rat.den x) 1 true hd1)) ?_
        exact fnl
      intro a8 w8 st8 hbr8 hfr
      have hs8 := hbr8.size
      have hb := up hb hbr8
      have st : St 22 [(1, Fact.cell b1 (Con.fr k x)), (2, Fact.eq (.string (ofB ([])))), (3, Fact.eq (.string (ofB (([45]) ++ (Nm.dec (Rt.tp x)))))), (14, fT)] a8 w8 := st8.to (fcs ⟨st8.at_ 1, fcs ⟨st8.at_ 2, fcs ⟨st8.at_ 3, fcs ⟨st8.at_ 14, fnl⟩⟩⟩⟩)
      clear st8 hbr8 hfr
      refine wpList_nil ?_
      refine then_normal ?_
      refine wp_cond_true (st.at_ 14) ?_
      refine wp_seq ?_
      have st := st.to (ks' := [(1, Fact.cell b1 (Con.fr k x)), (3, Fact.eq (.string (ofB (([45]) ++ (Nm.dec (Rt.tp x)))))), (14, fT)]) (fcs ⟨st.at_ 1, fcs ⟨st.at_ 3, fcs ⟨st.at_ 14, fnl⟩⟩⟩)
      refine sym_region st [(15, Fact.eq (.string (ofB (([45]) ++ (Nm.dec (Rt.tp x)))))), (2, Fact.eq (.string (ofB (([45]) ++ (Nm.dec (Rt.tp x))))))] [] 2 (by kernel_rfl) (by kernel_rfl) (by kernel_rfl) (Nat.le_of_ble_eq_true rfl) (by kernel_rfl) rfl rfl ?_ ?_
      · refine fcn (ob_copy 3 15 (.inl rfl) rfl (.inl rfl) (by kernel_rfl) rfl) ?_
        refine fcn (ob_copy 15 2 (.inr rfl) rfl (.inl rfl) (by kernel_rfl) rfl) ?_
        exact fnl
      intro a9 w9 st9 hbr9 hfr
      have hs9 := hbr9.size
      have hb := up hb hbr9
      have st : St 22 [(1, Fact.cell b1 (Con.fr k x)), (3, Fact.eq (.string (ofB (([45]) ++ (Nm.dec (Rt.tp x)))))), (2, Fact.eq (.string (ofB (([45]) ++ (Nm.dec (Rt.tp x))))))] a9 w9 := st9.to (fcs ⟨st9.at_ 1, fcs ⟨st9.at_ 3, fcs ⟨st9.at_ 2, fnl⟩⟩⟩)
      clear st9 hbr9 hfr
      refine wpList_nil ?_
      refine then_normal ?_
      refine wp_ret ?_
      exact sym_ret1 rfl st.defers (resAt_tmp st 2) hb (fun _ h => by rw [show fmt x = [45] ++ Nm.dec (Rt.tp x) from by unfold fmt; rw [hng, hd1]; rfl]; exact h)
theorem wp_seq3 {P : Program} {x1 x2 x3 y : Code} {Q : Exit → Act → World → Prop} {M : Act → World → Prop} {a : Act} {w : World}
    (h1 : x1.wp P (Exit.then (fun a w => x2.wp P (Exit.then (fun a w => x3.wp P (fun e a w => e = .normal ∧ M a w) a w) Q) a w) Q) a w) (h2 : ∀ a w, M a w → y.wp P Q a w) : (x1.seq (x2.seq (x3.seq y))).wp P Q a w := by
  refine wp_seq (wp_mono h1 fun e a w h => ?_)
  cases e with
  | normal =>
    refine wp_seq (wp_mono h fun e a w h => ?_)
    cases e with
    | normal => exact wp_seq (wp_mono h fun e a w ⟨he, hm⟩ => by subst he; exact h2 a w hm)
    | _ => exact h
  | _ => exact h
theorem vldT_no0 {s : Bool} {p q : Nat} (h : s = true) (h0 : decide (p = 0) = true) : vldT s p q = false := by unfold vldT; rw [h, h0]; cases decide (q = 0) <;> rfl
theorem vldT_gcd {s : Bool} {p q : Nat} (h : (s && decide (p = 0)) = false) (hq : q ≠ 0) : vldT s p q = decide (Nat.gcd p q = 1) := by unfold vldT; rw [h, decide_eq_false hq]; rfl
theorem unsg_no {l : List Nat} (h : neg45 l = false) : unsg l = l := by unfold unsg; rw [h]; rfl
theorem unsg_yes {l : List Nat} (h : neg45 l = true) : unsg l = l.drop 1 := by unfold unsg; rw [h, if_pos rfl, List.drop_one]
theorem neg45_at {l : List Nat} (h : 0 < l.length) : (((l[0] : Nat) : Int) == 45) = neg45 l := by
  cases l with
  | nil => exact absurd h (by decide)
  | cons c l =>
    unfold neg45
    by_cases hc : c = 45
    · subst hc; rfl
    · show ((c : Int) == 45) = (some c == some 45)
      rw [beq_eq_false_iff_ne.2 (by omega), beq_eq_false_iff_ne.2 (by simpa using hc)]
theorem neg45_nil {l : List Nat} (h : l.length = 0) : neg45 l = false := by rw [List.eq_nil_of_length_eq_zero h]; rfl
theorem ref_small {q : Nat} (h : decide (cmpI q 1 ≤ 0) = true) (h1 : q ≠ 1) : q = 0 := by
  have := of_decide_eq_true h
  unfold cmpI at this
  split at this
  · omega
  · split at this <;> omega
theorem ref_big {q : Nat} (h : decide (cmpI q 1 ≤ 0) = false) : 1 < q := by
  have := of_decide_eq_false h
  unfold cmpI at this
  split at this
  · omega
  · split at this <;> omega
theorem not_gcd {p q : Nat} (h : (!decide (Nat.gcd p q = 1)) = true) : decide (Nat.gcd p q = 1) = false := by simpa using h
theorem yes_gcd {p q : Nat} (h : (!decide (Nat.gcd p q = 1)) = false) : decide (Nat.gcd p q = 1) = true := by simpa using h
theorem vldT_q0 (s : Bool) (p : Nat) : vldT s p 0 = false := rfl
theorem nos_succ {u : List Nat} {j : Nat} (h : NoS u j) (hj : j < u.length) (hc : ¬ u[j] = 47) : NoS u (j + 1) := fun i hi => by
  rcases Nat.lt_or_ge i j with h1 | h1
  · exact h i h1
  · obtain rfl : i = j := by omega
    rw [List.getElem?_eq_getElem hj]
    exact fun e => hc (by injection e)
set_option maxRecDepth 100000 in
theorem z_parse (l : List Nat) (h : Byt l) (hs : l.length ≤ 1000000) : ∀ v0 w, (Fact.eq (.string (ofB l))).holds v0 w → Calls Tryz.prog 34 #[v0] w (Ret (PR l) w) := by
  intro v0 w hv0
  have hsu : (unsg l).length ≤ 1000000 := Nat.le_trans (unsg_len l) hs
  have hsb : (bef (unsg l)).length ≤ 1000000 := Nat.le_trans (bef_len _) hsu
  have hsa : (aft (unsg l)).length ≤ 1000000 := Nat.le_trans (aft_len _) hsu
  refine sym_calls 83 [(0, Fact.eq (.string (ofB l)))] Tryz.func34 rfl rfl (Nat.le_of_ble_eq_true rfl) (fcs ⟨⟨Nat.le_of_ble_eq_true rfl, hv0⟩, fnl⟩) fun a st => ?_
  have hb := Below.refl w.heap.size w
  refine wp_seq ?_
  refine sym_region st [(2, Fact.var' (Con.raw 3)), (3, fI 0)] [2] 2 (by kernel_rfl) (by kernel_rfl) (by kernel_rfl) (Nat.le_of_ble_eq_true rfl) (by kernel_rfl) rfl rfl ?_ ?_
  · refine fcs ⟨obn_new 26 2 _ [.bool false, .slice none 0 0, .slice none 0 0] rfl rfl rfl rfl rfl alloc26, ?_⟩
    refine fcn (ob_const (.int .i64 0) 3 (.inr rfl) rfl (.inl rfl) rfl) ?_
    exact fnl
  intro a1 w1 st1 hbr1 hfr
  have hs1 := hbr1.size
  have hb := up hb hbr1
  obtain ⟨b2, c2⟩ := (show (Fact.var' (Con.raw 3)).holds _ _ from st1.at_ 2)
  have g2 := hfr.ge (s := 2) rfl c2.1
  have st : St 83 [(0, Fact.eq (.string (ofB l))), (2, Fact.cell b2 (Con.raw 3)), (3, fI 0)] a1 w1 := st1.to (fcs ⟨st1.at_ 0, fcs ⟨c2, fcs ⟨st1.at_ 3, fnl⟩⟩⟩)
  clear st1 hbr1 hfr c2
  refine wpList_nil ?_
  refine then_normal ?_
  refine wp_seq3 (M := fun a w1 => St 83 [(0, Fact.eq (.string (ofB (unsg l)))), (2, Fact.cell b2 (Con.raw 3)), (3, fI 0), (4, Fact.eq (.bool (neg45 l))), (5, fI 0)] a w1 ∧ Below w.heap.size w w1) ?_ ?_
  · rcases Nat.eq_zero_or_pos l.length with h0 | hpos
    · have hlp : decide ((l.length : Int) > 0) = false := decide_eq_false (by omega)
      have hneg := neg45_nil h0
      have hun := unsg_no hneg
      refine sym_region st [(9, Fact.eq (.string (ofB l))), (10, fI ((l).length : Int)), (11, fF), (12, fF), (13, Fact.eq undef), (14, Fact.eq undef), (15, Fact.eq undef), (16, fF), (4, fF)] [] 9 (by kernel_rfl) (by kernel_rfl) (by kernel_rfl) (Nat.le_of_ble_eq_true rfl) (by kernel_rfl) rfl rfl ?_ ?_
      · refine fcn (ob_copy 0 9 (.inl rfl) rfl (.inl rfl) (by kernel_rfl) rfl) ?_
        refine fcn (ob_strlen 9 10 l rfl rfl (.inl rfl) (by kernel_rfl) rfl rfl) ?_
        refine fcn (ob_gtc 10 11 .i64 3 _ ((l).length : Int) 0 false hlp rfl rfl (.inl rfl) (by kernel_rfl) rfl rfl) ?_
        refine fcn (ob_copy 11 12 (.inl rfl) rfl (.inl rfl) (by kernel_rfl) rfl) ?_
        refine fcn (ob_skip 3 12 13 true rfl rfl (by kernel_rfl) (by decide) rfl rfl rfl) ?_
        refine fcn (ob_skip 3 12 14 true rfl rfl (by kernel_rfl) (by decide) rfl rfl rfl) ?_
        refine fcn (ob_skip 3 12 15 true rfl rfl (by kernel_rfl) (by decide) rfl rfl rfl) ?_
        refine fcn (ob_pick_no 12 15 16 (.bool false) rfl rfl (.inl rfl) (by kernel_rfl) rfl rfl) ?_
        refine fcn (ob_copy 16 4 (.inr rfl) rfl (.inl rfl) (by kernel_rfl) rfl) ?_
        exact fnl
      intro a2 w2 st2 hbr2 hfr
      have hs2 := hbr2.size
      have hb := up hb hbr2
      have st : St 83 [(0, Fact.eq (.string (ofB l))), (2, Fact.cell b2 (Con.raw 3)), (3, fI 0), (4, fF)] a2 w2 := st2.to (fcs ⟨st2.at_ 0, fcs ⟨st2.at_ 2, fcs ⟨st2.at_ 3, fcs ⟨st2.at_ 4, fnl⟩⟩⟩⟩)
      clear st2 hbr2 hfr
      refine wpList_nil ?_
      refine then_normal ?_
      refine wp_seq ?_
      refine sym_region st [(17, fF)] [] 1 (by kernel_rfl) (by kernel_rfl) (by kernel_rfl) (Nat.le_of_ble_eq_true rfl) (by kernel_rfl) rfl rfl ?_ ?_
      · refine fcn (ob_copy 4 17 (.inl rfl) rfl (.inl rfl) (by kernel_rfl) rfl) ?_
        exact fnl
      intro a3 w3 st3 hbr3 hfr
      have hs3 := hbr3.size
      have hb := up hb hbr3
      have st : St 83 [(0, Fact.eq (.string (ofB l))), (2, Fact.cell b2 (Con.raw 3)), (3, fI 0), (4, fF), (17, fF)] a3 w3 := st3.to (fcs ⟨st3.at_ 0, fcs ⟨st3.at_ 2, fcs ⟨st3.at_ 3, fcs ⟨st3.at_ 4, fcs ⟨st3.at_ 17, fnl⟩⟩⟩⟩⟩)
      clear st3 hbr3 hfr
      refine wpList_nil ?_
      refine then_normal ?_
      refine wp_cond_false (st.at_ 17) ?_
      refine wp_skip ?_
      refine then_normal ?_
      refine sym_region st [(5, fI 0)] [] 1 (by kernel_rfl) (by kernel_rfl) (by kernel_rfl) (Nat.le_of_ble_eq_true rfl) (by kernel_rfl) rfl rfl ?_ ?_
      · refine fcn (ob_const (.int .i64 0) 5 (.inr rfl) rfl (.inl rfl) rfl) ?_
        exact fnl
      intro a4 w4 st4 hbr4 hfr
      have hs4 := hbr4.size
      have hb := up hb hbr4
      have st : St 83 [(0, Fact.eq (.string (ofB l))), (2, Fact.cell b2 (Con.raw 3)), (3, fI 0), (4, fF), (5, fI 0)] a4 w4 := st4.to (fcs ⟨st4.at_ 0, fcs ⟨st4.at_ 2, fcs ⟨st4.at_ 3, fcs ⟨st4.at_ 4, fcs ⟨st4.at_ 5, fnl⟩⟩⟩⟩⟩)
      clear st4 hbr4 hfr
      refine wpList_nil ?_
      exact ⟨rfl, st.to (fcs ⟨(by rw [hun]; exact st.at_ 0), fcs ⟨st.at_ 2, fcs ⟨st.at_ 3, fcs ⟨(by rw [hneg]; exact st.at_ 4), fcs ⟨st.at_ 5, fnl⟩⟩⟩⟩⟩), hb⟩
    · have hlp : decide ((l.length : Int) > 0) = true := decide_eq_true (by omega)
      cases hneg : neg45 l with
      | false =>
        have hl0 := (neg45_at hpos).trans hneg
        have hun := unsg_no hneg
        refine sym_region st [(9, Fact.eq (.string (ofB l))), (10, fI ((l).length : Int)), (11, fT), (12, fT), (13, Fact.eq (.string (ofB l))), (14, Fact.eq (.int .u8 (((l[0]'hpos : Nat)) : Int))), (15, fF), (16, fF), (4, fF)] [] 9 (by kernel_rfl) (by kernel_rfl) (by kernel_rfl) (Nat.le_of_ble_eq_true rfl) (by kernel_rfl) rfl rfl ?_ ?_
        · refine fcn (ob_copy 0 9 (.inl rfl) rfl (.inl rfl) (by kernel_rfl) rfl) ?_
          refine fcn (ob_strlen 9 10 l rfl rfl (.inl rfl) (by kernel_rfl) rfl rfl) ?_
          refine fcn (ob_gtc 10 11 .i64 3 _ ((l).length : Int) 0 true hlp rfl rfl (.inl rfl) (by kernel_rfl) rfl rfl) ?_
          refine fcn (ob_copy 11 12 (.inl rfl) rfl (.inl rfl) (by kernel_rfl) rfl) ?_
          refine fcn (ob_copy 0 13 (.inl rfl) rfl (.inr ⟨_, _, _, rfl, rfl, by kernel_rfl, by decide, rfl⟩) (by kernel_rfl) rfl) ?_
          refine fcn (ob_strindexc 13 14 l h hpos rfl rfl (.inr ⟨_, _, _, rfl, rfl, by kernel_rfl, by decide, rfl⟩) (by kernel_rfl) rfl rfl) ?_
          refine fcn (ob_eqc 14 15 .u8 5 _ (((l[0]'hpos : Nat)) : Int) 45 false hl0 rfl rfl (.inr ⟨_, _, _, rfl, rfl, by kernel_rfl, by decide, rfl⟩) (by kernel_rfl) rfl rfl) ?_
          refine fcn (ob_pick 12 15 16 _ rfl rfl (.inl rfl) (by kernel_rfl) (by kernel_rfl) rfl rfl) ?_
          refine fcn (ob_copy 16 4 (.inr rfl) rfl (.inl rfl) (by kernel_rfl) rfl) ?_
          exact fnl
        intro a5 w5 st5 hbr5 hfr
        have hs5 := hbr5.size
        have hb := up hb hbr5
        have st : St 83 [(0, Fact.eq (.string (ofB l))), (2, Fact.cell b2 (Con.raw 3)), (3, fI 0), (4, fF)] a5 w5 := st5.to (fcs ⟨st5.at_ 0, fcs ⟨st5.at_ 2, fcs ⟨st5.at_ 3, fcs ⟨st5.at_ 4, fnl⟩⟩⟩⟩)
        clear st5 hbr5 hfr
        refine wpList_nil ?_
        refine then_normal ?_
        refine wp_seq ?_
        refine sym_region st [(17, fF)] [] 1 (by kernel_rfl) (by kernel_rfl) (by kernel_rfl) (Nat.le_of_ble_eq_true rfl) (by kernel_rfl) rfl rfl ?_ ?_
        · refine fcn (ob_copy 4 17 (.inl rfl) rfl (.inl rfl) (by kernel_rfl) rfl) ?_
          exact fnl
        intro a6 w6 st6 hbr6 hfr
        have hs6 := hbr6.size
        have hb := up hb hbr6
        have st : St 83 [(0, Fact.eq (.string (ofB l))), (2, Fact.cell b2 (Con.raw 3)), (3, fI 0), (4, fF), (17, fF)] a6 w6 := st6.to (fcs ⟨st6.at_ 0, fcs ⟨st6.at_ 2, fcs ⟨st6.at_ 3, fcs ⟨st6.at_ 4, fcs ⟨st6.at_ 17, fnl⟩⟩⟩⟩⟩)
        clear st6 hbr6 hfr
        refine wpList_nil ?_
        refine then_normal ?_
        refine wp_cond_false (st.at_ 17) ?_
        refine wp_skip ?_
        refine then_normal ?_
        refine sym_region st [(5, fI 0)] [] 1 (by kernel_rfl) (by kernel_rfl) (by kernel_rfl) (Nat.le_of_ble_eq_true rfl) (by kernel_rfl) rfl rfl ?_ ?_
        · refine fcn (ob_const (.int .i64 0) 5 (.inr rfl) rfl (.inl rfl) rfl) ?_
          exact fnl
        intro a7 w7 st7 hbr7 hfr
        have hs7 := hbr7.size
        have hb := up hb hbr7
        have st : St 83 [(0, Fact.eq (.string (ofB l))), (2, Fact.cell b2 (Con.raw 3)), (3, fI 0), (4, fF), (5, fI 0)] a7 w7 := st7.to (fcs ⟨st7.at_ 0, fcs ⟨st7.at_ 2, fcs ⟨st7.at_ 3, fcs ⟨st7.at_ 4, fcs ⟨st7.at_ 5, fnl⟩⟩⟩⟩⟩)
        clear st7 hbr7 hfr
        refine wpList_nil ?_
        exact ⟨rfl, st.to (fcs ⟨(by rw [hun]; exact st.at_ 0), fcs ⟨st.at_ 2, fcs ⟨st.at_ 3, fcs ⟨st.at_ 4, fcs ⟨st.at_ 5, fnl⟩⟩⟩⟩⟩), hb⟩
      | true =>
        have hl0 := (neg45_at hpos).trans hneg
        have hun := unsg_yes hneg
        refine sym_region st [(9, Fact.eq (.string (ofB l))), (10, fI ((l).length : Int)), (11, fT), (12, fT), (13, Fact.eq (.string (ofB l))), (14, Fact.eq (.int .u8 (((l[0]'hpos : Nat)) : Int))), (15, fT), (16, fT), (4, fT)] [] 9 (by kernel_rfl) (by kernel_rfl) (by kernel_rfl) (Nat.le_of_ble_eq_true rfl) (by kernel_rfl) rfl rfl ?_ ?_
        · refine fcn (ob_copy 0 9 (.inl rfl) rfl (.inl rfl) (by kernel_rfl) rfl) ?_
          refine fcn (ob_strlen 9 10 l rfl rfl (.inl rfl) (by kernel_rfl) rfl rfl) ?_
          refine fcn (ob_gtc 10 11 .i64 3 _ ((l).length : Int) 0 true hlp rfl rfl (.inl rfl) (by kernel_rfl) rfl rfl) ?_
          refine fcn (ob_copy 11 12 (.inl rfl) rfl (.inl rfl) (by kernel_rfl) rfl) ?_
          refine fcn (ob_copy 0 13 (.inl rfl) rfl (.inr ⟨_, _, _, rfl, rfl, by kernel_rfl, by decide, rfl⟩) (by kernel_rfl) rfl) ?_
          refine fcn (ob_strindexc 13 14 l h hpos rfl rfl (.inr ⟨_, _, _, rfl, rfl, by kernel_rfl, by decide, rfl⟩) (by kernel_rfl) rfl rfl) ?_
          refine fcn (ob_eqc 14 15 .u8 5 _ (((l[0]'hpos : Nat)) : Int) 45 true hl0 rfl rfl (.inr ⟨_, _, _, rfl, rfl, by kernel_rfl, by decide, rfl⟩) (by kernel_rfl) rfl rfl) ?_
          refine fcn (ob_pick 12 15 16 _ rfl rfl (.inl rfl) (by kernel_rfl) (by kernel_rfl) rfl rfl) ?_
          refine fcn (ob_copy 16 4 (.inr rfl) rfl (.inl rfl) (by kernel_rfl) rfl) ?_
          exact fnl
        intro a8 w8 st8 hbr8 hfr
        have hs8 := hbr8.size
        have hb := up hb hbr8
        have st : St 83 [(0, Fact.eq (.string (ofB l))), (2, Fact.cell b2 (Con.raw 3)), (3, fI 0), (4, fT)] a8 w8 := st8.to (fcs ⟨st8.at_ 0, fcs ⟨st8.at_ 2, fcs ⟨st8.at_ 3, fcs ⟨st8.at_ 4, fnl⟩⟩⟩⟩)
        clear st8 hbr8 hfr
        refine wpList_nil ?_
        refine then_normal ?_
        refine wp_seq ?_
        refine sym_region st [(17, fT)] [] 1 (by kernel_rfl) (by kernel_rfl) (by kernel_rfl) (Nat.le_of_ble_eq_true rfl) (by kernel_rfl) rfl rfl ?_ ?_
        · refine fcn (ob_copy 4 17 (.inl rfl) rfl (.inl rfl) (by kernel_rfl) rfl) ?_
          exact fnl
        intro a9 w9 st9 hbr9 hfr
        have hs9 := hbr9.size
        have hb := up hb hbr9
        have st : St 83 [(0, Fact.eq (.string (ofB l))), (2, Fact.cell b2 (Con.raw 3)), (3, fI 0), (4, fT), (17, fT)] a9 w9 := st9.to (fcs ⟨st9.at_ 0, fcs ⟨st9.at_ 2, fcs ⟨st9.at_ 3, fcs ⟨st9.at_ 4, fcs ⟨st9.at_ 17, fnl⟩⟩⟩⟩⟩)
        clear st9 hbr9 hfr
        refine wpList_nil ?_
        refine then_normal ?_
        refine wp_cond_true (st.at_ 17) ?_
        refine wp_region_lit ?_
        refine sym_op st 18 (Fact.eq (.string (ofB l))) rfl (Nat.le_of_ble_eq_true rfl) rfl rfl (by kernel_rfl) (ob_copy 0 18 (.inl rfl) rfl (.inl rfl) (by kernel_rfl) rfl) ?_
        clear st; intro a11 w11 hbr st; have hs11 := hbr.size; have hb := up hb hbr; clear hbr
        refine sym_op st 19 (Fact.eq (.string (ofB (unsg l)))) rfl (Nat.le_of_ble_eq_true rfl) rfl rfl (by kernel_rfl) (ob_strfrom1 18 19 l h hpos hs rfl rfl (.inl rfl) (by kernel_rfl) rfl (congrArg (fun z => Fact.eq (.string (ofB z))) hun)) ?_
        clear st; intro a12 w12 hbr st; have hs12 := hbr.size; have hb := up hb hbr; clear hbr
        have st := st.to (ks' := [(2, Fact.cell b2 (Con.raw 3)), (3, fI 0), (4, fT), (17, fT), (18, Fact.eq (.string (ofB l))), (19, Fact.eq (.string (ofB (unsg l))))]) (fcs ⟨st.at_ 2, fcs ⟨st.at_ 3, fcs ⟨st.at_ 4, fcs ⟨st.at_ 17, fcs ⟨st.at_ 18, fcs ⟨st.at_ 19, fnl⟩⟩⟩⟩⟩⟩)
        refine sym_op st 0 (Fact.eq (.string (ofB (unsg l)))) rfl (Nat.le_of_ble_eq_true rfl) rfl rfl (by kernel_rfl) (ob_copy 19 0 (.inr rfl) rfl (.inl rfl) (by kernel_rfl) rfl) ?_
        clear st; intro a13 w13 hbr st; have hs13 := hbr.size; have hb := up hb hbr; clear hbr
        refine wpList_nil ?_
        refine then_normal ?_
        refine sym_region st [(5, fI 0)] [] 1 (by kernel_rfl) (by kernel_rfl) (by kernel_rfl) (Nat.le_of_ble_eq_true rfl) (by kernel_rfl) rfl rfl ?_ ?_
        · refine fcn (ob_const (.int .i64 0) 5 (.inr rfl) rfl (.inl rfl) rfl) ?_
          exact fnl
        intro a14 w14 st14 hbr14 hfr
        have hs14 := hbr14.size
        have hb := up hb hbr14
        have st : St 83 [(2, Fact.cell b2 (Con.raw 3)), (3, fI 0), (4, fT), (0, Fact.eq (.string (ofB (unsg l)))), (5, fI 0)] a14 w14 := st14.to (fcs ⟨st14.at_ 2, fcs ⟨st14.at_ 3, fcs ⟨st14.at_ 4, fcs ⟨st14.at_ 0, fcs ⟨st14.at_ 5, fnl⟩⟩⟩⟩⟩)
        clear st14 hbr14 hfr
        refine wpList_nil ?_
        exact ⟨rfl, st.to (fcs ⟨st.at_ 0, fcs ⟨st.at_ 2, fcs ⟨st.at_ 3, fcs ⟨st.at_ 4, fcs ⟨st.at_ 5, fnl⟩⟩⟩⟩⟩), hb⟩
  · clear st hb
    rintro a w15 ⟨st, hb⟩
    have hs0 := hb.size
    have l2_15 := (show (Fact.cell b2 (Con.raw 3)).holds _ _ from st.at_ 2).2.1.lt
    refine wp_seq ?_
    refine wp_block ?_
    refine wp_loop_ghost (fun n a w0 => ∃ (j : Nat), (j ≤ (unsg l).length) ∧ (NoS (unsg l) j) ∧ St 83 [(0, Fact.eq (.string (ofB (unsg l)))), (2, Fact.cell b2 (Con.raw 3)), (3, fI 0), (4, Fact.eq (.bool (neg45 l))), (5, fI ((j : Nat) : Int))] a w0 ∧ Below w.heap.size w w0 ∧ (unsg l).length - j = n) ((unsg l).length - 0) ⟨0, Nat.zero_le _, fun i hi => absurd hi (Nat.not_lt_zero i), st.to (fcs ⟨st.at_ 0, fcs ⟨st.at_ 2, fcs ⟨st.at_ 3, fcs ⟨st.at_ 4, fcs ⟨st.at_ 5, fnl⟩⟩⟩⟩⟩), hb, rfl⟩ ?_
    clear st hb
    rintro n a w16 ⟨j, hjl, hns, st, hb, rfl⟩
    have hs0 := hb.size
    have l2_16 := (show (Fact.cell b2 (Con.raw 3)).holds _ _ from st.at_ 2).2.1.lt
    rcases Nat.lt_or_ge j (unsg l).length with hj | hj
    · have hlt := decide_eq_true (Int.ofNat_lt.2 hj)
      by_cases hc : (unsg l)[j] = 47
      · have hat : ((((unsg l)[j]'hj : Nat) : Int) != 47) = false := by rw [hc]; rfl
        obtain ⟨eb, ea, es⟩ := bef_at hjl hns (.inr (by rw [List.getElem?_eq_getElem hj, hc]))
        have hsl : sls (unsg l) = true := by rw [es]; exact decide_eq_true hj
        refine wp_seq ?_
        refine wp_seq ?_
        refine sym_region st [(20, fI ((j : Nat) : Int)), (21, Fact.eq (.string (ofB (unsg l)))), (22, fI ((unsg l).length : Int)), (23, fT), (24, fT), (25, Fact.eq (.string (ofB (unsg l)))), (26, fI ((j : Nat) : Int)), (27, Fact.eq (.int .u8 (((unsg l)[j]'hj : Nat) : Int))), (28, fF), (29, fF)] [] 10 (by kernel_rfl) (by kernel_rfl) (by kernel_rfl) (Nat.le_of_ble_eq_true rfl) (by kernel_rfl) rfl rfl ?_ ?_
        · refine fcn (ob_copy 5 20 (.inl rfl) rfl (.inl rfl) (by kernel_rfl) rfl) ?_
          refine fcn (ob_copy 0 21 (.inl rfl) rfl (.inl rfl) (by kernel_rfl) rfl) ?_
          refine fcn (ob_strlen 21 22 (unsg l) rfl rfl (.inl rfl) (by kernel_rfl) rfl rfl) ?_
          refine fcn (ob_lt2 20 22 23 .i64 _ _ ((j : Nat) : Int) ((unsg l).length : Int) true hlt rfl rfl (.inl rfl) (by kernel_rfl) (by kernel_rfl) rfl rfl rfl) ?_
          refine fcn (ob_copy 23 24 (.inl rfl) rfl (.inl rfl) (by kernel_rfl) rfl) ?_
          refine fcn (ob_copy 0 25 (.inl rfl) rfl (.inr ⟨_, _, _, rfl, rfl, by kernel_rfl, by decide, rfl⟩) (by kernel_rfl) rfl) ?_
          refine fcn (ob_copy 5 26 (.inl rfl) rfl (.inr ⟨_, _, _, rfl, rfl, by kernel_rfl, by decide, rfl⟩) (by kernel_rfl) rfl) ?_
          refine fcn (ob_strindex 25 26 27 j (unsg l) _ rfl h.unsg hj rfl rfl (.inr ⟨_, _, _, rfl, rfl, by kernel_rfl, by decide, rfl⟩) (by kernel_rfl) (by kernel_rfl) rfl rfl rfl) ?_
          refine fcn (ob_nec 27 28 .u8 5 _ (((unsg l)[j]'hj : Nat) : Int) 47 false hat rfl rfl (.inr ⟨_, _, _, rfl, rfl, by kernel_rfl, by decide, rfl⟩) (by kernel_rfl) rfl rfl) ?_
          refine fcn (ob_pick 24 28 29 _ rfl rfl (.inl rfl) (by kernel_rfl) (by kernel_rfl) rfl rfl) ?_
          exact fnl
        intro a17 w17 st17 hbr17 hfr
        have hs17 := hbr17.size
        have hb := up hb hbr17
        have st : St 83 [(0, Fact.eq (.string (ofB (unsg l)))), (2, Fact.cell b2 (Con.raw 3)), (3, fI 0), (4, Fact.eq (.bool (neg45 l))), (5, fI ((j : Nat) : Int)), (29, fF)] a17 w17 := st17.to (fcs ⟨st17.at_ 0, fcs ⟨st17.at_ 2, fcs ⟨st17.at_ 3, fcs ⟨st17.at_ 4, fcs ⟨st17.at_ 5, fcs ⟨st17.at_ 29, fnl⟩⟩⟩⟩⟩⟩)
        clear st17 hbr17 hfr
        refine wpList_nil ?_
        refine then_normal ?_
        refine wp_cond_false (st.at_ 29) ?_
        refine wp_exit ?_
        refine then_exit ?_
        refine then_exit ?_
        refine inBlock_exit ?_
        refine then_normal ?_
        refine wp_seq ?_
        refine sym_region st [(33, Fact.eq (.string (ofB (unsg l)))), (34, fI ((j : Nat) : Int)), (35, Fact.eq (.string (ofB (bef (unsg l))))), (36, Fact.two (Fact.agg (Con.nn 42 (pv (bef (unsg l))))) (fI (Nm.chk (bef (unsg l)) : Int))), (32, Fact.two (Fact.agg (Con.nn 42 (pv (bef (unsg l))))) (fI (Nm.chk (bef (unsg l)) : Int))), (37, Fact.agg (Con.nn 42 (pv (bef (unsg l))))), (38, fI (Nm.chk (bef (unsg l)) : Int)), (6, Fact.var' (Con.raw 1))] [6] 8 (by kernel_rfl) (by kernel_rfl) (by kernel_rfl) (Nat.le_of_ble_eq_true rfl) (by kernel_rfl) rfl rfl ?_ ?_
        · refine fcn (ob_copy 0 33 (.inl rfl) rfl (.inl rfl) (by kernel_rfl) rfl) ?_
          refine fcn (ob_copy 5 34 (.inl rfl) rfl (.inl rfl) (by kernel_rfl) rfl) ?_
          refine fcn (ob_strto 33 34 35 j (unsg l) h.unsg hjl hsu rfl rfl (.inl rfl) (by kernel_rfl) (by kernel_rfl) rfl rfl (congrArg (fun z => Fact.eq (.string (ofB z))) eb)) ?_
          refine fcn (ob_call1 71 35 36 _ rfl rfl (.inl rfl) (by kernel_rfl) (by kernel_rfl) (r_parse (bef (unsg l)) h.unsg.bef hsb)) ?_
          refine fcn (ob_copy 36 32 (.inl rfl) rfl (.inl rfl) (by kernel_rfl) rfl) ?_
          refine fcn (ob_fst 32 37 (Fact.agg (Con.nn 42 (pv (bef (unsg l))))) (fI (Nm.chk (bef (unsg l)) : Int)) rfl rfl (.inl rfl) (by kernel_rfl) rfl rfl) ?_
          refine fcn (ob_snd 32 38 (Fact.agg (Con.nn 42 (pv (bef (unsg l))))) (fI (Nm.chk (bef (unsg l)) : Int)) rfl rfl (.inl rfl) (by kernel_rfl) rfl rfl) ?_
          refine fcs ⟨obn_new 24 6 _ [.slice none 0 0] rfl rfl rfl rfl rfl alloc24, ?_⟩
          exact fnl
        intro a18 w18 st18 hbr18 hfr
        have hs18 := hbr18.size
        have hb := up hb hbr18
        obtain ⟨b6, c6⟩ := (show (Fact.var' (Con.raw 1)).holds _ _ from st18.at_ 6)
        have g6 := hfr.ge (s := 6) rfl c6.1
        have st : St 83 [(0, Fact.eq (.string (ofB (unsg l)))), (2, Fact.cell b2 (Con.raw 3)), (3, fI 0), (4, Fact.eq (.bool (neg45 l))), (5, fI ((j : Nat) : Int)), (37, Fact.agg (Con.nn 42 (pv (bef (unsg l))))), (38, fI (Nm.chk (bef (unsg l)) : Int)), (6, Fact.cell b6 (Con.raw 1))] a18 w18 := st18.to (fcs ⟨st18.at_ 0, fcs ⟨st18.at_ 2, fcs ⟨st18.at_ 3, fcs ⟨st18.at_ 4, fcs ⟨st18.at_ 5, fcs ⟨st18.at_ 37, fcs ⟨st18.at_ 38, fcs ⟨c6, fnl⟩⟩⟩⟩⟩⟩⟩⟩)
        clear st18 hbr18 hfr c6
        refine sym_store st 24 6 37 b6 (Con.raw 1) (Con.nn 42 (pv (bef (unsg l)))) [(0, Fact.eq (.string (ofB (unsg l)))), (2, Fact.cell b2 (Con.raw 3)), (3, fI 0), (4, Fact.eq (.bool (neg45 l))), (5, fI ((j : Nat) : Int)), (38, fI (Nm.chk (bef (unsg l)) : Int)), (6, Fact.cell b6 (Con.nn 42 (pv (bef (unsg l)))))] rfl rfl rfl rfl rfl rfl info24 ?_ ?_
        · exact fcs ⟨.inr ⟨rfl, safe_eq _ _⟩, fcs ⟨.inr ⟨rfl, safe_cell _ (by omega)⟩, fcs ⟨.inr ⟨rfl, safe_eq _ _⟩, fcs ⟨.inr ⟨rfl, safe_eq _ _⟩, fcs ⟨.inr ⟨rfl, safe_eq _ _⟩, fcs ⟨.inr ⟨rfl, safe_eq _ _⟩, fcs ⟨.inl rfl, fnl⟩⟩⟩⟩⟩⟩⟩
        clear st; intro w19 hB hsz19 st
        have hb := hB _ _ hb (by omega) (by omega)
        clear hB
        refine sym_op st 7 (fI (Nm.chk (bef (unsg l)) : Int)) rfl (Nat.le_of_ble_eq_true rfl) rfl rfl (by kernel_rfl) (ob_copy 38 7 (.inr rfl) rfl (.inl rfl) (by kernel_rfl) rfl) ?_
        clear st; intro a20 w20 hbr st; have hs20 := hbr.size; have hb := up hb hbr; clear hbr
        refine wpList_nil ?_
        refine then_normal ?_
        refine wp_seq ?_
        refine wp_seq ?_
        refine sym_region st [(39, fI (Nm.chk (bef (unsg l)) : Int)), (40, Fact.eq (.bool ((Nm.chk (bef (unsg l)) : Int) != 0)))] [] 2 (by kernel_rfl) (by kernel_rfl) (by kernel_rfl) (Nat.le_of_ble_eq_true rfl) (by kernel_rfl) rfl rfl ?_ ?_
        · refine fcn (ob_copy 7 39 (.inl rfl) rfl (.inl rfl) (by kernel_rfl) rfl) ?_
          refine fcn (ob_nec 39 40 .i64 33 _ (Nm.chk (bef (unsg l)) : Int) 0 ((Nm.chk (bef (unsg l)) : Int) != 0) rfl rfl rfl (.inl rfl) (by kernel_rfl) rfl rfl) ?_
          exact fnl
        intro a21 w21 st21 hbr21 hfr
        have hs21 := hbr21.size
        have hb := up hb hbr21
        have st : St 83 [(0, Fact.eq (.string (ofB (unsg l)))), (2, Fact.cell b2 (Con.raw 3)), (3, fI 0), (4, Fact.eq (.bool (neg45 l))), (5, fI ((j : Nat) : Int)), (6, Fact.cell b6 (Con.nn 42 (pv (bef (unsg l))))), (7, fI (Nm.chk (bef (unsg l)) : Int)), (40, Fact.eq (.bool ((Nm.chk (bef (unsg l)) : Int) != 0)))] a21 w21 := st21.to (fcs ⟨st21.at_ 0, fcs ⟨st21.at_ 2, fcs ⟨st21.at_ 3, fcs ⟨st21.at_ 4, fcs ⟨st21.at_ 5, fcs ⟨st21.at_ 6, fcs ⟨st21.at_ 7, fcs ⟨st21.at_ 40, fnl⟩⟩⟩⟩⟩⟩⟩⟩)
        clear st21 hbr21 hfr
        refine wpList_nil ?_
        refine then_normal ?_
        refine wp_cond_split (st.at_ 40) (fun h40 => ?_) (fun h40 => ?_)
        · skip
          refine wp_seq ?_
          have st := st.to (ks' := [(0, Fact.eq (.string (ofB (unsg l)))), (2, Fact.cell b2 (Con.raw 3)), (4, Fact.eq (.bool (neg45 l))), (5, fI ((j : Nat) : Int)), (6, Fact.cell b6 (Con.nn 42 (pv (bef (unsg l))))), (7, fI (Nm.chk (bef (unsg l)) : Int)), (40, Fact.eq (.bool ((Nm.chk (bef (unsg l)) : Int) != 0)))]) (fcs ⟨st.at_ 0, fcs ⟨st.at_ 2, fcs ⟨st.at_ 4, fcs ⟨st.at_ 5, fcs ⟨st.at_ 6, fcs ⟨st.at_ 7, fcs ⟨st.at_ 40, fnl⟩⟩⟩⟩⟩⟩⟩)
          refine sym_region st [(41, Fact.agg (Con.tri 1 1 false 0 0)), (42, fI (Nm.chk (bef (unsg l)) : Int))] [] 2 (by kernel_rfl) (by kernel_rfl) (by kernel_rfl) (Nat.le_of_ble_eq_true rfl) (by kernel_rfl) rfl rfl ?_ ?_
          · refine fcn (ob_buildzero 41 rfl rfl (.inl rfl) rfl) ?_
            refine fcn (ob_copy 7 42 (.inl rfl) rfl (.inl rfl) (by kernel_rfl) rfl) ?_
            exact fnl
          intro a22 w22 st22 hbr22 hfr
          have hs22 := hbr22.size
          have hb := up hb hbr22
          have st : St 83 [(0, Fact.eq (.string (ofB (unsg l)))), (2, Fact.cell b2 (Con.raw 3)), (4, Fact.eq (.bool (neg45 l))), (5, fI ((j : Nat) : Int)), (6, Fact.cell b6 (Con.nn 42 (pv (bef (unsg l))))), (7, fI (Nm.chk (bef (unsg l)) : Int)), (41, Fact.agg (Con.tri 1 1 false 0 0)), (42, fI (Nm.chk (bef (unsg l)) : Int))] a22 w22 := st22.to (fcs ⟨st22.at_ 0, fcs ⟨st22.at_ 2, fcs ⟨st22.at_ 4, fcs ⟨st22.at_ 5, fcs ⟨st22.at_ 6, fcs ⟨st22.at_ 7, fcs ⟨st22.at_ 41, fcs ⟨st22.at_ 42, fnl⟩⟩⟩⟩⟩⟩⟩⟩)
          clear st22 hbr22 hfr
          refine sym_store st 26 2 41 b2 (Con.raw 3) (Con.tri 1 1 false 0 0) [(0, Fact.eq (.string (ofB (unsg l)))), (2, Fact.cell b2 (Con.tri 1 1 false 0 0)), (4, Fact.eq (.bool (neg45 l))), (5, fI ((j : Nat) : Int)), (6, Fact.cell b6 (Con.nn 42 (pv (bef (unsg l))))), (7, fI (Nm.chk (bef (unsg l)) : Int)), (42, fI (Nm.chk (bef (unsg l)) : Int))] rfl rfl rfl rfl rfl rfl info26 ?_ ?_
          · exact fcs ⟨.inr ⟨rfl, safe_eq _ _⟩, fcs ⟨.inl rfl, fcs ⟨.inr ⟨rfl, safe_eq _ _⟩, fcs ⟨.inr ⟨rfl, safe_eq _ _⟩, fcs ⟨.inr ⟨rfl, safe_cell _ (by omega)⟩, fcs ⟨.inr ⟨rfl, safe_eq _ _⟩, fcs ⟨.inr ⟨rfl, safe_eq _ _⟩, fnl⟩⟩⟩⟩⟩⟩⟩
          clear st; intro w23 hB hsz23 st
          have hb := hB _ _ hb (by omega) (by omega)
          clear hB
          refine sym_op st 3 (fI (Nm.chk (bef (unsg l)) : Int)) rfl (Nat.le_of_ble_eq_true rfl) rfl rfl (by kernel_rfl) (ob_copy 42 3 (.inr rfl) rfl (.inl rfl) (by kernel_rfl) rfl) ?_
          clear st; intro a24 w24 hbr st; have hs24 := hbr.size; have hb := up hb hbr; clear hbr
          refine wpList_nil ?_
          refine then_normal ?_
          refine wp_ret ?_
          exact sym_ret2 rfl st.defers (resAt_cell st 2 b2 26 (Con.tri 1 1 false 0 0) rfl row26 info26) (resAt_tmp st 3) hb (by rw [PR_err (pe_e1 h40) (ne_of_bne h40)]; exact fun v u h1 h2 => ⟨v, u, rfl, h1, h2⟩)
        · skip
          refine wp_skip ?_
          refine then_normal ?_
          refine wp_seq ?_
          refine sym_region st [(43, Fact.agg (Con.nn 1 1)), (8, Fact.var' (Con.raw 1))] [8] 2 (by kernel_rfl) (by kernel_rfl) (by kernel_rfl) (Nat.le_of_ble_eq_true rfl) (by kernel_rfl) rfl rfl ?_ ?_
          · refine fcn (ob_callc 47 _ 43 _ rfl rfl (.inl rfl) (by kernel_rfl) (r_ofc 1 1 (by decide) (by unfold Nm.Sz; decide))) ?_
            refine fcs ⟨obn_new 24 8 _ [.slice none 0 0] rfl rfl rfl rfl rfl alloc24, ?_⟩
            exact fnl
          intro a25 w25 st25 hbr25 hfr
          have hs25 := hbr25.size
          have hb := up hb hbr25
          obtain ⟨b8, c8⟩ := (show (Fact.var' (Con.raw 1)).holds _ _ from st25.at_ 8)
          have g8 := hfr.ge (s := 8) rfl c8.1
          have st : St 83 [(0, Fact.eq (.string (ofB (unsg l)))), (2, Fact.cell b2 (Con.raw 3)), (3, fI 0), (4, Fact.eq (.bool (neg45 l))), (5, fI ((j : Nat) : Int)), (6, Fact.cell b6 (Con.nn 42 (pv (bef (unsg l))))), (7, fI (Nm.chk (bef (unsg l)) : Int)), (43, Fact.agg (Con.nn 1 1)), (8, Fact.cell b8 (Con.raw 1))] a25 w25 := st25.to (fcs ⟨st25.at_ 0, fcs ⟨st25.at_ 2, fcs ⟨st25.at_ 3, fcs ⟨st25.at_ 4, fcs ⟨st25.at_ 5, fcs ⟨st25.at_ 6, fcs ⟨st25.at_ 7, fcs ⟨st25.at_ 43, fcs ⟨c8, fnl⟩⟩⟩⟩⟩⟩⟩⟩⟩)
          clear st25 hbr25 hfr c8
          refine sym_store st 24 8 43 b8 (Con.raw 1) (Con.nn 1 1) [(0, Fact.eq (.string (ofB (unsg l)))), (2, Fact.cell b2 (Con.raw 3)), (3, fI 0), (4, Fact.eq (.bool (neg45 l))), (5, fI ((j : Nat) : Int)), (6, Fact.cell b6 (Con.nn 42 (pv (bef (unsg l))))), (7, fI (Nm.chk (bef (unsg l)) : Int)), (8, Fact.cell b8 (Con.nn 1 1))] rfl rfl rfl rfl rfl rfl info24 ?_ ?_
          · exact fcs ⟨.inr ⟨rfl, safe_eq _ _⟩, fcs ⟨.inr ⟨rfl, safe_cell _ (by omega)⟩, fcs ⟨.inr ⟨rfl, safe_eq _ _⟩, fcs ⟨.inr ⟨rfl, safe_eq _ _⟩, fcs ⟨.inr ⟨rfl, safe_eq _ _⟩, fcs ⟨.inr ⟨rfl, safe_cell _ (by omega)⟩, fcs ⟨.inr ⟨rfl, safe_eq _ _⟩, fcs ⟨.inl rfl, fnl⟩⟩⟩⟩⟩⟩⟩⟩
          clear st; intro w26 hB hsz26 st
          have hb := hB _ _ hb (by omega) (by omega)
          clear hB
          refine wpList_nil ?_
          refine then_normal ?_
          refine wp_seq ?_
          refine wp_seq ?_
          refine sym_region st [(44, fI ((j : Nat) : Int)), (45, Fact.eq (.string (ofB (unsg l)))), (46, fI ((unsg l).length : Int)), (47, fT)] [] 4 (by kernel_rfl) (by kernel_rfl) (by kernel_rfl) (Nat.le_of_ble_eq_true rfl) (by kernel_rfl) rfl rfl ?_ ?_
          · refine fcn (ob_copy 5 44 (.inl rfl) rfl (.inl rfl) (by kernel_rfl) rfl) ?_
            refine fcn (ob_copy 0 45 (.inl rfl) rfl (.inl rfl) (by kernel_rfl) rfl) ?_
            refine fcn (ob_strlen 45 46 (unsg l) rfl rfl (.inl rfl) (by kernel_rfl) rfl rfl) ?_
            refine fcn (ob_lt2 44 46 47 .i64 _ _ ((j : Nat) : Int) ((unsg l).length : Int) true hlt rfl rfl (.inl rfl) (by kernel_rfl) (by kernel_rfl) rfl rfl rfl) ?_
            exact fnl
          intro a27 w27 st27 hbr27 hfr
          have hs27 := hbr27.size
          have hb := up hb hbr27
          have st : St 83 [(0, Fact.eq (.string (ofB (unsg l)))), (2, Fact.cell b2 (Con.raw 3)), (3, fI 0), (4, Fact.eq (.bool (neg45 l))), (5, fI ((j : Nat) : Int)), (6, Fact.cell b6 (Con.nn 42 (pv (bef (unsg l))))), (7, fI (Nm.chk (bef (unsg l)) : Int)), (8, Fact.cell b8 (Con.nn 1 1)), (47, fT)] a27 w27 := st27.to (fcs ⟨st27.at_ 0, fcs ⟨st27.at_ 2, fcs ⟨st27.at_ 3, fcs ⟨st27.at_ 4, fcs ⟨st27.at_ 5, fcs ⟨st27.at_ 6, fcs ⟨st27.at_ 7, fcs ⟨st27.at_ 8, fcs ⟨st27.at_ 47, fnl⟩⟩⟩⟩⟩⟩⟩⟩⟩)
          clear st27 hbr27 hfr
          refine wpList_nil ?_
          refine then_normal ?_
          refine wp_cond_true (st.at_ 47) ?_
          refine wp_seq ?_
          have st := st.to (ks' := [(0, Fact.eq (.string (ofB (unsg l)))), (2, Fact.cell b2 (Con.raw 3)), (3, fI 0), (4, Fact.eq (.bool (neg45 l))), (5, fI ((j : Nat) : Int)), (6, Fact.cell b6 (Con.nn 42 (pv (bef (unsg l))))), (8, Fact.cell b8 (Con.nn 1 1)), (47, fT)]) (fcs ⟨st.at_ 0, fcs ⟨st.at_ 2, fcs ⟨st.at_ 3, fcs ⟨st.at_ 4, fcs ⟨st.at_ 5, fcs ⟨st.at_ 6, fcs ⟨st.at_ 8, fcs ⟨st.at_ 47, fnl⟩⟩⟩⟩⟩⟩⟩⟩)
          refine sym_region st [(49, Fact.eq (.string (ofB (unsg l)))), (50, fI ((j : Nat) : Int)), (51, fI ((j + 1 : Nat) : Int)), (52, Fact.eq (.string (ofB (aft (unsg l))))), (53, Fact.two (Fact.agg (Con.nn 42 (pv (aft (unsg l))))) (fI (Nm.chk (aft (unsg l)) : Int))), (48, Fact.two (Fact.agg (Con.nn 42 (pv (aft (unsg l))))) (fI (Nm.chk (aft (unsg l)) : Int))), (54, Fact.agg (Con.nn 42 (pv (aft (unsg l))))), (55, fI (Nm.chk (aft (unsg l)) : Int))] [] 8 (by kernel_rfl) (by kernel_rfl) (by kernel_rfl) (Nat.le_of_ble_eq_true rfl) (by kernel_rfl) rfl rfl ?_ ?_
          · refine fcn (ob_copy 0 49 (.inl rfl) rfl (.inl rfl) (by kernel_rfl) rfl) ?_
            refine fcn (ob_copy 5 50 (.inl rfl) rfl (.inl rfl) (by kernel_rfl) rfl) ?_
            refine fcn (ob_inc 50 51 _ _ j (by omega) rfl rfl (.inl rfl) (by kernel_rfl) rfl rfl) ?_
            refine fcn (ob_strfrom 49 51 52 (j + 1) (unsg l) h.unsg hj hsu rfl rfl (.inl rfl) (by kernel_rfl) (by kernel_rfl) rfl rfl (congrArg (fun z => Fact.eq (.string (ofB z))) ea)) ?_
            refine fcn (ob_call1 71 52 53 _ rfl rfl (.inl rfl) (by kernel_rfl) (by kernel_rfl) (r_parse (aft (unsg l)) h.unsg.aft hsa)) ?_
            refine fcn (ob_copy 53 48 (.inl rfl) rfl (.inl rfl) (by kernel_rfl) rfl) ?_
            refine fcn (ob_fst 48 54 (Fact.agg (Con.nn 42 (pv (aft (unsg l))))) (fI (Nm.chk (aft (unsg l)) : Int)) rfl rfl (.inl rfl) (by kernel_rfl) rfl rfl) ?_
            refine fcn (ob_snd 48 55 (Fact.agg (Con.nn 42 (pv (aft (unsg l))))) (fI (Nm.chk (aft (unsg l)) : Int)) rfl rfl (.inl rfl) (by kernel_rfl) rfl rfl) ?_
            exact fnl
          intro a28 w28 st28 hbr28 hfr
          have hs28 := hbr28.size
          have hb := up hb hbr28
          have st : St 83 [(2, Fact.cell b2 (Con.raw 3)), (3, fI 0), (4, Fact.eq (.bool (neg45 l))), (6, Fact.cell b6 (Con.nn 42 (pv (bef (unsg l))))), (8, Fact.cell b8 (Con.nn 1 1)), (54, Fact.agg (Con.nn 42 (pv (aft (unsg l))))), (55, fI (Nm.chk (aft (unsg l)) : Int))] a28 w28 := st28.to (fcs ⟨st28.at_ 2, fcs ⟨st28.at_ 3, fcs ⟨st28.at_ 4, fcs ⟨st28.at_ 6, fcs ⟨st28.at_ 8, fcs ⟨st28.at_ 54, fcs ⟨st28.at_ 55, fnl⟩⟩⟩⟩⟩⟩⟩)
          clear st28 hbr28 hfr
          refine sym_store st 24 8 54 b8 (Con.nn 1 1) (Con.nn 42 (pv (aft (unsg l)))) [(2, Fact.cell b2 (Con.raw 3)), (3, fI 0), (4, Fact.eq (.bool (neg45 l))), (6, Fact.cell b6 (Con.nn 42 (pv (bef (unsg l))))), (8, Fact.cell b8 (Con.nn 42 (pv (aft (unsg l))))), (55, fI (Nm.chk (aft (unsg l)) : Int))] rfl rfl rfl rfl rfl rfl info24 ?_ ?_
          · exact fcs ⟨.inr ⟨rfl, safe_cell _ (by omega)⟩, fcs ⟨.inr ⟨rfl, safe_eq _ _⟩, fcs ⟨.inr ⟨rfl, safe_eq _ _⟩, fcs ⟨.inr ⟨rfl, safe_cell _ (by omega)⟩, fcs ⟨.inl rfl, fcs ⟨.inr ⟨rfl, safe_eq _ _⟩, fnl⟩⟩⟩⟩⟩⟩
          clear st; intro w29 hB hsz29 st
          have hb := hB _ _ hb (by omega) (by omega)
          clear hB
          refine sym_op st 7 (fI (Nm.chk (aft (unsg l)) : Int)) rfl (Nat.le_of_ble_eq_true rfl) rfl rfl (by kernel_rfl) (ob_copy 55 7 (.inr rfl) rfl (.inl rfl) (by kernel_rfl) rfl) ?_
          clear st; intro a30 w30 hbr st; have hs30 := hbr.size; have hb := up hb hbr; clear hbr
          refine wpList_nil ?_
          refine then_normal ?_
          refine wp_seq ?_
          refine wp_seq ?_
          refine sym_region st [(56, fI (Nm.chk (aft (unsg l)) : Int)), (57, Fact.eq (.bool ((Nm.chk (aft (unsg l)) : Int) != 0)))] [] 2 (by kernel_rfl) (by kernel_rfl) (by kernel_rfl) (Nat.le_of_ble_eq_true rfl) (by kernel_rfl) rfl rfl ?_ ?_
          · refine fcn (ob_copy 7 56 (.inl rfl) rfl (.inl rfl) (by kernel_rfl) rfl) ?_
            refine fcn (ob_nec 56 57 .i64 33 _ (Nm.chk (aft (unsg l)) : Int) 0 ((Nm.chk (aft (unsg l)) : Int) != 0) rfl rfl rfl (.inl rfl) (by kernel_rfl) rfl rfl) ?_
            exact fnl
          intro a31 w31 st31 hbr31 hfr
          have hs31 := hbr31.size
          have hb := up hb hbr31
          have st : St 83 [(2, Fact.cell b2 (Con.raw 3)), (3, fI 0), (4, Fact.eq (.bool (neg45 l))), (6, Fact.cell b6 (Con.nn 42 (pv (bef (unsg l))))), (8, Fact.cell b8 (Con.nn 42 (pv (aft (unsg l))))), (7, fI (Nm.chk (aft (unsg l)) : Int)), (57, Fact.eq (.bool ((Nm.chk (aft (unsg l)) : Int) != 0)))] a31 w31 := st31.to (fcs ⟨st31.at_ 2, fcs ⟨st31.at_ 3, fcs ⟨st31.at_ 4, fcs ⟨st31.at_ 6, fcs ⟨st31.at_ 8, fcs ⟨st31.at_ 7, fcs ⟨st31.at_ 57, fnl⟩⟩⟩⟩⟩⟩⟩)
          clear st31 hbr31 hfr
          refine wpList_nil ?_
          refine then_normal ?_
          refine wp_cond_split (st.at_ 57) (fun h57 => ?_) (fun h57 => ?_)
          · skip
            refine wp_seq ?_
            have st := st.to (ks' := [(2, Fact.cell b2 (Con.raw 3)), (4, Fact.eq (.bool (neg45 l))), (6, Fact.cell b6 (Con.nn 42 (pv (bef (unsg l))))), (8, Fact.cell b8 (Con.nn 42 (pv (aft (unsg l))))), (7, fI (Nm.chk (aft (unsg l)) : Int)), (57, Fact.eq (.bool ((Nm.chk (aft (unsg l)) : Int) != 0)))]) (fcs ⟨st.at_ 2, fcs ⟨st.at_ 4, fcs ⟨st.at_ 6, fcs ⟨st.at_ 8, fcs ⟨st.at_ 7, fcs ⟨st.at_ 57, fnl⟩⟩⟩⟩⟩⟩)
            refine sym_region st [(58, Fact.agg (Con.tri 1 1 false 0 0)), (59, fI (Nm.chk (aft (unsg l)) : Int))] [] 2 (by kernel_rfl) (by kernel_rfl) (by kernel_rfl) (Nat.le_of_ble_eq_true rfl) (by kernel_rfl) rfl rfl ?_ ?_
            · refine fcn (ob_buildzero 58 rfl rfl (.inl rfl) rfl) ?_
              refine fcn (ob_copy 7 59 (.inl rfl) rfl (.inl rfl) (by kernel_rfl) rfl) ?_
              exact fnl
            intro a32 w32 st32 hbr32 hfr
            have hs32 := hbr32.size
            have hb := up hb hbr32
            have st : St 83 [(2, Fact.cell b2 (Con.raw 3)), (4, Fact.eq (.bool (neg45 l))), (6, Fact.cell b6 (Con.nn 42 (pv (bef (unsg l))))), (8, Fact.cell b8 (Con.nn 42 (pv (aft (unsg l))))), (58, Fact.agg (Con.tri 1 1 false 0 0)), (59, fI (Nm.chk (aft (unsg l)) : Int))] a32 w32 := st32.to (fcs ⟨st32.at_ 2, fcs ⟨st32.at_ 4, fcs ⟨st32.at_ 6, fcs ⟨st32.at_ 8, fcs ⟨st32.at_ 58, fcs ⟨st32.at_ 59, fnl⟩⟩⟩⟩⟩⟩)
            clear st32 hbr32 hfr
            refine sym_store st 26 2 58 b2 (Con.raw 3) (Con.tri 1 1 false 0 0) [(2, Fact.cell b2 (Con.tri 1 1 false 0 0)), (4, Fact.eq (.bool (neg45 l))), (6, Fact.cell b6 (Con.nn 42 (pv (bef (unsg l))))), (8, Fact.cell b8 (Con.nn 42 (pv (aft (unsg l))))), (59, fI (Nm.chk (aft (unsg l)) : Int))] rfl rfl rfl rfl rfl rfl info26 ?_ ?_
            · exact fcs ⟨.inl rfl, fcs ⟨.inr ⟨rfl, safe_eq _ _⟩, fcs ⟨.inr ⟨rfl, safe_cell _ (by omega)⟩, fcs ⟨.inr ⟨rfl, safe_cell _ (by omega)⟩, fcs ⟨.inr ⟨rfl, safe_eq _ _⟩, fnl⟩⟩⟩⟩⟩
            clear st; intro w33 hB hsz33 st
            have hb := hB _ _ hb (by omega) (by omega)
            clear hB
            refine sym_op st 3 (fI (Nm.chk (aft (unsg l)) : Int)) rfl (Nat.le_of_ble_eq_true rfl) rfl rfl (by kernel_rfl) (ob_copy 59 3 (.inr rfl) rfl (.inl rfl) (by kernel_rfl) rfl) ?_
            clear st; intro a34 w34 hbr st; have hs34 := hbr.size; have hb := up hb hbr; clear hbr
            refine wpList_nil ?_
            refine then_normal ?_
            refine wp_ret ?_
            exact sym_ret2 rfl st.defers (resAt_cell st 2 b2 26 (Con.tri 1 1 false 0 0) rfl row26 info26) (resAt_tmp st 3) hb (by rw [PR_err (pe_e2 h40 hsl h57) (ne_of_bne h57)]; exact fun v u h1 h2 => ⟨v, u, rfl, h1, h2⟩)
          · skip
            refine wp_skip ?_
            refine then_normal ?_
            refine wp_seq ?_
            refine sym_region st [(60, Fact.agg (Con.nn 42 (pv (aft (unsg l))))), (61, Fact.agg (Con.nn 1 1)), (62, fI (cmpI (pv (aft (unsg l))) 1)), (63, Fact.eq (.bool (decide ((cmpI (pv (aft (unsg l))) 1) ≤ 0))))] [] 4 (by kernel_rfl) (by kernel_rfl) (by kernel_rfl) (Nat.le_of_ble_eq_true rfl) (by kernel_rfl) rfl rfl ?_ ?_
            · refine fcn (ob_read 24 8 60 (Con.nn 42 (pv (aft (unsg l)))) rfl rfl (.inl rfl) (by kernel_rfl) points_cell rfl row24 info24) ?_
              refine fcn (ob_callc 47 _ 61 _ rfl rfl (.inl rfl) (by kernel_rfl) (r_ofc 1 1 (by decide) (by unfold Nm.Sz; decide))) ?_
              refine fcn (ob_call2 56 60 61 62 _ rfl rfl (.inl rfl) (by kernel_rfl) (by kernel_rfl) (by kernel_rfl) (r_cmp 42 1 (pv (aft (unsg l))) 1 _ rfl)) ?_
              refine fcn (ob_lec 62 63 .i64 3 _ (cmpI (pv (aft (unsg l))) 1) 0 (decide ((cmpI (pv (aft (unsg l))) 1) ≤ 0)) rfl rfl rfl (.inl rfl) (by kernel_rfl) rfl rfl) ?_
              exact fnl
            intro a35 w35 st35 hbr35 hfr
            have hs35 := hbr35.size
            have hb := up hb hbr35
            have st : St 83 [(2, Fact.cell b2 (Con.raw 3)), (3, fI 0), (4, Fact.eq (.bool (neg45 l))), (6, Fact.cell b6 (Con.nn 42 (pv (bef (unsg l))))), (8, Fact.cell b8 (Con.nn 42 (pv (aft (unsg l))))), (63, Fact.eq (.bool (decide ((cmpI (pv (aft (unsg l))) 1) ≤ 0))))] a35 w35 := st35.to (fcs ⟨st35.at_ 2, fcs ⟨st35.at_ 3, fcs ⟨st35.at_ 4, fcs ⟨st35.at_ 6, fcs ⟨st35.at_ 8, fcs ⟨st35.at_ 63, fnl⟩⟩⟩⟩⟩⟩)
            clear st35 hbr35 hfr
            refine wpList_nil ?_
            refine then_normal ?_
            refine wp_cond_split (st.at_ 63) (fun h63 => ?_) (fun h63 => ?_)
            · skip
              refine wp_seq ?_
              have st := st.to (ks' := [(2, Fact.cell b2 (Con.raw 3)), (4, Fact.eq (.bool (neg45 l))), (6, Fact.cell b6 (Con.nn 42 (pv (bef (unsg l))))), (8, Fact.cell b8 (Con.nn 42 (pv (aft (unsg l))))), (63, Fact.eq (.bool (decide ((cmpI (pv (aft (unsg l))) 1) ≤ 0))))]) (fcs ⟨st.at_ 2, fcs ⟨st.at_ 4, fcs ⟨st.at_ 6, fcs ⟨st.at_ 8, fcs ⟨st.at_ 63, fnl⟩⟩⟩⟩⟩)
              refine sym_region st [(64, Fact.agg (Con.tri 1 1 false 0 0))] [] 1 (by kernel_rfl) (by kernel_rfl) (by kernel_rfl) (Nat.le_of_ble_eq_true rfl) (by kernel_rfl) rfl rfl ?_ ?_
              · refine fcn (ob_buildzero 64 rfl rfl (.inl rfl) rfl) ?_
                exact fnl
              intro a36 w36 st36 hbr36 hfr
              have hs36 := hbr36.size
              have hb := up hb hbr36
              have st : St 83 [(2, Fact.cell b2 (Con.raw 3)), (4, Fact.eq (.bool (neg45 l))), (6, Fact.cell b6 (Con.nn 42 (pv (bef (unsg l))))), (8, Fact.cell b8 (Con.nn 42 (pv (aft (unsg l))))), (64, Fact.agg (Con.tri 1 1 false 0 0))] a36 w36 := st36.to (fcs ⟨st36.at_ 2, fcs ⟨st36.at_ 4, fcs ⟨st36.at_ 6, fcs ⟨st36.at_ 8, fcs ⟨st36.at_ 64, fnl⟩⟩⟩⟩⟩)
              clear st36 hbr36 hfr
              refine sym_store st 26 2 64 b2 (Con.raw 3) (Con.tri 1 1 false 0 0) [(2, Fact.cell b2 (Con.tri 1 1 false 0 0)), (4, Fact.eq (.bool (neg45 l))), (6, Fact.cell b6 (Con.nn 42 (pv (bef (unsg l))))), (8, Fact.cell b8 (Con.nn 42 (pv (aft (unsg l)))))] rfl rfl rfl rfl rfl rfl info26 ?_ ?_
              · exact fcs ⟨.inl rfl, fcs ⟨.inr ⟨rfl, safe_eq _ _⟩, fcs ⟨.inr ⟨rfl, safe_cell _ (by omega)⟩, fcs ⟨.inr ⟨rfl, safe_cell _ (by omega)⟩, fnl⟩⟩⟩⟩
              clear st; intro w37 hB hsz37 st
              have hb := hB _ _ hb (by omega) (by omega)
              clear hB
              refine sym_op st 3 (fI 2) rfl (Nat.le_of_ble_eq_true rfl) rfl rfl (by kernel_rfl) (ob_const (.int .i64 2) 3 (.inr rfl) rfl (.inl rfl) rfl) ?_
              clear st; intro a38 w38 hbr st; have hs38 := hbr.size; have hb := up hb hbr; clear hbr
              refine wpList_nil ?_
              refine then_normal ?_
              refine wp_ret ?_
              exact sym_ret2 rfl st.defers (resAt_cell st 2 b2 26 (Con.tri 1 1 false 0 0) rfl row26 info26) (resAt_tmp st 3) hb (by by_cases h1 : pv (aft (unsg l)) = 1; (rw [PR_err (e := 2) (pe_b1 h40 hsl h57 h1) (by decide)]; exact fun v u h1 h2 => ⟨v, u, rfl, h1, h2⟩); (rw [PR_err (e := 2) ((pe_v h40 hsl h57 h1).trans (by rw [ref_small h63 h1, vldT_q0]; rfl)) (by decide)]; exact fun v u h1 h2 => ⟨v, u, rfl, h1, h2⟩))
            · skip
              refine wp_skip ?_
              refine then_normal ?_
              refine wp_seq ?_
              refine wp_seq ?_
              cases hneg : neg45 l with
              | false =>
                have st := st.to (ks' := [(2, Fact.cell b2 (Con.raw 3)), (3, fI 0), (4, Fact.eq (.bool false)), (6, Fact.cell b6 (Con.nn 42 (pv (bef (unsg l))))), (8, Fact.cell b8 (Con.nn 42 (pv (aft (unsg l))))), (63, Fact.eq (.bool (decide ((cmpI (pv (aft (unsg l))) 1) ≤ 0))))]) (fcs ⟨st.at_ 2, fcs ⟨st.at_ 3, fcs ⟨(by rw [← hneg]; exact st.at_ 4), fcs ⟨st.at_ 6, fcs ⟨st.at_ 8, fcs ⟨st.at_ 63, fnl⟩⟩⟩⟩⟩⟩)
                refine sym_region st [(65, fF), (66, fF), (67, Fact.eq undef), (68, Fact.eq undef), (69, fF), (70, fF), (71, Fact.agg (Con.nn 42 (pv (bef (unsg l))))), (72, Fact.agg (Con.nn 42 (pv (aft (unsg l))))), (73, Fact.agg (Con.nn 42 (Nat.gcd (pv (bef (unsg l))) (pv (aft (unsg l)))))), (74, Fact.agg (Con.nn 1 1)), (75, Fact.eq (.bool (decide (Nat.gcd (pv (bef (unsg l))) (pv (aft (unsg l))) = 1)))), (76, Fact.eq (.bool (!(decide (Nat.gcd (pv (bef (unsg l))) (pv (aft (unsg l))) = 1))))), (77, Fact.eq (.bool (!(decide (Nat.gcd (pv (bef (unsg l))) (pv (aft (unsg l))) = 1)))))] [] 13 (by kernel_rfl) (by kernel_rfl) (by kernel_rfl) (Nat.le_of_ble_eq_true rfl) (by kernel_rfl) rfl rfl ?_ ?_
                · refine fcn (ob_copy 4 65 (.inl rfl) rfl (.inl rfl) (by kernel_rfl) rfl) ?_
                  refine fcn (ob_copy 65 66 (.inl rfl) rfl (.inl rfl) (by kernel_rfl) rfl) ?_
                  refine fcn (ob_skip 1 66 67 true rfl rfl (by kernel_rfl) (by decide) rfl rfl rfl) ?_
                  refine fcn (ob_skip 1 66 68 true rfl rfl (by kernel_rfl) (by decide) rfl rfl rfl) ?_
                  refine fcn (ob_pick_no 66 68 69 (.bool false) rfl rfl (.inl rfl) (by kernel_rfl) rfl rfl) ?_
                  refine fcn (ob_copy 69 70 (.inl rfl) rfl (.inl rfl) (by kernel_rfl) rfl) ?_
                  refine fcn (ob_read 24 6 71 (Con.nn 42 (pv (bef (unsg l)))) rfl rfl (.inr ⟨_, _, _, rfl, rfl, by kernel_rfl, by decide, rfl⟩) (by kernel_rfl) points_cell rfl row24 info24) ?_
                  refine fcn (ob_read 24 8 72 (Con.nn 42 (pv (aft (unsg l)))) rfl rfl (.inr ⟨_, _, _, rfl, rfl, by kernel_rfl, by decide, rfl⟩) (by kernel_rfl) points_cell rfl row24 info24) ?_
                  refine fcn (ob_call2 46 71 72 73 _ rfl rfl (.inr ⟨_, _, _, rfl, rfl, by kernel_rfl, by decide, rfl⟩) (by kernel_rfl) (by kernel_rfl) (by kernel_rfl) (r_gcd 42 42 (pv (bef (unsg l))) (pv (aft (unsg l))) (Nat.ne_of_gt (Nat.lt_of_succ_lt (ref_big h63))) (by omega) (by omega))) ?_
                  refine fcn (ob_callc 47 _ 74 _ rfl rfl (.inr ⟨_, _, _, rfl, rfl, by kernel_rfl, by decide, rfl⟩) (by kernel_rfl) (r_ofc 1 1 (by decide) (by unfold Nm.Sz; decide))) ?_
                  refine fcn (ob_call2 45 73 74 75 _ rfl rfl (.inr ⟨_, _, _, rfl, rfl, by kernel_rfl, by decide, rfl⟩) (by kernel_rfl) (by kernel_rfl) (by kernel_rfl) (r_same 42 1 (Nat.gcd (pv (bef (unsg l))) (pv (aft (unsg l)))) 1 (decide (Nat.gcd (pv (bef (unsg l))) (pv (aft (unsg l))) = 1)) rfl)) ?_
                  refine fcn (ob_not 75 76 (decide (Nat.gcd (pv (bef (unsg l))) (pv (aft (unsg l))) = 1)) (!(decide (Nat.gcd (pv (bef (unsg l))) (pv (aft (unsg l))) = 1))) rfl rfl rfl (.inr ⟨_, _, _, rfl, rfl, by kernel_rfl, by decide, rfl⟩) (by kernel_rfl) rfl rfl) ?_
                  refine fcn (ob_pick_else 70 76 77 (.bool true) rfl rfl (.inl rfl) (by kernel_rfl) (by kernel_rfl) rfl rfl) ?_
                  exact fnl
                intro a39 w39 st39 hbr39 hfr
                have hs39 := hbr39.size
                have hb := up hb hbr39
                have st : St 83 [(2, Fact.cell b2 (Con.raw 3)), (3, fI 0), (4, fF), (6, Fact.cell b6 (Con.nn 42 (pv (bef (unsg l))))), (8, Fact.cell b8 (Con.nn 42 (pv (aft (unsg l))))), (77, Fact.eq (.bool (!(decide (Nat.gcd (pv (bef (unsg l))) (pv (aft (unsg l))) = 1)))))] a39 w39 := st39.to (fcs ⟨st39.at_ 2, fcs ⟨st39.at_ 3, fcs ⟨st39.at_ 4, fcs ⟨st39.at_ 6, fcs ⟨st39.at_ 8, fcs ⟨st39.at_ 77, fnl⟩⟩⟩⟩⟩⟩)
                clear st39 hbr39 hfr
                refine wpList_nil ?_
                refine then_normal ?_
                refine wp_cond_split (st.at_ 77) (fun h77 => ?_) (fun h77 => ?_)
                · skip
                  refine wp_seq ?_
                  have st := st.to (ks' := [(2, Fact.cell b2 (Con.raw 3)), (4, fF), (6, Fact.cell b6 (Con.nn 42 (pv (bef (unsg l))))), (8, Fact.cell b8 (Con.nn 42 (pv (aft (unsg l))))), (77, Fact.eq (.bool (!(decide (Nat.gcd (pv (bef (unsg l))) (pv (aft (unsg l))) = 1)))))]) (fcs ⟨st.at_ 2, fcs ⟨st.at_ 4, fcs ⟨st.at_ 6, fcs ⟨st.at_ 8, fcs ⟨st.at_ 77, fnl⟩⟩⟩⟩⟩)
                  refine sym_region st [(78, Fact.agg (Con.tri 1 1 false 0 0))] [] 1 (by kernel_rfl) (by kernel_rfl) (by kernel_rfl) (Nat.le_of_ble_eq_true rfl) (by kernel_rfl) rfl rfl ?_ ?_
                  · refine fcn (ob_buildzero 78 rfl rfl (.inl rfl) rfl) ?_
                    exact fnl
                  intro a40 w40 st40 hbr40 hfr
                  have hs40 := hbr40.size
                  have hb := up hb hbr40
                  have st : St 83 [(2, Fact.cell b2 (Con.raw 3)), (4, fF), (6, Fact.cell b6 (Con.nn 42 (pv (bef (unsg l))))), (8, Fact.cell b8 (Con.nn 42 (pv (aft (unsg l))))), (78, Fact.agg (Con.tri 1 1 false 0 0))] a40 w40 := st40.to (fcs ⟨st40.at_ 2, fcs ⟨st40.at_ 4, fcs ⟨st40.at_ 6, fcs ⟨st40.at_ 8, fcs ⟨st40.at_ 78, fnl⟩⟩⟩⟩⟩)
                  clear st40 hbr40 hfr
                  refine sym_store st 26 2 78 b2 (Con.raw 3) (Con.tri 1 1 false 0 0) [(2, Fact.cell b2 (Con.tri 1 1 false 0 0)), (4, fF), (6, Fact.cell b6 (Con.nn 42 (pv (bef (unsg l))))), (8, Fact.cell b8 (Con.nn 42 (pv (aft (unsg l)))))] rfl rfl rfl rfl rfl rfl info26 ?_ ?_
                  · exact fcs ⟨.inl rfl, fcs ⟨.inr ⟨rfl, safe_eq _ _⟩, fcs ⟨.inr ⟨rfl, safe_cell _ (by omega)⟩, fcs ⟨.inr ⟨rfl, safe_cell _ (by omega)⟩, fnl⟩⟩⟩⟩
                  clear st; intro w41 hB hsz41 st
                  have hb := hB _ _ hb (by omega) (by omega)
                  clear hB
                  refine sym_op st 3 (fI 2) rfl (Nat.le_of_ble_eq_true rfl) rfl rfl (by kernel_rfl) (ob_const (.int .i64 2) 3 (.inr rfl) rfl (.inl rfl) rfl) ?_
                  clear st; intro a42 w42 hbr st; have hs42 := hbr.size; have hb := up hb hbr; clear hbr
                  refine wpList_nil ?_
                  refine then_normal ?_
                  refine wp_ret ?_
                  exact sym_ret2 rfl st.defers (resAt_cell st 2 b2 26 (Con.tri 1 1 false 0 0) rfl row26 info26) (resAt_tmp st 3) hb (by rw [PR_err (e := 2) ((pe_v h40 hsl h57 (Nat.ne_of_gt (ref_big h63))).trans (by rw [((vldT_gcd (by rw [hneg]; rfl) (Nat.ne_of_gt (Nat.lt_of_succ_lt (ref_big h63)))).trans (not_gcd h77))]; rfl)) (by decide)]; exact fun v u h1 h2 => ⟨v, u, rfl, h1, h2⟩)
                · skip
                  refine wp_skip ?_
                  refine then_normal ?_
                  refine wp_seq ?_
                  have st := st.to (ks' := [(2, Fact.cell b2 (Con.raw 3)), (4, fF), (6, Fact.cell b6 (Con.nn 42 (pv (bef (unsg l))))), (8, Fact.cell b8 (Con.nn 42 (pv (aft (unsg l))))), (77, Fact.eq (.bool (!(decide (Nat.gcd (pv (bef (unsg l))) (pv (aft (unsg l))) = 1)))))]) (fcs ⟨st.at_ 2, fcs ⟨st.at_ 4, fcs ⟨st.at_ 6, fcs ⟨st.at_ 8, fcs ⟨st.at_ 77, fnl⟩⟩⟩⟩⟩)
                  refine sym_region st [(79, fF), (80, Fact.agg (Con.nn 42 (pv (bef (unsg l))))), (81, Fact.agg (Con.nn 42 (pv (aft (unsg l))))), (82, Fact.agg (Con.tri 42 42 false (pv (bef (unsg l))) (pv (aft (unsg l)))))] [] 4 (by kernel_rfl) (by kernel_rfl) (by kernel_rfl) (Nat.le_of_ble_eq_true rfl) (by kernel_rfl) rfl rfl ?_ ?_
                  · refine fcn (ob_copy 4 79 (.inl rfl) rfl (.inl rfl) (by kernel_rfl) rfl) ?_
                    refine fcn (ob_read 24 6 80 (Con.nn 42 (pv (bef (unsg l)))) rfl rfl (.inl rfl) (by kernel_rfl) points_cell rfl row24 info24) ?_
                    refine fcn (ob_read 24 8 81 (Con.nn 42 (pv (aft (unsg l)))) rfl rfl (.inl rfl) (by kernel_rfl) points_cell rfl row24 info24) ?_
                    refine fcn (ob_buildtri 79 80 81 82 42 42 (pv (bef (unsg l))) (pv (aft (unsg l))) false rfl rfl (.inl rfl) (by kernel_rfl) (by kernel_rfl) (by kernel_rfl) rfl rfl rfl rfl) ?_
                    exact fnl
                  intro a43 w43 st43 hbr43 hfr
                  have hs43 := hbr43.size
                  have hb := up hb hbr43
                  have st : St 83 [(2, Fact.cell b2 (Con.raw 3)), (82, Fact.agg (Con.tri 42 42 false (pv (bef (unsg l))) (pv (aft (unsg l)))))] a43 w43 := st43.to (fcs ⟨st43.at_ 2, fcs ⟨st43.at_ 82, fnl⟩⟩)
                  clear st43 hbr43 hfr
                  refine sym_store st 26 2 82 b2 (Con.raw 3) (Con.tri 42 42 false (pv (bef (unsg l))) (pv (aft (unsg l)))) [(2, Fact.cell b2 (Con.tri 42 42 false (pv (bef (unsg l))) (pv (aft (unsg l)))))] rfl rfl rfl rfl rfl rfl info26 ?_ ?_
                  · exact fcs ⟨.inl rfl, fnl⟩
                  clear st; intro w44 hB hsz44 st
                  have hb := hB _ _ hb (by omega) (by omega)
                  clear hB
                  refine sym_op st 3 (fI 0) rfl (Nat.le_of_ble_eq_true rfl) rfl rfl (by kernel_rfl) (ob_const (.int .i64 0) 3 (.inr rfl) rfl (.inl rfl) rfl) ?_
                  clear st; intro a45 w45 hbr st; have hs45 := hbr.size; have hb := up hb hbr; clear hbr
                  refine wpList_nil ?_
                  refine then_normal ?_
                  refine wp_ret ?_
                  exact sym_ret2 rfl st.defers (resAt_cell st 2 b2 26 (Con.tri 42 42 false (pv (bef (unsg l))) (pv (aft (unsg l)))) rfl row26 info26) (resAt_tmp st 3) hb (by rw [PR_ok ((pe_v h40 hsl h57 (Nat.ne_of_gt (ref_big h63))).trans (if_pos ((vldT_gcd (by rw [hneg]; rfl) (Nat.ne_of_gt (Nat.lt_of_succ_lt (ref_big h63)))).trans (yes_gcd h77)))), px_s hsl]; exact fun v u h1 h2 => ⟨v, u, rfl, vldT_fr ((vldT_gcd (by rw [hneg]; rfl) (Nat.ne_of_gt (Nat.lt_of_succ_lt (ref_big h63)))).trans (yes_gcd h77)) (by rw [hneg]; exact h1) (by decide) (by decide), h2⟩)
              | true =>
                cases hp0 : decide (pv (bef (unsg l)) = 0) with
                | true =>
                  have st := st.to (ks' := [(2, Fact.cell b2 (Con.raw 3)), (3, fI 0), (4, Fact.eq (.bool true)), (6, Fact.cell b6 (Con.nn 42 (pv (bef (unsg l))))), (8, Fact.cell b8 (Con.nn 42 (pv (aft (unsg l))))), (63, Fact.eq (.bool (decide ((cmpI (pv (aft (unsg l))) 1) ≤ 0))))]) (fcs ⟨st.at_ 2, fcs ⟨st.at_ 3, fcs ⟨(by rw [← hneg]; exact st.at_ 4), fcs ⟨st.at_ 6, fcs ⟨st.at_ 8, fcs ⟨st.at_ 63, fnl⟩⟩⟩⟩⟩⟩)
                  refine sym_region st [(65, fT), (66, fT), (67, Fact.agg (Con.nn 42 (pv (bef (unsg l))))), (68, fT), (69, fT), (70, fT), (71, Fact.eq undef), (72, Fact.eq undef), (73, Fact.eq undef), (74, Fact.eq undef), (75, Fact.eq undef), (76, Fact.eq undef), (77, fT)] [] 13 (by kernel_rfl) (by kernel_rfl) (by kernel_rfl) (Nat.le_of_ble_eq_true rfl) (by kernel_rfl) rfl rfl ?_ ?_
                  · refine fcn (ob_copy 4 65 (.inl rfl) rfl (.inl rfl) (by kernel_rfl) rfl) ?_
                    refine fcn (ob_copy 65 66 (.inl rfl) rfl (.inl rfl) (by kernel_rfl) rfl) ?_
                    refine fcn (ob_read 24 6 67 (Con.nn 42 (pv (bef (unsg l)))) rfl rfl (.inr ⟨_, _, _, rfl, rfl, by kernel_rfl, by decide, rfl⟩) (by kernel_rfl) points_cell rfl row24 info24) ?_
                    refine fcn (ob_call1 44 67 68 _ rfl rfl (.inr ⟨_, _, _, rfl, rfl, by kernel_rfl, by decide, rfl⟩) (by kernel_rfl) (by kernel_rfl) (z_zero 42 (pv (bef (unsg l))) true hp0)) ?_
                    refine fcn (ob_pick 66 68 69 _ rfl rfl (.inl rfl) (by kernel_rfl) (by kernel_rfl) rfl rfl) ?_
                    refine fcn (ob_copy 69 70 (.inl rfl) rfl (.inl rfl) (by kernel_rfl) rfl) ?_
                    refine fcn (ob_skip 5 70 71 false rfl rfl (by kernel_rfl) (by decide) rfl rfl rfl) ?_
                    refine fcn (ob_skip 5 70 72 false rfl rfl (by kernel_rfl) (by decide) rfl rfl rfl) ?_
                    refine fcn (ob_skip 5 70 73 false rfl rfl (by kernel_rfl) (by decide) rfl rfl rfl) ?_
                    refine fcn (ob_skip 5 70 74 false rfl rfl (by kernel_rfl) (by decide) rfl rfl rfl) ?_
                    refine fcn (ob_skip 5 70 75 false rfl rfl (by kernel_rfl) (by decide) rfl rfl rfl) ?_
                    refine fcn (ob_skip 5 70 76 false rfl rfl (by kernel_rfl) (by decide) rfl rfl rfl) ?_
                    refine fcn (ob_pick_or 70 76 77 (.bool true) rfl rfl (.inl rfl) (by kernel_rfl) rfl rfl) ?_
                    exact fnl
                  intro a46 w46 st46 hbr46 hfr
                  have hs46 := hbr46.size
                  have hb := up hb hbr46
                  have st : St 83 [(2, Fact.cell b2 (Con.raw 3)), (3, fI 0), (4, fT), (6, Fact.cell b6 (Con.nn 42 (pv (bef (unsg l))))), (8, Fact.cell b8 (Con.nn 42 (pv (aft (unsg l))))), (77, fT)] a46 w46 := st46.to (fcs ⟨st46.at_ 2, fcs ⟨st46.at_ 3, fcs ⟨st46.at_ 4, fcs ⟨st46.at_ 6, fcs ⟨st46.at_ 8, fcs ⟨st46.at_ 77, fnl⟩⟩⟩⟩⟩⟩)
                  clear st46 hbr46 hfr
                  refine wpList_nil ?_
                  refine then_normal ?_
                  refine wp_cond_true (st.at_ 77) ?_
                  refine wp_seq ?_
                  have st := st.to (ks' := [(2, Fact.cell b2 (Con.raw 3)), (4, fT), (6, Fact.cell b6 (Con.nn 42 (pv (bef (unsg l))))), (8, Fact.cell b8 (Con.nn 42 (pv (aft (unsg l))))), (77, fT)]) (fcs ⟨st.at_ 2, fcs ⟨st.at_ 4, fcs ⟨st.at_ 6, fcs ⟨st.at_ 8, fcs ⟨st.at_ 77, fnl⟩⟩⟩⟩⟩)
                  refine sym_region st [(78, Fact.agg (Con.tri 1 1 false 0 0))] [] 1 (by kernel_rfl) (by kernel_rfl) (by kernel_rfl) (Nat.le_of_ble_eq_true rfl) (by kernel_rfl) rfl rfl ?_ ?_
                  · refine fcn (ob_buildzero 78 rfl rfl (.inl rfl) rfl) ?_
                    exact fnl
                  intro a47 w47 st47 hbr47 hfr
                  have hs47 := hbr47.size
                  have hb := up hb hbr47
                  have st : St 83 [(2, Fact.cell b2 (Con.raw 3)), (4, fT), (6, Fact.cell b6 (Con.nn 42 (pv (bef (unsg l))))), (8, Fact.cell b8 (Con.nn 42 (pv (aft (unsg l))))), (78, Fact.agg (Con.tri 1 1 false 0 0))] a47 w47 := st47.to (fcs ⟨st47.at_ 2, fcs ⟨st47.at_ 4, fcs ⟨st47.at_ 6, fcs ⟨st47.at_ 8, fcs ⟨st47.at_ 78, fnl⟩⟩⟩⟩⟩)
                  clear st47 hbr47 hfr
                  refine sym_store st 26 2 78 b2 (Con.raw 3) (Con.tri 1 1 false 0 0) [(2, Fact.cell b2 (Con.tri 1 1 false 0 0)), (4, fT), (6, Fact.cell b6 (Con.nn 42 (pv (bef (unsg l))))), (8, Fact.cell b8 (Con.nn 42 (pv (aft (unsg l)))))] rfl rfl rfl rfl rfl rfl info26 ?_ ?_
                  · exact fcs ⟨.inl rfl, fcs ⟨.inr ⟨rfl, safe_eq _ _⟩, fcs ⟨.inr ⟨rfl, safe_cell _ (by omega)⟩, fcs ⟨.inr ⟨rfl, safe_cell _ (by omega)⟩, fnl⟩⟩⟩⟩
                  clear st; intro w48 hB hsz48 st
                  have hb := hB _ _ hb (by omega) (by omega)
                  clear hB
                  refine sym_op st 3 (fI 2) rfl (Nat.le_of_ble_eq_true rfl) rfl rfl (by kernel_rfl) (ob_const (.int .i64 2) 3 (.inr rfl) rfl (.inl rfl) rfl) ?_
                  clear st; intro a49 w49 hbr st; have hs49 := hbr.size; have hb := up hb hbr; clear hbr
                  refine wpList_nil ?_
                  refine then_normal ?_
                  refine wp_ret ?_
                  exact sym_ret2 rfl st.defers (resAt_cell st 2 b2 26 (Con.tri 1 1 false 0 0) rfl row26 info26) (resAt_tmp st 3) hb (by rw [PR_err (e := 2) ((pe_v h40 hsl h57 (Nat.ne_of_gt (ref_big h63))).trans (by rw [(vldT_no0 hneg hp0)]; rfl)) (by decide)]; exact fun v u h1 h2 => ⟨v, u, rfl, h1, h2⟩)
                | false =>
                  have st := st.to (ks' := [(2, Fact.cell b2 (Con.raw 3)), (3, fI 0), (4, Fact.eq (.bool true)), (6, Fact.cell b6 (Con.nn 42 (pv (bef (unsg l))))), (8, Fact.cell b8 (Con.nn 42 (pv (aft (unsg l))))), (63, Fact.eq (.bool (decide ((cmpI (pv (aft (unsg l))) 1) ≤ 0))))]) (fcs ⟨st.at_ 2, fcs ⟨st.at_ 3, fcs ⟨(by rw [← hneg]; exact st.at_ 4), fcs ⟨st.at_ 6, fcs ⟨st.at_ 8, fcs ⟨st.at_ 63, fnl⟩⟩⟩⟩⟩⟩)
                  refine sym_region st [(65, fT), (66, fT), (67, Fact.agg (Con.nn 42 (pv (bef (unsg l))))), (68, fF), (69, fF), (70, fF), (71, Fact.agg (Con.nn 42 (pv (bef (unsg l))))), (72, Fact.agg (Con.nn 42 (pv (aft (unsg l))))), (73, Fact.agg (Con.nn 42 (Nat.gcd (pv (bef (unsg l))) (pv (aft (unsg l)))))), (74, Fact.agg (Con.nn 1 1)), (75, Fact.eq (.bool (decide (Nat.gcd (pv (bef (unsg l))) (pv (aft (unsg l))) = 1)))), (76, Fact.eq (.bool (!(decide (Nat.gcd (pv (bef (unsg l))) (pv (aft (unsg l))) = 1))))), (77, Fact.eq (.bool (!(decide (Nat.gcd (pv (bef (unsg l))) (pv (aft (unsg l))) = 1)))))] [] 13 (by kernel_rfl) (by kernel_rfl) (by kernel_rfl) (Nat.le_of_ble_eq_true rfl) (by kernel_rfl) rfl rfl ?_ ?_
                  · refine fcn (ob_copy 4 65 (.inl rfl) rfl (.inl rfl) (by kernel_rfl) rfl) ?_
                    refine fcn (ob_copy 65 66 (.inl rfl) rfl (.inl rfl) (by kernel_rfl) rfl) ?_
                    refine fcn (ob_read 24 6 67 (Con.nn 42 (pv (bef (unsg l)))) rfl rfl (.inr ⟨_, _, _, rfl, rfl, by kernel_rfl, by decide, rfl⟩) (by kernel_rfl) points_cell rfl row24 info24) ?_
                    refine fcn (ob_call1 44 67 68 _ rfl rfl (.inr ⟨_, _, _, rfl, rfl, by kernel_rfl, by decide, rfl⟩) (by kernel_rfl) (by kernel_rfl) (z_zero 42 (pv (bef (unsg l))) false hp0)) ?_
                    refine fcn (ob_pick 66 68 69 _ rfl rfl (.inl rfl) (by kernel_rfl) (by kernel_rfl) rfl rfl) ?_
                    refine fcn (ob_copy 69 70 (.inl rfl) rfl (.inl rfl) (by kernel_rfl) rfl) ?_
                    refine fcn (ob_read 24 6 71 (Con.nn 42 (pv (bef (unsg l)))) rfl rfl (.inr ⟨_, _, _, rfl, rfl, by kernel_rfl, by decide, rfl⟩) (by kernel_rfl) points_cell rfl row24 info24) ?_
                    refine fcn (ob_read 24 8 72 (Con.nn 42 (pv (aft (unsg l)))) rfl rfl (.inr ⟨_, _, _, rfl, rfl, by kernel_rfl, by decide, rfl⟩) (by kernel_rfl) points_cell rfl row24 info24) ?_
                    refine fcn (ob_call2 46 71 72 73 _ rfl rfl (.inr ⟨_, _, _, rfl, rfl, by kernel_rfl, by decide, rfl⟩) (by kernel_rfl) (by kernel_rfl) (by kernel_rfl) (r_gcd 42 42 (pv (bef (unsg l))) (pv (aft (unsg l))) (Nat.ne_of_gt (Nat.lt_of_succ_lt (ref_big h63))) (by omega) (by omega))) ?_
                    refine fcn (ob_callc 47 _ 74 _ rfl rfl (.inr ⟨_, _, _, rfl, rfl, by kernel_rfl, by decide, rfl⟩) (by kernel_rfl) (r_ofc 1 1 (by decide) (by unfold Nm.Sz; decide))) ?_
                    refine fcn (ob_call2 45 73 74 75 _ rfl rfl (.inr ⟨_, _, _, rfl, rfl, by kernel_rfl, by decide, rfl⟩) (by kernel_rfl) (by kernel_rfl) (by kernel_rfl) (r_same 42 1 (Nat.gcd (pv (bef (unsg l))) (pv (aft (unsg l)))) 1 (decide (Nat.gcd (pv (bef (unsg l))) (pv (aft (unsg l))) = 1)) rfl)) ?_
                    refine fcn (ob_not 75 76 (decide (Nat.gcd (pv (bef (unsg l))) (pv (aft (unsg l))) = 1)) (!(decide (Nat.gcd (pv (bef (unsg l))) (pv (aft (unsg l))) = 1))) rfl rfl rfl (.inr ⟨_, _, _, rfl, rfl, by kernel_rfl, by decide, rfl⟩) (by kernel_rfl) rfl rfl) ?_
                    refine fcn (ob_pick_else 70 76 77 (.bool true) rfl rfl (.inl rfl) (by kernel_rfl) (by kernel_rfl) rfl rfl) ?_
                    exact fnl
                  intro a50 w50 st50 hbr50 hfr
                  have hs50 := hbr50.size
                  have hb := up hb hbr50
                  have st : St 83 [(2, Fact.cell b2 (Con.raw 3)), (3, fI 0), (4, fT), (6, Fact.cell b6 (Con.nn 42 (pv (bef (unsg l))))), (8, Fact.cell b8 (Con.nn 42 (pv (aft (unsg l))))), (77, Fact.eq (.bool (!(decide (Nat.gcd (pv (bef (unsg l))) (pv (aft (unsg l))) = 1)))))] a50 w50 := st50.to (fcs ⟨st50.at_ 2, fcs ⟨st50.at_ 3, fcs ⟨st50.at_ 4, fcs ⟨st50.at_ 6, fcs ⟨st50.at_ 8, fcs ⟨st50.at_ 77, fnl⟩⟩⟩⟩⟩⟩)
                  clear st50 hbr50 hfr
                  refine wpList_nil ?_
                  refine then_normal ?_
                  refine wp_cond_split (st.at_ 77) (fun h77 => ?_) (fun h77 => ?_)
                  · skip
                    refine wp_seq ?_
                    have st := st.to (ks' := [(2, Fact.cell b2 (Con.raw 3)), (4, fT), (6, Fact.cell b6 (Con.nn 42 (pv (bef (unsg l))))), (8, Fact.cell b8 (Con.nn 42 (pv (aft (unsg l))))), (77, Fact.eq (.bool (!(decide (Nat.gcd (pv (bef (unsg l))) (pv (aft (unsg l))) = 1)))))]) (fcs ⟨st.at_ 2, fcs ⟨st.at_ 4, fcs ⟨st.at_ 6, fcs ⟨st.at_ 8, fcs ⟨st.at_ 77, fnl⟩⟩⟩⟩⟩)
                    refine sym_region st [(78, Fact.agg (Con.tri 1 1 false 0 0))] [] 1 (by kernel_rfl) (by kernel_rfl) (by kernel_rfl) (Nat.le_of_ble_eq_true rfl) (by kernel_rfl) rfl rfl ?_ ?_
                    · refine fcn (ob_buildzero 78 rfl rfl (.inl rfl) rfl) ?_
                      exact fnl
                    intro a51 w51 st51 hbr51 hfr
                    have hs51 := hbr51.size
                    have hb := up hb hbr51
                    have st : St 83 [(2, Fact.cell b2 (Con.raw 3)), (4, fT), (6, Fact.cell b6 (Con.nn 42 (pv (bef (unsg l))))), (8, Fact.cell b8 (Con.nn 42 (pv (aft (unsg l))))), (78, Fact.agg (Con.tri 1 1 false 0 0))] a51 w51 := st51.to (fcs ⟨st51.at_ 2, fcs ⟨st51.at_ 4, fcs ⟨st51.at_ 6, fcs ⟨st51.at_ 8, fcs ⟨st51.at_ 78, fnl⟩⟩⟩⟩⟩)
                    clear st51 hbr51 hfr
                    refine sym_store st 26 2 78 b2 (Con.raw 3) (Con.tri 1 1 false 0 0) [(2, Fact.cell b2 (Con.tri 1 1 false 0 0)), (4, fT), (6, Fact.cell b6 (Con.nn 42 (pv (bef (unsg l))))), (8, Fact.cell b8 (Con.nn 42 (pv (aft (unsg l)))))] rfl rfl rfl rfl rfl rfl info26 ?_ ?_
                    · exact fcs ⟨.inl rfl, fcs ⟨.inr ⟨rfl, safe_eq _ _⟩, fcs ⟨.inr ⟨rfl, safe_cell _ (by omega)⟩, fcs ⟨.inr ⟨rfl, safe_cell _ (by omega)⟩, fnl⟩⟩⟩⟩
                    clear st; intro w52 hB hsz52 st
                    have hb := hB _ _ hb (by omega) (by omega)
                    clear hB
                    refine sym_op st 3 (fI 2) rfl (Nat.le_of_ble_eq_true rfl) rfl rfl (by kernel_rfl) (ob_const (.int .i64 2) 3 (.inr rfl) rfl (.inl rfl) rfl) ?_
                    clear st; intro a53 w53 hbr st; have hs53 := hbr.size; have hb := up hb hbr; clear hbr
                    refine wpList_nil ?_
                    refine then_normal ?_
                    refine wp_ret ?_
                    exact sym_ret2 rfl st.defers (resAt_cell st 2 b2 26 (Con.tri 1 1 false 0 0) rfl row26 info26) (resAt_tmp st 3) hb (by rw [PR_err (e := 2) ((pe_v h40 hsl h57 (Nat.ne_of_gt (ref_big h63))).trans (by rw [((vldT_gcd (by rw [hneg, hp0]; rfl) (Nat.ne_of_gt (Nat.lt_of_succ_lt (ref_big h63)))).trans (not_gcd h77))]; rfl)) (by decide)]; exact fun v u h1 h2 => ⟨v, u, rfl, h1, h2⟩)
                  · skip
                    refine wp_skip ?_
                    refine then_normal ?_
                    refine wp_seq ?_
                    have st := st.to (ks' := [(2, Fact.cell b2 (Con.raw 3)), (4, fT), (6, Fact.cell b6 (Con.nn 42 (pv (bef (unsg l))))), (8, Fact.cell b8 (Con.nn 42 (pv (aft (unsg l))))), (77, Fact.eq (.bool (!(decide (Nat.gcd (pv (bef (unsg l))) (pv (aft (unsg l))) = 1)))))]) (fcs ⟨st.at_ 2, fcs ⟨st.at_ 4, fcs ⟨st.at_ 6, fcs ⟨st.at_ 8, fcs ⟨st.at_ 77, fnl⟩⟩⟩⟩⟩)
                    refine sym_region st [(79, fT), (80, Fact.agg (Con.nn 42 (pv (bef (unsg l))))), (81, Fact.agg (Con.nn 42 (pv (aft (unsg l))))), (82, Fact.agg (Con.tri 42 42 true (pv (bef (unsg l))) (pv (aft (unsg l)))))] [] 4 (by kernel_rfl) (by kernel_rfl) (by kernel_rfl) (Nat.le_of_ble_eq_true rfl) (by kernel_rfl) rfl rfl ?_ ?_
                    · refine fcn (ob_copy 4 79 (.inl rfl) rfl (.inl rfl) (by kernel_rfl) rfl) ?_
                      refine fcn (ob_read 24 6 80 (Con.nn 42 (pv (bef (unsg l)))) rfl rfl (.inl rfl) (by kernel_rfl) points_cell rfl row24 info24) ?_
                      refine fcn (ob_read 24 8 81 (Con.nn 42 (pv (aft (unsg l)))) rfl rfl (.inl rfl) (by kernel_rfl) points_cell rfl row24 info24) ?_
                      refine fcn (ob_buildtri 79 80 81 82 42 42 (pv (bef (unsg l))) (pv (aft (unsg l))) true rfl rfl (.inl rfl) (by kernel_rfl) (by kernel_rfl) (by kernel_rfl) rfl rfl rfl rfl) ?_
                      exact fnl
                    intro a54 w54 st54 hbr54 hfr
                    have hs54 := hbr54.size
                    have hb := up hb hbr54
                    have st : St 83 [(2, Fact.cell b2 (Con.raw 3)), (82, Fact.agg (Con.tri 42 42 true (pv (bef (unsg l))) (pv (aft (unsg l)))))] a54 w54 := st54.to (fcs ⟨st54.at_ 2, fcs ⟨st54.at_ 82, fnl⟩⟩)
                    clear st54 hbr54 hfr
                    refine sym_store st 26 2 82 b2 (Con.raw 3) (Con.tri 42 42 true (pv (bef (unsg l))) (pv (aft (unsg l)))) [(2, Fact.cell b2 (Con.tri 42 42 true (pv (bef (unsg l))) (pv (aft (unsg l)))))] rfl rfl rfl rfl rfl rfl info26 ?_ ?_
                    · exact fcs ⟨.inl rfl, fnl⟩
                    clear st; intro w55 hB hsz55 st
                    have hb := hB _ _ hb (by omega) (by omega)
                    clear hB
                    refine sym_op st 3 (fI 0) rfl (Nat.le_of_ble_eq_true rfl) rfl rfl (by kernel_rfl) (ob_const (.int .i64 0) 3 (.inr rfl) rfl (.inl rfl) rfl) ?_
                    clear st; intro a56 w56 hbr st; have hs56 := hbr.size; have hb := up hb hbr; clear hbr
                    refine wpList_nil ?_
                    refine then_normal ?_
                    refine wp_ret ?_
                    exact sym_ret2 rfl st.defers (resAt_cell st 2 b2 26 (Con.tri 42 42 true (pv (bef (unsg l))) (pv (aft (unsg l)))) rfl row26 info26) (resAt_tmp st 3) hb (by rw [PR_ok ((pe_v h40 hsl h57 (Nat.ne_of_gt (ref_big h63))).trans (if_pos ((vldT_gcd (by rw [hneg, hp0]; rfl) (Nat.ne_of_gt (Nat.lt_of_succ_lt (ref_big h63)))).trans (yes_gcd h77)))), px_s hsl]; exact fun v u h1 h2 => ⟨v, u, rfl, vldT_fr ((vldT_gcd (by rw [hneg, hp0]; rfl) (Nat.ne_of_gt (Nat.lt_of_succ_lt (ref_big h63)))).trans (yes_gcd h77)) (by rw [hneg]; exact h1) (by decide) (by decide), h2⟩)
      · have hat : ((((unsg l)[j]'hj : Nat) : Int) != 47) = true := by rw [bne_iff_ne]; omega
        refine wp_seq ?_
        refine wp_seq ?_
        refine sym_region st [(20, fI ((j : Nat) : Int)), (21, Fact.eq (.string (ofB (unsg l)))), (22, fI ((unsg l).length : Int)), (23, fT), (24, fT), (25, Fact.eq (.string (ofB (unsg l)))), (26, fI ((j : Nat) : Int)), (27, Fact.eq (.int .u8 (((unsg l)[j]'hj : Nat) : Int))), (28, fT), (29, fT)] [] 10 (by kernel_rfl) (by kernel_rfl) (by kernel_rfl) (Nat.le_of_ble_eq_true rfl) (by kernel_rfl) rfl rfl ?_ ?_
        · refine fcn (ob_copy 5 20 (.inl rfl) rfl (.inl rfl) (by kernel_rfl) rfl) ?_
          refine fcn (ob_copy 0 21 (.inl rfl) rfl (.inl rfl) (by kernel_rfl) rfl) ?_
          refine fcn (ob_strlen 21 22 (unsg l) rfl rfl (.inl rfl) (by kernel_rfl) rfl rfl) ?_
          refine fcn (ob_lt2 20 22 23 .i64 _ _ ((j : Nat) : Int) ((unsg l).length : Int) true hlt rfl rfl (.inl rfl) (by kernel_rfl) (by kernel_rfl) rfl rfl rfl) ?_
          refine fcn (ob_copy 23 24 (.inl rfl) rfl (.inl rfl) (by kernel_rfl) rfl) ?_
          refine fcn (ob_copy 0 25 (.inl rfl) rfl (.inr ⟨_, _, _, rfl, rfl, by kernel_rfl, by decide, rfl⟩) (by kernel_rfl) rfl) ?_
          refine fcn (ob_copy 5 26 (.inl rfl) rfl (.inr ⟨_, _, _, rfl, rfl, by kernel_rfl, by decide, rfl⟩) (by kernel_rfl) rfl) ?_
          refine fcn (ob_strindex 25 26 27 j (unsg l) _ rfl h.unsg hj rfl rfl (.inr ⟨_, _, _, rfl, rfl, by kernel_rfl, by decide, rfl⟩) (by kernel_rfl) (by kernel_rfl) rfl rfl rfl) ?_
          refine fcn (ob_nec 27 28 .u8 5 _ (((unsg l)[j]'hj : Nat) : Int) 47 true hat rfl rfl (.inr ⟨_, _, _, rfl, rfl, by kernel_rfl, by decide, rfl⟩) (by kernel_rfl) rfl rfl) ?_
          refine fcn (ob_pick 24 28 29 _ rfl rfl (.inl rfl) (by kernel_rfl) (by kernel_rfl) rfl rfl) ?_
          exact fnl
        intro a57 w57 st57 hbr57 hfr
        have hs57 := hbr57.size
        have hb := up hb hbr57
        have st : St 83 [(0, Fact.eq (.string (ofB (unsg l)))), (2, Fact.cell b2 (Con.raw 3)), (3, fI 0), (4, Fact.eq (.bool (neg45 l))), (5, fI ((j : Nat) : Int)), (29, fT)] a57 w57 := st57.to (fcs ⟨st57.at_ 0, fcs ⟨st57.at_ 2, fcs ⟨st57.at_ 3, fcs ⟨st57.at_ 4, fcs ⟨st57.at_ 5, fcs ⟨st57.at_ 29, fnl⟩⟩⟩⟩⟩⟩)
        clear st57 hbr57 hfr
        refine wpList_nil ?_
        refine then_normal ?_
        refine wp_cond_true (st.at_ 29) ?_
        refine wp_skip ?_
        refine then_normal ?_
        refine wp_block ?_
        refine wp_region_lit ?_
        refine sym_op st 30 (fI ((j : Nat) : Int)) rfl (Nat.le_of_ble_eq_true rfl) rfl rfl (by kernel_rfl) (ob_copy 5 30 (.inl rfl) rfl (.inl rfl) (by kernel_rfl) rfl) ?_
        clear st; intro a59 w59 hbr st; have hs59 := hbr.size; have hb := up hb hbr; clear hbr
        refine sym_op st 31 (fI ((j + 1 : Nat) : Int)) rfl (Nat.le_of_ble_eq_true rfl) rfl rfl (by kernel_rfl) (ob_inc 30 31 _ _ j (by omega) rfl rfl (.inl rfl) (by kernel_rfl) rfl rfl) ?_
        clear st; intro a60 w60 hbr st; have hs60 := hbr.size; have hb := up hb hbr; clear hbr
        have st := st.to (ks' := [(0, Fact.eq (.string (ofB (unsg l)))), (2, Fact.cell b2 (Con.raw 3)), (3, fI 0), (4, Fact.eq (.bool (neg45 l))), (29, fT), (30, fI ((j : Nat) : Int)), (31, fI ((j + 1 : Nat) : Int))]) (fcs ⟨st.at_ 0, fcs ⟨st.at_ 2, fcs ⟨st.at_ 3, fcs ⟨st.at_ 4, fcs ⟨st.at_ 29, fcs ⟨st.at_ 30, fcs ⟨st.at_ 31, fnl⟩⟩⟩⟩⟩⟩⟩)
        refine sym_op st 5 (fI ((j + 1 : Nat) : Int)) rfl (Nat.le_of_ble_eq_true rfl) rfl rfl (by kernel_rfl) (ob_copy 31 5 (.inr rfl) rfl (.inl rfl) (by kernel_rfl) rfl) ?_
        clear st; intro a61 w61 hbr st; have hs61 := hbr.size; have hb := up hb hbr; clear hbr
        refine wpList_nil ?_
        refine inBlock_normal ?_
        refine then_normal ⟨_, ?_, j + 1, hj, nos_succ hns hj hc, st.to (fcs ⟨st.at_ 0, fcs ⟨st.at_ 2, fcs ⟨st.at_ 3, fcs ⟨st.at_ 4, fcs ⟨st.at_ 5, fnl⟩⟩⟩⟩⟩), hb, rfl⟩
        · omega
    · have hlt : decide (((j : Nat) : Int) < ((unsg l).length : Int)) = false := decide_eq_false (by omega)
      obtain ⟨eb, ea, es⟩ := bef_at hjl hns (.inl (Nat.le_antisymm hjl hj))
      have hsl : sls (unsg l) = false := by rw [es]; exact decide_eq_false (by omega)
      refine wp_seq ?_
      refine wp_seq ?_
      refine sym_region st [(20, fI ((j : Nat) : Int)), (21, Fact.eq (.string (ofB (unsg l)))), (22, fI ((unsg l).length : Int)), (23, fF), (24, fF), (25, Fact.eq undef), (26, Fact.eq undef), (27, Fact.eq undef), (28, Fact.eq undef), (29, fF)] [] 10 (by kernel_rfl) (by kernel_rfl) (by kernel_rfl) (Nat.le_of_ble_eq_true rfl) (by kernel_rfl) rfl rfl ?_ ?_
      · refine fcn (ob_copy 5 20 (.inl rfl) rfl (.inl rfl) (by kernel_rfl) rfl) ?_
        refine fcn (ob_copy 0 21 (.inl rfl) rfl (.inl rfl) (by kernel_rfl) rfl) ?_
        refine fcn (ob_strlen 21 22 (unsg l) rfl rfl (.inl rfl) (by kernel_rfl) rfl rfl) ?_
        refine fcn (ob_lt2 20 22 23 .i64 _ _ ((j : Nat) : Int) ((unsg l).length : Int) false hlt rfl rfl (.inl rfl) (by kernel_rfl) (by kernel_rfl) rfl rfl rfl) ?_
        refine fcn (ob_copy 23 24 (.inl rfl) rfl (.inl rfl) (by kernel_rfl) rfl) ?_
        refine fcn (ob_skip 4 24 25 true rfl rfl (by kernel_rfl) (by decide) rfl rfl rfl) ?_
        refine fcn (ob_skip 4 24 26 true rfl rfl (by kernel_rfl) (by decide) rfl rfl rfl) ?_
        refine fcn (ob_skip 4 24 27 true rfl rfl (by kernel_rfl) (by decide) rfl rfl rfl) ?_
        refine fcn (ob_skip 4 24 28 true rfl rfl (by kernel_rfl) (by decide) rfl rfl rfl) ?_
        refine fcn (ob_pick_no 24 28 29 (.bool false) rfl rfl (.inl rfl) (by kernel_rfl) rfl rfl) ?_
        exact fnl
      intro a62 w62 st62 hbr62 hfr
      have hs62 := hbr62.size
      have hb := up hb hbr62
      have st : St 83 [(0, Fact.eq (.string (ofB (unsg l)))), (2, Fact.cell b2 (Con.raw 3)), (3, fI 0), (4, Fact.eq (.bool (neg45 l))), (5, fI ((j : Nat) : Int)), (29, fF)] a62 w62 := st62.to (fcs ⟨st62.at_ 0, fcs ⟨st62.at_ 2, fcs ⟨st62.at_ 3, fcs ⟨st62.at_ 4, fcs ⟨st62.at_ 5, fcs ⟨st62.at_ 29, fnl⟩⟩⟩⟩⟩⟩)
      clear st62 hbr62 hfr
      refine wpList_nil ?_
      refine then_normal ?_
      refine wp_cond_false (st.at_ 29) ?_
      refine wp_exit ?_
      refine then_exit ?_
      refine then_exit ?_
      refine inBlock_exit ?_
      refine then_normal ?_
      refine wp_seq ?_
      refine sym_region st [(33, Fact.eq (.string (ofB (unsg l)))), (34, fI ((j : Nat) : Int)), (35, Fact.eq (.string (ofB (bef (unsg l))))), (36, Fact.two (Fact.agg (Con.nn 42 (pv (bef (unsg l))))) (fI (Nm.chk (bef (unsg l)) : Int))), (32, Fact.two (Fact.agg (Con.nn 42 (pv (bef (unsg l))))) (fI (Nm.chk (bef (unsg l)) : Int))), (37, Fact.agg (Con.nn 42 (pv (bef (unsg l))))), (38, fI (Nm.chk (bef (unsg l)) : Int)), (6, Fact.var' (Con.raw 1))] [6] 8 (by kernel_rfl) (by kernel_rfl) (by kernel_rfl) (Nat.le_of_ble_eq_true rfl) (by kernel_rfl) rfl rfl ?_ ?_
      · refine fcn (ob_copy 0 33 (.inl rfl) rfl (.inl rfl) (by kernel_rfl) rfl) ?_
        refine fcn (ob_copy 5 34 (.inl rfl) rfl (.inl rfl) (by kernel_rfl) rfl) ?_
        refine fcn (ob_strto 33 34 35 j (unsg l) h.unsg hjl hsu rfl rfl (.inl rfl) (by kernel_rfl) (by kernel_rfl) rfl rfl (congrArg (fun z => Fact.eq (.string (ofB z))) eb)) ?_
        refine fcn (ob_call1 71 35 36 _ rfl rfl (.inl rfl) (by kernel_rfl) (by kernel_rfl) (r_parse (bef (unsg l)) h.unsg.bef hsb)) ?_
        refine fcn (ob_copy 36 32 (.inl rfl) rfl (.inl rfl) (by kernel_rfl) rfl) ?_
        refine fcn (ob_fst 32 37 (Fact.agg (Con.nn 42 (pv (bef (unsg l))))) (fI (Nm.chk (bef (unsg l)) : Int)) rfl rfl (.inl rfl) (by kernel_rfl) rfl rfl) ?_
        refine fcn (ob_snd 32 38 (Fact.agg (Con.nn 42 (pv (bef (unsg l))))) (fI (Nm.chk (bef (unsg l)) : Int)) rfl rfl (.inl rfl) (by kernel_rfl) rfl rfl) ?_
        refine fcs ⟨obn_new 24 6 _ [.slice none 0 0] rfl rfl rfl rfl rfl alloc24, ?_⟩
        exact fnl
      intro a63 w63 st63 hbr63 hfr
      have hs63 := hbr63.size
      have hb := up hb hbr63
      obtain ⟨b6, c6⟩ := (show (Fact.var' (Con.raw 1)).holds _ _ from st63.at_ 6)
      have g6 := hfr.ge (s := 6) rfl c6.1
      have st : St 83 [(0, Fact.eq (.string (ofB (unsg l)))), (2, Fact.cell b2 (Con.raw 3)), (3, fI 0), (4, Fact.eq (.bool (neg45 l))), (5, fI ((j : Nat) : Int)), (37, Fact.agg (Con.nn 42 (pv (bef (unsg l))))), (38, fI (Nm.chk (bef (unsg l)) : Int)), (6, Fact.cell b6 (Con.raw 1))] a63 w63 := st63.to (fcs ⟨st63.at_ 0, fcs ⟨st63.at_ 2, fcs ⟨st63.at_ 3, fcs ⟨st63.at_ 4, fcs ⟨st63.at_ 5, fcs ⟨st63.at_ 37, fcs ⟨st63.at_ 38, fcs ⟨c6, fnl⟩⟩⟩⟩⟩⟩⟩⟩)
      clear st63 hbr63 hfr c6
      refine sym_store st 24 6 37 b6 (Con.raw 1) (Con.nn 42 (pv (bef (unsg l)))) [(0, Fact.eq (.string (ofB (unsg l)))), (2, Fact.cell b2 (Con.raw 3)), (3, fI 0), (4, Fact.eq (.bool (neg45 l))), (5, fI ((j : Nat) : Int)), (38, fI (Nm.chk (bef (unsg l)) : Int)), (6, Fact.cell b6 (Con.nn 42 (pv (bef (unsg l)))))] rfl rfl rfl rfl rfl rfl info24 ?_ ?_
      · exact fcs ⟨.inr ⟨rfl, safe_eq _ _⟩, fcs ⟨.inr ⟨rfl, safe_cell _ (by omega)⟩, fcs ⟨.inr ⟨rfl, safe_eq _ _⟩, fcs ⟨.inr ⟨rfl, safe_eq _ _⟩, fcs ⟨.inr ⟨rfl, safe_eq _ _⟩, fcs ⟨.inr ⟨rfl, safe_eq _ _⟩, fcs ⟨.inl rfl, fnl⟩⟩⟩⟩⟩⟩⟩
      clear st; intro w64 hB hsz64 st
      have hb := hB _ _ hb (by omega) (by omega)
      clear hB
      refine sym_op st 7 (fI (Nm.chk (bef (unsg l)) : Int)) rfl (Nat.le_of_ble_eq_true rfl) rfl rfl (by kernel_rfl) (ob_copy 38 7 (.inr rfl) rfl (.inl rfl) (by kernel_rfl) rfl) ?_
      clear st; intro a65 w65 hbr st; have hs65 := hbr.size; have hb := up hb hbr; clear hbr
      refine wpList_nil ?_
      refine then_normal ?_
      refine wp_seq ?_
      refine wp_seq ?_
      refine sym_region st [(39, fI (Nm.chk (bef (unsg l)) : Int)), (40, Fact.eq (.bool ((Nm.chk (bef (unsg l)) : Int) != 0)))] [] 2 (by kernel_rfl) (by kernel_rfl) (by kernel_rfl) (Nat.le_of_ble_eq_true rfl) (by kernel_rfl) rfl rfl ?_ ?_
      · refine fcn (ob_copy 7 39 (.inl rfl) rfl (.inl rfl) (by kernel_rfl) rfl) ?_
        refine fcn (ob_nec 39 40 .i64 33 _ (Nm.chk (bef (unsg l)) : Int) 0 ((Nm.chk (bef (unsg l)) : Int) != 0) rfl rfl rfl (.inl rfl) (by kernel_rfl) rfl rfl) ?_
        exact fnl
      intro a66 w66 st66 hbr66 hfr
      have hs66 := hbr66.size
      have hb := up hb hbr66
      have st : St 83 [(0, Fact.eq (.string (ofB (unsg l)))), (2, Fact.cell b2 (Con.raw 3)), (3, fI 0), (4, Fact.eq (.bool (neg45 l))), (5, fI ((j : Nat) : Int)), (6, Fact.cell b6 (Con.nn 42 (pv (bef (unsg l))))), (7, fI (Nm.chk (bef (unsg l)) : Int)), (40, Fact.eq (.bool ((Nm.chk (bef (unsg l)) : Int) != 0)))] a66 w66 := st66.to (fcs ⟨st66.at_ 0, fcs ⟨st66.at_ 2, fcs ⟨st66.at_ 3, fcs ⟨st66.at_ 4, fcs ⟨st66.at_ 5, fcs ⟨st66.at_ 6, fcs ⟨st66.at_ 7, fcs ⟨st66.at_ 40, fnl⟩⟩⟩⟩⟩⟩⟩⟩)
      clear st66 hbr66 hfr
      refine wpList_nil ?_
      refine then_normal ?_
      refine wp_cond_split (st.at_ 40) (fun h40 => ?_) (fun h40 => ?_)
      · skip
        refine wp_seq ?_
        have st := st.to (ks' := [(0, Fact.eq (.string (ofB (unsg l)))), (2, Fact.cell b2 (Con.raw 3)), (4, Fact.eq (.bool (neg45 l))), (5, fI ((j : Nat) : Int)), (6, Fact.cell b6 (Con.nn 42 (pv (bef (unsg l))))), (7, fI (Nm.chk (bef (unsg l)) : Int)), (40, Fact.eq (.bool ((Nm.chk (bef (unsg l)) : Int) != 0)))]) (fcs ⟨st.at_ 0, fcs ⟨st.at_ 2, fcs ⟨st.at_ 4, fcs ⟨st.at_ 5, fcs ⟨st.at_ 6, fcs ⟨st.at_ 7, fcs ⟨st.at_ 40, fnl⟩⟩⟩⟩⟩⟩⟩)
        refine sym_region st [(41, Fact.agg (Con.tri 1 1 false 0 0)), (42, fI (Nm.chk (bef (unsg l)) : Int))] [] 2 (by kernel_rfl) (by kernel_rfl) (by kernel_rfl) (Nat.le_of_ble_eq_true rfl) (by kernel_rfl) rfl rfl ?_ ?_
        · refine fcn (ob_buildzero 41 rfl rfl (.inl rfl) rfl) ?_
          refine fcn (ob_copy 7 42 (.inl rfl) rfl (.inl rfl) (by kernel_rfl) rfl) ?_
          exact fnl
        intro a67 w67 st67 hbr67 hfr
        have hs67 := hbr67.size
        have hb := up hb hbr67
        have st : St 83 [(0, Fact.eq (.string (ofB (unsg l)))), (2, Fact.cell b2 (Con.raw 3)), (4, Fact.eq (.bool (neg45 l))), (5, fI ((j : Nat) : Int)), (6, Fact.cell b6 (Con.nn 42 (pv (bef (unsg l))))), (7, fI (Nm.chk (bef (unsg l)) : Int)), (41, Fact.agg (Con.tri 1 1 false 0 0)), (42, fI (Nm.chk (bef (unsg l)) : Int))] a67 w67 := st67.to (fcs ⟨st67.at_ 0, fcs ⟨st67.at_ 2, fcs ⟨st67.at_ 4, fcs ⟨st67.at_ 5, fcs ⟨st67.at_ 6, fcs ⟨st67.at_ 7, fcs ⟨st67.at_ 41, fcs ⟨st67.at_ 42, fnl⟩⟩⟩⟩⟩⟩⟩⟩)
        clear st67 hbr67 hfr
        refine sym_store st 26 2 41 b2 (Con.raw 3) (Con.tri 1 1 false 0 0) [(0, Fact.eq (.string (ofB (unsg l)))), (2, Fact.cell b2 (Con.tri 1 1 false 0 0)), (4, Fact.eq (.bool (neg45 l))), (5, fI ((j : Nat) : Int)), (6, Fact.cell b6 (Con.nn 42 (pv (bef (unsg l))))), (7, fI (Nm.chk (bef (unsg l)) : Int)), (42, fI (Nm.chk (bef (unsg l)) : Int))] rfl rfl rfl rfl rfl rfl info26 ?_ ?_
        · exact fcs ⟨.inr ⟨rfl, safe_eq _ _⟩, fcs ⟨.inl rfl, fcs ⟨.inr ⟨rfl, safe_eq _ _⟩, fcs ⟨.inr ⟨rfl, safe_eq _ _⟩, fcs ⟨.inr ⟨rfl, safe_cell _ (by omega)⟩, fcs ⟨.inr ⟨rfl, safe_eq _ _⟩, fcs ⟨.inr ⟨rfl, safe_eq _ _⟩, fnl⟩⟩⟩⟩⟩⟩⟩
        clear st; intro w68 hB hsz68 st
        have hb := hB _ _ hb (by omega) (by omega)
        clear hB
        refine sym_op st 3 (fI (Nm.chk (bef (unsg l)) : Int)) rfl (Nat.le_of_ble_eq_true rfl) rfl rfl (by kernel_rfl) (ob_copy 42 3 (.inr rfl) rfl (.inl rfl) (by kernel_rfl) rfl) ?_
        clear st; intro a69 w69 hbr st; have hs69 := hbr.size; have hb := up hb hbr; clear hbr
        refine wpList_nil ?_
        refine then_normal ?_
        refine wp_ret ?_
        exact sym_ret2 rfl st.defers (resAt_cell st 2 b2 26 (Con.tri 1 1 false 0 0) rfl row26 info26) (resAt_tmp st 3) hb (by rw [PR_err (pe_e1 h40) (ne_of_bne h40)]; exact fun v u h1 h2 => ⟨v, u, rfl, h1, h2⟩)
      · skip
        refine wp_skip ?_
        refine then_normal ?_
        refine wp_seq ?_
        refine sym_region st [(43, Fact.agg (Con.nn 1 1)), (8, Fact.var' (Con.raw 1))] [8] 2 (by kernel_rfl) (by kernel_rfl) (by kernel_rfl) (Nat.le_of_ble_eq_true rfl) (by kernel_rfl) rfl rfl ?_ ?_
        · refine fcn (ob_callc 47 _ 43 _ rfl rfl (.inl rfl) (by kernel_rfl) (r_ofc 1 1 (by decide) (by unfold Nm.Sz; decide))) ?_
          refine fcs ⟨obn_new 24 8 _ [.slice none 0 0] rfl rfl rfl rfl rfl alloc24, ?_⟩
          exact fnl
        intro a70 w70 st70 hbr70 hfr
        have hs70 := hbr70.size
        have hb := up hb hbr70
        obtain ⟨b8, c8⟩ := (show (Fact.var' (Con.raw 1)).holds _ _ from st70.at_ 8)
        have g8 := hfr.ge (s := 8) rfl c8.1
        have st : St 83 [(0, Fact.eq (.string (ofB (unsg l)))), (2, Fact.cell b2 (Con.raw 3)), (3, fI 0), (4, Fact.eq (.bool (neg45 l))), (5, fI ((j : Nat) : Int)), (6, Fact.cell b6 (Con.nn 42 (pv (bef (unsg l))))), (7, fI (Nm.chk (bef (unsg l)) : Int)), (43, Fact.agg (Con.nn 1 1)), (8, Fact.cell b8 (Con.raw 1))] a70 w70 := st70.to (fcs ⟨st70.at_ 0, fcs ⟨st70.at_ 2, fcs ⟨st70.at_ 3, fcs ⟨st70.at_ 4, fcs ⟨st70.at_ 5, fcs ⟨st70.at_ 6, fcs ⟨st70.at_ 7, fcs ⟨st70.at_ 43, fcs ⟨c8, fnl⟩⟩⟩⟩⟩⟩⟩⟩⟩)
        clear st70 hbr70 hfr c8
        refine sym_store st 24 8 43 b8 (Con.raw 1) (Con.nn 1 1) [(0, Fact.eq (.string (ofB (unsg l)))), (2, Fact.cell b2 (Con.raw 3)), (3, fI 0), (4, Fact.eq (.bool (neg45 l))), (5, fI ((j : Nat) : Int)), (6, Fact.cell b6 (Con.nn 42 (pv (bef (unsg l))))), (7, fI (Nm.chk (bef (unsg l)) : Int)), (8, Fact.cell b8 (Con.nn 1 1))] rfl rfl rfl rfl rfl rfl info24 ?_ ?_
        · exact fcs ⟨.inr ⟨rfl, safe_eq _ _⟩, fcs ⟨.inr ⟨rfl, safe_cell _ (by omega)⟩, fcs ⟨.inr ⟨rfl, safe_eq _ _⟩, fcs ⟨.inr ⟨rfl, safe_eq _ _⟩, fcs ⟨.inr ⟨rfl, safe_eq _ _⟩, fcs ⟨.inr ⟨rfl, safe_cell _ (by omega)⟩, fcs ⟨.inr ⟨rfl, safe_eq _ _⟩, fcs ⟨.inl rfl, fnl⟩⟩⟩⟩⟩⟩⟩⟩
        clear st; intro w71 hB hsz71 st
        have hb := hB _ _ hb (by omega) (by omega)
        clear hB
        refine wpList_nil ?_
        refine then_normal ?_
        refine wp_seq ?_
        refine wp_seq ?_
        refine sym_region st [(44, fI ((j : Nat) : Int)), (45, Fact.eq (.string (ofB (unsg l)))), (46, fI ((unsg l).length : Int)), (47, fF)] [] 4 (by kernel_rfl) (by kernel_rfl) (by kernel_rfl) (Nat.le_of_ble_eq_true rfl) (by kernel_rfl) rfl rfl ?_ ?_
        · refine fcn (ob_copy 5 44 (.inl rfl) rfl (.inl rfl) (by kernel_rfl) rfl) ?_
          refine fcn (ob_copy 0 45 (.inl rfl) rfl (.inl rfl) (by kernel_rfl) rfl) ?_
          refine fcn (ob_strlen 45 46 (unsg l) rfl rfl (.inl rfl) (by kernel_rfl) rfl rfl) ?_
          refine fcn (ob_lt2 44 46 47 .i64 _ _ ((j : Nat) : Int) ((unsg l).length : Int) false hlt rfl rfl (.inl rfl) (by kernel_rfl) (by kernel_rfl) rfl rfl rfl) ?_
          exact fnl
        intro a72 w72 st72 hbr72 hfr
        have hs72 := hbr72.size
        have hb := up hb hbr72
        have st : St 83 [(0, Fact.eq (.string (ofB (unsg l)))), (2, Fact.cell b2 (Con.raw 3)), (3, fI 0), (4, Fact.eq (.bool (neg45 l))), (5, fI ((j : Nat) : Int)), (6, Fact.cell b6 (Con.nn 42 (pv (bef (unsg l))))), (7, fI (Nm.chk (bef (unsg l)) : Int)), (8, Fact.cell b8 (Con.nn 1 1)), (47, fF)] a72 w72 := st72.to (fcs ⟨st72.at_ 0, fcs ⟨st72.at_ 2, fcs ⟨st72.at_ 3, fcs ⟨st72.at_ 4, fcs ⟨st72.at_ 5, fcs ⟨st72.at_ 6, fcs ⟨st72.at_ 7, fcs ⟨st72.at_ 8, fcs ⟨st72.at_ 47, fnl⟩⟩⟩⟩⟩⟩⟩⟩⟩)
        clear st72 hbr72 hfr
        refine wpList_nil ?_
        refine then_normal ?_
        refine wp_cond_false (st.at_ 47) ?_
        refine wp_skip ?_
        refine then_normal ?_
        refine wp_seq ?_
        refine wp_seq ?_
        cases hneg : neg45 l with
        | false =>
          have st := st.to (ks' := [(0, Fact.eq (.string (ofB (unsg l)))), (2, Fact.cell b2 (Con.raw 3)), (3, fI 0), (4, Fact.eq (.bool false)), (5, fI ((j : Nat) : Int)), (6, Fact.cell b6 (Con.nn 42 (pv (bef (unsg l))))), (7, fI (Nm.chk (bef (unsg l)) : Int)), (8, Fact.cell b8 (Con.nn 1 1)), (47, Fact.eq (.bool false))]) (fcs ⟨st.at_ 0, fcs ⟨st.at_ 2, fcs ⟨st.at_ 3, fcs ⟨(by rw [← hneg]; exact st.at_ 4), fcs ⟨st.at_ 5, fcs ⟨st.at_ 6, fcs ⟨st.at_ 7, fcs ⟨st.at_ 8, fcs ⟨st.at_ 47, fnl⟩⟩⟩⟩⟩⟩⟩⟩⟩)
          refine sym_region st [(65, fF), (66, fF), (67, Fact.eq undef), (68, Fact.eq undef), (69, fF), (70, fF), (71, Fact.agg (Con.nn 42 (pv (bef (unsg l))))), (72, Fact.agg (Con.nn 1 1)), (73, Fact.agg (Con.nn 1 (Nat.gcd (pv (bef (unsg l))) 1))), (74, Fact.agg (Con.nn 1 1)), (75, Fact.eq (.bool (decide (Nat.gcd (pv (bef (unsg l))) 1 = 1)))), (76, Fact.eq (.bool (!(decide (Nat.gcd (pv (bef (unsg l))) 1 = 1))))), (77, Fact.eq (.bool (!(decide (Nat.gcd (pv (bef (unsg l))) 1 = 1)))))] [] 13 (by kernel_rfl) (by kernel_rfl) (by kernel_rfl) (Nat.le_of_ble_eq_true rfl) (by kernel_rfl) rfl rfl ?_ ?_
          · refine fcn (ob_copy 4 65 (.inl rfl) rfl (.inl rfl) (by kernel_rfl) rfl) ?_
            refine fcn (ob_copy 65 66 (.inl rfl) rfl (.inl rfl) (by kernel_rfl) rfl) ?_
            refine fcn (ob_skip 1 66 67 true rfl rfl (by kernel_rfl) (by decide) rfl rfl rfl) ?_
            refine fcn (ob_skip 1 66 68 true rfl rfl (by kernel_rfl) (by decide) rfl rfl rfl) ?_
            refine fcn (ob_pick_no 66 68 69 (.bool false) rfl rfl (.inl rfl) (by kernel_rfl) rfl rfl) ?_
            refine fcn (ob_copy 69 70 (.inl rfl) rfl (.inl rfl) (by kernel_rfl) rfl) ?_
            refine fcn (ob_read 24 6 71 (Con.nn 42 (pv (bef (unsg l)))) rfl rfl (.inr ⟨_, _, _, rfl, rfl, by kernel_rfl, by decide, rfl⟩) (by kernel_rfl) points_cell rfl row24 info24) ?_
            refine fcn (ob_read 24 8 72 (Con.nn 1 1) rfl rfl (.inr ⟨_, _, _, rfl, rfl, by kernel_rfl, by decide, rfl⟩) (by kernel_rfl) points_cell rfl row24 info24) ?_
            refine fcn (ob_call2 46 71 72 73 _ rfl rfl (.inr ⟨_, _, _, rfl, rfl, by kernel_rfl, by decide, rfl⟩) (by kernel_rfl) (by kernel_rfl) (by kernel_rfl) (r_gcd 42 1 (pv (bef (unsg l))) 1 Nat.one_ne_zero (by omega) (by omega))) ?_
            refine fcn (ob_callc 47 _ 74 _ rfl rfl (.inr ⟨_, _, _, rfl, rfl, by kernel_rfl, by decide, rfl⟩) (by kernel_rfl) (r_ofc 1 1 (by decide) (by unfold Nm.Sz; decide))) ?_
            refine fcn (ob_call2 45 73 74 75 _ rfl rfl (.inr ⟨_, _, _, rfl, rfl, by kernel_rfl, by decide, rfl⟩) (by kernel_rfl) (by kernel_rfl) (by kernel_rfl) (r_same 1 1 (Nat.gcd (pv (bef (unsg l))) 1) 1 (decide (Nat.gcd (pv (bef (unsg l))) 1 = 1)) rfl)) ?_
            refine fcn (ob_not 75 76 (decide (Nat.gcd (pv (bef (unsg l))) 1 = 1)) (!(decide (Nat.gcd (pv (bef (unsg l))) 1 = 1))) rfl rfl rfl (.inr ⟨_, _, _, rfl, rfl, by kernel_rfl, by decide, rfl⟩) (by kernel_rfl) rfl rfl) ?_
            refine fcn (ob_pick_else 70 76 77 (.bool true) rfl rfl (.inl rfl) (by kernel_rfl) (by kernel_rfl) rfl rfl) ?_
            exact fnl
          intro a73 w73 st73 hbr73 hfr
          have hs73 := hbr73.size
          have hb := up hb hbr73
          have st : St 83 [(2, Fact.cell b2 (Con.raw 3)), (3, fI 0), (4, fF), (6, Fact.cell b6 (Con.nn 42 (pv (bef (unsg l))))), (8, Fact.cell b8 (Con.nn 1 1)), (77, Fact.eq (.bool (!(decide (Nat.gcd (pv (bef (unsg l))) 1 = 1)))))] a73 w73 := st73.to (fcs ⟨st73.at_ 2, fcs ⟨st73.at_ 3, fcs ⟨st73.at_ 4, fcs ⟨st73.at_ 6, fcs ⟨st73.at_ 8, fcs ⟨st73.at_ 77, fnl⟩⟩⟩⟩⟩⟩)
          clear st73 hbr73 hfr
          refine wpList_nil ?_
          refine then_normal ?_
          refine wp_cond_split (st.at_ 77) (fun h77 => ?_) (fun h77 => ?_)
          · skip
            refine wp_seq ?_
            have st := st.to (ks' := [(2, Fact.cell b2 (Con.raw 3)), (4, fF), (6, Fact.cell b6 (Con.nn 42 (pv (bef (unsg l))))), (8, Fact.cell b8 (Con.nn 1 1)), (77, Fact.eq (.bool (!(decide (Nat.gcd (pv (bef (unsg l))) 1 = 1)))))]) (fcs ⟨st.at_ 2, fcs ⟨st.at_ 4, fcs ⟨st.at_ 6, fcs ⟨st.at_ 8, fcs ⟨st.at_ 77, fnl⟩⟩⟩⟩⟩)
            refine sym_region st [(78, Fact.agg (Con.tri 1 1 false 0 0))] [] 1 (by kernel_rfl) (by kernel_rfl) (by kernel_rfl) (Nat.le_of_ble_eq_true rfl) (by kernel_rfl) rfl rfl ?_ ?_
            · refine fcn (ob_buildzero 78 rfl rfl (.inl rfl) rfl) ?_
              exact fnl
            intro a74 w74 st74 hbr74 hfr
            have hs74 := hbr74.size
            have hb := up hb hbr74
            have st : St 83 [(2, Fact.cell b2 (Con.raw 3)), (4, fF), (6, Fact.cell b6 (Con.nn 42 (pv (bef (unsg l))))), (8, Fact.cell b8 (Con.nn 1 1)), (78, Fact.agg (Con.tri 1 1 false 0 0))] a74 w74 := st74.to (fcs ⟨st74.at_ 2, fcs ⟨st74.at_ 4, fcs ⟨st74.at_ 6, fcs ⟨st74.at_ 8, fcs ⟨st74.at_ 78, fnl⟩⟩⟩⟩⟩)
            clear st74 hbr74 hfr
            refine sym_store st 26 2 78 b2 (Con.raw 3) (Con.tri 1 1 false 0 0) [(2, Fact.cell b2 (Con.tri 1 1 false 0 0)), (4, fF), (6, Fact.cell b6 (Con.nn 42 (pv (bef (unsg l))))), (8, Fact.cell b8 (Con.nn 1 1))] rfl rfl rfl rfl rfl rfl info26 ?_ ?_
            · exact fcs ⟨.inl rfl, fcs ⟨.inr ⟨rfl, safe_eq _ _⟩, fcs ⟨.inr ⟨rfl, safe_cell _ (by omega)⟩, fcs ⟨.inr ⟨rfl, safe_cell _ (by omega)⟩, fnl⟩⟩⟩⟩
            clear st; intro w75 hB hsz75 st
            have hb := hB _ _ hb (by omega) (by omega)
            clear hB
            refine sym_op st 3 (fI 2) rfl (Nat.le_of_ble_eq_true rfl) rfl rfl (by kernel_rfl) (ob_const (.int .i64 2) 3 (.inr rfl) rfl (.inl rfl) rfl) ?_
            clear st; intro a76 w76 hbr st; have hs76 := hbr.size; have hb := up hb hbr; clear hbr
            refine wpList_nil ?_
            refine then_normal ?_
            refine wp_ret ?_
            exact sym_ret2 rfl st.defers (resAt_cell st 2 b2 26 (Con.tri 1 1 false 0 0) rfl row26 info26) (resAt_tmp st 3) hb (by rw [PR_err (e := 2) ((pe_w h40 hsl).trans (by rw [((vldT_gcd (by rw [hneg]; rfl) Nat.one_ne_zero).trans (not_gcd h77))]; rfl)) (by decide)]; exact fun v u h1 h2 => ⟨v, u, rfl, h1, h2⟩)
          · skip
            refine wp_skip ?_
            refine then_normal ?_
            refine wp_seq ?_
            have st := st.to (ks' := [(2, Fact.cell b2 (Con.raw 3)), (4, fF), (6, Fact.cell b6 (Con.nn 42 (pv (bef (unsg l))))), (8, Fact.cell b8 (Con.nn 1 1)), (77, Fact.eq (.bool (!(decide (Nat.gcd (pv (bef (unsg l))) 1 = 1)))))]) (fcs ⟨st.at_ 2, fcs ⟨st.at_ 4, fcs ⟨st.at_ 6, fcs ⟨st.at_ 8, fcs ⟨st.at_ 77, fnl⟩⟩⟩⟩⟩)
            refine sym_region st [(79, fF), (80, Fact.agg (Con.nn 42 (pv (bef (unsg l))))), (81, Fact.agg (Con.nn 1 1)), (82, Fact.agg (Con.tri 42 1 false (pv (bef (unsg l))) 1))] [] 4 (by kernel_rfl) (by kernel_rfl) (by kernel_rfl) (Nat.le_of_ble_eq_true rfl) (by kernel_rfl) rfl rfl ?_ ?_
            · refine fcn (ob_copy 4 79 (.inl rfl) rfl (.inl rfl) (by kernel_rfl) rfl) ?_
              refine fcn (ob_read 24 6 80 (Con.nn 42 (pv (bef (unsg l)))) rfl rfl (.inl rfl) (by kernel_rfl) points_cell rfl row24 info24) ?_
              refine fcn (ob_read 24 8 81 (Con.nn 1 1) rfl rfl (.inl rfl) (by kernel_rfl) points_cell rfl row24 info24) ?_
              refine fcn (ob_buildtri 79 80 81 82 42 1 (pv (bef (unsg l))) 1 false rfl rfl (.inl rfl) (by kernel_rfl) (by kernel_rfl) (by kernel_rfl) rfl rfl rfl rfl) ?_
              exact fnl
            intro a77 w77 st77 hbr77 hfr
            have hs77 := hbr77.size
            have hb := up hb hbr77
            have st : St 83 [(2, Fact.cell b2 (Con.raw 3)), (82, Fact.agg (Con.tri 42 1 false (pv (bef (unsg l))) 1))] a77 w77 := st77.to (fcs ⟨st77.at_ 2, fcs ⟨st77.at_ 82, fnl⟩⟩)
            clear st77 hbr77 hfr
            refine sym_store st 26 2 82 b2 (Con.raw 3) (Con.tri 42 1 false (pv (bef (unsg l))) 1) [(2, Fact.cell b2 (Con.tri 42 1 false (pv (bef (unsg l))) 1))] rfl rfl rfl rfl rfl rfl info26 ?_ ?_
            · exact fcs ⟨.inl rfl, fnl⟩
            clear st; intro w78 hB hsz78 st
            have hb := hB _ _ hb (by omega) (by omega)
            clear hB
            refine sym_op st 3 (fI 0) rfl (Nat.le_of_ble_eq_true rfl) rfl rfl (by kernel_rfl) (ob_const (.int .i64 0) 3 (.inr rfl) rfl (.inl rfl) rfl) ?_
            clear st; intro a79 w79 hbr st; have hs79 := hbr.size; have hb := up hb hbr; clear hbr
            refine wpList_nil ?_
            refine then_normal ?_
            refine wp_ret ?_
            exact sym_ret2 rfl st.defers (resAt_cell st 2 b2 26 (Con.tri 42 1 false (pv (bef (unsg l))) 1) rfl row26 info26) (resAt_tmp st 3) hb (by rw [PR_ok ((pe_w h40 hsl).trans (if_pos ((vldT_gcd (by rw [hneg]; rfl) Nat.one_ne_zero).trans (yes_gcd h77)))), px_n hsl]; exact fun v u h1 h2 => ⟨v, u, rfl, vldT_fr ((vldT_gcd (by rw [hneg]; rfl) Nat.one_ne_zero).trans (yes_gcd h77)) (by rw [hneg]; exact h1) (by decide) (by decide), h2⟩)
        | true =>
          cases hp0 : decide (pv (bef (unsg l)) = 0) with
          | true =>
            have st := st.to (ks' := [(0, Fact.eq (.string (ofB (unsg l)))), (2, Fact.cell b2 (Con.raw 3)), (3, fI 0), (4, Fact.eq (.bool true)), (5, fI ((j : Nat) : Int)), (6, Fact.cell b6 (Con.nn 42 (pv (bef (unsg l))))), (7, fI (Nm.chk (bef (unsg l)) : Int)), (8, Fact.cell b8 (Con.nn 1 1)), (47, Fact.eq (.bool false))]) (fcs ⟨st.at_ 0, fcs ⟨st.at_ 2, fcs ⟨st.at_ 3, fcs ⟨(by rw [← hneg]; exact st.at_ 4), fcs ⟨st.at_ 5, fcs ⟨st.at_ 6, fcs ⟨st.at_ 7, fcs ⟨st.at_ 8, fcs ⟨st.at_ 47, fnl⟩⟩⟩⟩⟩⟩⟩⟩⟩)
            refine sym_region st [(65, fT), (66, fT), (67, Fact.agg (Con.nn 42 (pv (bef (unsg l))))), (68, fT), (69, fT), (70, fT), (71, Fact.eq undef), (72, Fact.eq undef), (73, Fact.eq undef), (74, Fact.eq undef), (75, Fact.eq undef), (76, Fact.eq undef), (77, fT)] [] 13 (by kernel_rfl) (by kernel_rfl) (by kernel_rfl) (Nat.le_of_ble_eq_true rfl) (by kernel_rfl) rfl rfl ?_ ?_
            · refine fcn (ob_copy 4 65 (.inl rfl) rfl (.inl rfl) (by kernel_rfl) rfl) ?_
              refine fcn (ob_copy 65 66 (.inl rfl) rfl (.inl rfl) (by kernel_rfl) rfl) ?_
              refine fcn (ob_read 24 6 67 (Con.nn 42 (pv (bef (unsg l)))) rfl rfl (.inr ⟨_, _, _, rfl, rfl, by kernel_rfl, by decide, rfl⟩) (by kernel_rfl) points_cell rfl row24 info24) ?_
              refine fcn (ob_call1 44 67 68 _ rfl rfl (.inr ⟨_, _, _, rfl, rfl, by kernel_rfl, by decide, rfl⟩) (by kernel_rfl) (by kernel_rfl) (z_zero 42 (pv (bef (unsg l))) true hp0)) ?_
              refine fcn (ob_pick 66 68 69 _ rfl rfl (.inl rfl) (by kernel_rfl) (by kernel_rfl) rfl rfl) ?_
              refine fcn (ob_copy 69 70 (.inl rfl) rfl (.inl rfl) (by kernel_rfl) rfl) ?_
              refine fcn (ob_skip 5 70 71 false rfl rfl (by kernel_rfl) (by decide) rfl rfl rfl) ?_
              refine fcn (ob_skip 5 70 72 false rfl rfl (by kernel_rfl) (by decide) rfl rfl rfl) ?_
              refine fcn (ob_skip 5 70 73 false rfl rfl (by kernel_rfl) (by decide) rfl rfl rfl) ?_
              refine fcn (ob_skip 5 70 74 false rfl rfl (by kernel_rfl) (by decide) rfl rfl rfl) ?_
              refine fcn (ob_skip 5 70 75 false rfl rfl (by kernel_rfl) (by decide) rfl rfl rfl) ?_
              refine fcn (ob_skip 5 70 76 false rfl rfl (by kernel_rfl) (by decide) rfl rfl rfl) ?_
              refine fcn (ob_pick_or 70 76 77 (.bool true) rfl rfl (.inl rfl) (by kernel_rfl) rfl rfl) ?_
              exact fnl
            intro a80 w80 st80 hbr80 hfr
            have hs80 := hbr80.size
            have hb := up hb hbr80
            have st : St 83 [(2, Fact.cell b2 (Con.raw 3)), (3, fI 0), (4, fT), (6, Fact.cell b6 (Con.nn 42 (pv (bef (unsg l))))), (8, Fact.cell b8 (Con.nn 1 1)), (77, fT)] a80 w80 := st80.to (fcs ⟨st80.at_ 2, fcs ⟨st80.at_ 3, fcs ⟨st80.at_ 4, fcs ⟨st80.at_ 6, fcs ⟨st80.at_ 8, fcs ⟨st80.at_ 77, fnl⟩⟩⟩⟩⟩⟩)
            clear st80 hbr80 hfr
            refine wpList_nil ?_
            refine then_normal ?_
            refine wp_cond_true (st.at_ 77) ?_
            refine wp_seq ?_
            have st := st.to (ks' := [(2, Fact.cell b2 (Con.raw 3)), (4, fT), (6, Fact.cell b6 (Con.nn 42 (pv (bef (unsg l))))), (8, Fact.cell b8 (Con.nn 1 1)), (77, fT)]) (fcs ⟨st.at_ 2, fcs ⟨st.at_ 4, fcs ⟨st.at_ 6, fcs ⟨st.at_ 8, fcs ⟨st.at_ 77, fnl⟩⟩⟩⟩⟩)
            refine sym_region st [(78, Fact.agg (Con.tri 1 1 false 0 0))] [] 1 (by kernel_rfl) (by kernel_rfl) (by kernel_rfl) (Nat.le_of_ble_eq_true rfl) (by kernel_rfl) rfl rfl ?_ ?_
            · refine fcn (ob_buildzero 78 rfl rfl (.inl rfl) rfl) ?_
              exact fnl
            intro a81 w81 st81 hbr81 hfr
            have hs81 := hbr81.size
            have hb := up hb hbr81
            have st : St 83 [(2, Fact.cell b2 (Con.raw 3)), (4, fT), (6, Fact.cell b6 (Con.nn 42 (pv (bef (unsg l))))), (8, Fact.cell b8 (Con.nn 1 1)), (78, Fact.agg (Con.tri 1 1 false 0 0))] a81 w81 := st81.to (fcs ⟨st81.at_ 2, fcs ⟨st81.at_ 4, fcs ⟨st81.at_ 6, fcs ⟨st81.at_ 8, fcs ⟨st81.at_ 78, fnl⟩⟩⟩⟩⟩)
            clear st81 hbr81 hfr
            refine sym_store st 26 2 78 b2 (Con.raw 3) (Con.tri 1 1 false 0 0) [(2, Fact.cell b2 (Con.tri 1 1 false 0 0)), (4, fT), (6, Fact.cell b6 (Con.nn 42 (pv (bef (unsg l))))), (8, Fact.cell b8 (Con.nn 1 1))] rfl rfl rfl rfl rfl rfl info26 ?_ ?_
            · exact fcs ⟨.inl rfl, fcs ⟨.inr ⟨rfl, safe_eq _ _⟩, fcs ⟨.inr ⟨rfl, safe_cell _ (by omega)⟩, fcs ⟨.inr ⟨rfl, safe_cell _ (by omega)⟩, fnl⟩⟩⟩⟩
            clear st; intro w82 hB hsz82 st
            have hb := hB _ _ hb (by omega) (by omega)
            clear hB
            refine sym_op st 3 (fI 2) rfl (Nat.le_of_ble_eq_true rfl) rfl rfl (by kernel_rfl) (ob_const (.int .i64 2) 3 (.inr rfl) rfl (.inl rfl) rfl) ?_
            clear st; intro a83 w83 hbr st; have hs83 := hbr.size; have hb := up hb hbr; clear hbr
            refine wpList_nil ?_
            refine then_normal ?_
            refine wp_ret ?_
            exact sym_ret2 rfl st.defers (resAt_cell st 2 b2 26 (Con.tri 1 1 false 0 0) rfl row26 info26) (resAt_tmp st 3) hb (by rw [PR_err (e := 2) ((pe_w h40 hsl).trans (by rw [(vldT_no0 hneg hp0)]; rfl)) (by decide)]; exact fun v u h1 h2 => ⟨v, u, rfl, h1, h2⟩)
          | false =>
            have st := st.to (ks' := [(0, Fact.eq (.string (ofB (unsg l)))), (2, Fact.cell b2 (Con.raw 3)), (3, fI 0), (4, Fact.eq (.bool true)), (5, fI ((j : Nat) : Int)), (6, Fact.cell b6 (Con.nn 42 (pv (bef (unsg l))))), (7, fI (Nm.chk (bef (unsg l)) : Int)), (8, Fact.cell b8 (Con.nn 1 1)), (47, Fact.eq (.bool false))]) (fcs ⟨st.at_ 0, fcs ⟨st.at_ 2, fcs ⟨st.at_ 3, fcs ⟨(by rw [← hneg]; exact st.at_ 4), fcs ⟨st.at_ 5, fcs ⟨st.at_ 6, fcs ⟨st.at_ 7, fcs ⟨st.at_ 8, fcs ⟨st.at_ 47, fnl⟩⟩⟩⟩⟩⟩⟩⟩⟩)
            refine sym_region st [(65, fT), (66, fT), (67, Fact.agg (Con.nn 42 (pv (bef (unsg l))))), (68, fF), (69, fF), (70, fF), (71, Fact.agg (Con.nn 42 (pv (bef (unsg l))))), (72, Fact.agg (Con.nn 1 1)), (73, Fact.agg (Con.nn 1 (Nat.gcd (pv (bef (unsg l))) 1))), (74, Fact.agg (Con.nn 1 1)), (75, Fact.eq (.bool (decide (Nat.gcd (pv (bef (unsg l))) 1 = 1)))), (76, Fact.eq (.bool (!(decide (Nat.gcd (pv (bef (unsg l))) 1 = 1))))), (77, Fact.eq (.bool (!(decide (Nat.gcd (pv (bef (unsg l))) 1 = 1)))))] [] 13 (by kernel_rfl) (by kernel_rfl) (by kernel_rfl) (Nat.le_of_ble_eq_true rfl) (by kernel_rfl) rfl rfl ?_ ?_
            · refine fcn (ob_copy 4 65 (.inl rfl) rfl (.inl rfl) (by kernel_rfl) rfl) ?_
              refine fcn (ob_copy 65 66 (.inl rfl) rfl (.inl rfl) (by kernel_rfl) rfl) ?_
              refine fcn (ob_read 24 6 67 (Con.nn 42 (pv (bef (unsg l)))) rfl rfl (.inr ⟨_, _, _, rfl, rfl, by kernel_rfl, by decide, rfl⟩) (by kernel_rfl) points_cell rfl row24 info24) ?_
              refine fcn (ob_call1 44 67 68 _ rfl rfl (.inr ⟨_, _, _, rfl, rfl, by kernel_rfl, by decide, rfl⟩) (by kernel_rfl) (by kernel_rfl) (z_zero 42 (pv (bef (unsg l))) false hp0)) ?_
              refine fcn (ob_pick 66 68 69 _ rfl rfl (.inl rfl) (by kernel_rfl) (by kernel_rfl) rfl rfl) ?_
              refine fcn (ob_copy 69 70 (.inl rfl) rfl (.inl rfl) (by kernel_rfl) rfl) ?_
              refine fcn (ob_read 24 6 71 (Con.nn 42 (pv (bef (unsg l)))) rfl rfl (.inr ⟨_, _, _, rfl, rfl, by kernel_rfl, by decide, rfl⟩) (by kernel_rfl) points_cell rfl row24 info24) ?_
              refine fcn (ob_read 24 8 72 (Con.nn 1 1) rfl rfl (.inr ⟨_, _, _, rfl, rfl, by kernel_rfl, by decide, rfl⟩) (by kernel_rfl) points_cell rfl row24 info24) ?_
              refine fcn (ob_call2 46 71 72 73 _ rfl rfl (.inr ⟨_, _, _, rfl, rfl, by kernel_rfl, by decide, rfl⟩) (by kernel_rfl) (by kernel_rfl) (by kernel_rfl) (r_gcd 42 1 (pv (bef (unsg l))) 1 Nat.one_ne_zero (by omega) (by omega))) ?_
              refine fcn (ob_callc 47 _ 74 _ rfl rfl (.inr ⟨_, _, _, rfl, rfl, by kernel_rfl, by decide, rfl⟩) (by kernel_rfl) (r_ofc 1 1 (by decide) (by unfold Nm.Sz; decide))) ?_
              refine fcn (ob_call2 45 73 74 75 _ rfl rfl (.inr ⟨_, _, _, rfl, rfl, by kernel_rfl, by decide, rfl⟩) (by kernel_rfl) (by kernel_rfl) (by kernel_rfl) (r_same 1 1 (Nat.gcd (pv (bef (unsg l))) 1) 1 (decide (Nat.gcd (pv (bef (unsg l))) 1 = 1)) rfl)) ?_
              refine fcn (ob_not 75 76 (decide (Nat.gcd (pv (bef (unsg l))) 1 = 1)) (!(decide (Nat.gcd (pv (bef (unsg l))) 1 = 1))) rfl rfl rfl (.inr ⟨_, _, _, rfl, rfl, by kernel_rfl, by decide, rfl⟩) (by kernel_rfl) rfl rfl) ?_
              refine fcn (ob_pick_else 70 76 77 (.bool true) rfl rfl (.inl rfl) (by kernel_rfl) (by kernel_rfl) rfl rfl) ?_
              exact fnl
            intro a84 w84 st84 hbr84 hfr
            have hs84 := hbr84.size
            have hb := up hb hbr84
            have st : St 83 [(2, Fact.cell b2 (Con.raw 3)), (3, fI 0), (4, fT), (6, Fact.cell b6 (Con.nn 42 (pv (bef (unsg l))))), (8, Fact.cell b8 (Con.nn 1 1)), (77, Fact.eq (.bool (!(decide (Nat.gcd (pv (bef (unsg l))) 1 = 1)))))] a84 w84 := st84.to (fcs ⟨st84.at_ 2, fcs ⟨st84.at_ 3, fcs ⟨st84.at_ 4, fcs ⟨st84.at_ 6, fcs ⟨st84.at_ 8, fcs ⟨st84.at_ 77, fnl⟩⟩⟩⟩⟩⟩)
            clear st84 hbr84 hfr
            refine wpList_nil ?_
            refine then_normal ?_
            refine wp_cond_split (st.at_ 77) (fun h77 => ?_) (fun h77 => ?_)
            · skip
              refine wp_seq ?_
              have st := st.to (ks' := [(2, Fact.cell b2 (Con.raw 3)), (4, fT), (6, Fact.cell b6 (Con.nn 42 (pv (bef (unsg l))))), (8, Fact.cell b8 (Con.nn 1 1)), (77, Fact.eq (.bool (!(decide (Nat.gcd (pv (bef (unsg l))) 1 = 1)))))]) (fcs ⟨st.at_ 2, fcs ⟨st.at_ 4, fcs ⟨st.at_ 6, fcs ⟨st.at_ 8, fcs ⟨st.at_ 77, fnl⟩⟩⟩⟩⟩)
              refine sym_region st [(78, Fact.agg (Con.tri 1 1 false 0 0))] [] 1 (by kernel_rfl) (by kernel_rfl) (by kernel_rfl) (Nat.le_of_ble_eq_true rfl) (by kernel_rfl) rfl rfl ?_ ?_
              · refine fcn (ob_buildzero 78 rfl rfl (.inl rfl) rfl) ?_
                exact fnl
              intro a85 w85 st85 hbr85 hfr
              have hs85 := hbr85.size
              have hb := up hb hbr85
              have st : St 83 [(2, Fact.cell b2 (Con.raw 3)), (4, fT), (6, Fact.cell b6 (Con.nn 42 (pv (bef (unsg l))))), (8, Fact.cell b8 (Con.nn 1 1)), (78, Fact.agg (Con.tri 1 1 false 0 0))] a85 w85 := st85.to (fcs ⟨st85.at_ 2, fcs ⟨st85.at_ 4, fcs ⟨st85.at_ 6, fcs ⟨st85.at_ 8, fcs ⟨st85.at_ 78, fnl⟩⟩⟩⟩⟩)
              clear st85 hbr85 hfr
              refine sym_store st 26 2 78 b2 (Con.raw 3) (Con.tri 1 1 false 0 0) [(2, Fact.cell b2 (Con.tri 1 1 false 0 0)), (4, fT), (6, Fact.cell b6 (Con.nn 42 (pv (bef (unsg l))))), (8, Fact.cell b8 (Con.nn 1 1))] rfl rfl rfl rfl rfl rfl info26 ?_ ?_
              · exact fcs ⟨.inl rfl, fcs ⟨.inr ⟨rfl, safe_eq _ _⟩, fcs ⟨.inr ⟨rfl, safe_cell _ (by omega)⟩, fcs ⟨.inr ⟨rfl, safe_cell _ (by omega)⟩, fnl⟩⟩⟩⟩
              clear st; intro w86 hB hsz86 st
              have hb := hB _ _ hb (by omega) (by omega)
              clear hB
              refine sym_op st 3 (fI 2) rfl (Nat.le_of_ble_eq_true rfl) rfl rfl (by kernel_rfl) (ob_const (.int .i64 2) 3 (.inr rfl) rfl (.inl rfl) rfl) ?_
              clear st; intro a87 w87 hbr st; have hs87 := hbr.size; have hb := up hb hbr; clear hbr
              refine wpList_nil ?_
              refine then_normal ?_
              refine wp_ret ?_
              exact sym_ret2 rfl st.defers (resAt_cell st 2 b2 26 (Con.tri 1 1 false 0 0) rfl row26 info26) (resAt_tmp st 3) hb (by rw [PR_err (e := 2) ((pe_w h40 hsl).trans (by rw [((vldT_gcd (by rw [hneg, hp0]; rfl) Nat.one_ne_zero).trans (not_gcd h77))]; rfl)) (by decide)]; exact fun v u h1 h2 => ⟨v, u, rfl, h1, h2⟩)
            · skip
              refine wp_skip ?_
              refine then_normal ?_
              refine wp_seq ?_
              have st := st.to (ks' := [(2, Fact.cell b2 (Con.raw 3)), (4, fT), (6, Fact.cell b6 (Con.nn 42 (pv (bef (unsg l))))), (8, Fact.cell b8 (Con.nn 1 1)), (77, Fact.eq (.bool (!(decide (Nat.gcd (pv (bef (unsg l))) 1 = 1)))))]) (fcs ⟨st.at_ 2, fcs ⟨st.at_ 4, fcs ⟨st.at_ 6, fcs ⟨st.at_ 8, fcs ⟨st.at_ 77, fnl⟩⟩⟩⟩⟩)
              refine sym_region st [(79, fT), (80, Fact.agg (Con.nn 42 (pv (bef (unsg l))))), (81, Fact.agg (Con.nn 1 1)), (82, Fact.agg (Con.tri 42 1 true (pv (bef (unsg l))) 1))] [] 4 (by kernel_rfl) (by kernel_rfl) (by kernel_rfl) (Nat.le_of_ble_eq_true rfl) (by kernel_rfl) rfl rfl ?_ ?_
              · refine fcn (ob_copy 4 79 (.inl rfl) rfl (.inl rfl) (by kernel_rfl) rfl) ?_
                refine fcn (ob_read 24 6 80 (Con.nn 42 (pv (bef (unsg l)))) rfl rfl (.inl rfl) (by kernel_rfl) points_cell rfl row24 info24) ?_
                refine fcn (ob_read 24 8 81 (Con.nn 1 1) rfl rfl (.inl rfl) (by kernel_rfl) points_cell rfl row24 info24) ?_
                refine fcn (ob_buildtri 79 80 81 82 42 1 (pv (bef (unsg l))) 1 true rfl rfl (.inl rfl) (by kernel_rfl) (by kernel_rfl) (by kernel_rfl) rfl rfl rfl rfl) ?_
                exact fnl
              intro a88 w88 st88 hbr88 hfr
              have hs88 := hbr88.size
              have hb := up hb hbr88
              have st : St 83 [(2, Fact.cell b2 (Con.raw 3)), (82, Fact.agg (Con.tri 42 1 true (pv (bef (unsg l))) 1))] a88 w88 := st88.to (fcs ⟨st88.at_ 2, fcs ⟨st88.at_ 82, fnl⟩⟩)
              clear st88 hbr88 hfr
              refine sym_store st 26 2 82 b2 (Con.raw 3) (Con.tri 42 1 true (pv (bef (unsg l))) 1) [(2, Fact.cell b2 (Con.tri 42 1 true (pv (bef (unsg l))) 1))] rfl rfl rfl rfl rfl rfl info26 ?_ ?_
              · exact fcs ⟨.inl rfl, fnl⟩
              clear st; intro w89 hB hsz89 st
              have hb := hB _ _ hb (by omega) (by omega)
              clear hB
              refine sym_op st 3 (fI 0) rfl (Nat.le_of_ble_eq_true rfl) rfl rfl (by kernel_rfl) (ob_const (.int .i64 0) 3 (.inr rfl) rfl (.inl rfl) rfl) ?_
              clear st; intro a90 w90 hbr st; have hs90 := hbr.size; have hb := up hb hbr; clear hbr
              refine wpList_nil ?_
              refine then_normal ?_
              refine wp_ret ?_
              exact sym_ret2 rfl st.defers (resAt_cell st 2 b2 26 (Con.tri 42 1 true (pv (bef (unsg l))) 1) rfl row26 info26) (resAt_tmp st 3) hb (by rw [PR_ok ((pe_w h40 hsl).trans (if_pos ((vldT_gcd (by rw [hneg, hp0]; rfl) Nat.one_ne_zero).trans (yes_gcd h77)))), px_n hsl]; exact fun v u h1 h2 => ⟨v, u, rfl, vldT_fr ((vldT_gcd (by rw [hneg, hp0]; rfl) Nat.one_ne_zero).trans (yes_gcd h77)) (by rw [hneg]; exact h1) (by decide) (by decide), h2⟩)
end Go.Proofs.YtjfehdkfogdpgaaGreatDoor
namespace Go.Proofs.YtjfehdkfogdpgaaGreatDoor
open Go.RowKit
theorem chk_parts {l : List Nat} (h : Nm.chk l = 0) : l.length ≠ 0 ∧ l.length ≤ 400 ∧ Nm.alldec l ∧ ¬ (l.head? = some 48 ∧ 1 < l.length) := by
  unfold Nm.chk at h
  split at h
  · cases h
  · split at h
    · cases h
    · split at h
      · cases h
      · rename_i h1 h2 h3
        split at h
        · cases h
        · rename_i h4
          exact ⟨h1, by omega, Classical.byContradiction h3, h4⟩
theorem dec_pv {l : List Nat} (h : Nm.chk l = 0) : Nm.dec (pv l) = l := by
  obtain ⟨h1, _, h3, h4⟩ := chk_parts h
  unfold pv
  rw [if_pos h]
  exact Nm.dec_dval h1 h3 h4
theorem chk_dec {p : Nat} (h : (Nm.dec p).length ≤ 400) : Nm.chk (Nm.dec p) = 0 := chk_ok (Nm.dec_len p) (by omega) (Nm.dec_alldec p) (Nm.dec_lead p)
theorem pv_dec {p : Nat} (h : (Nm.dec p).length ≤ 400) : pv (Nm.dec p) = p := by
  unfold pv
  rw [if_pos (chk_dec h)]
  exact Nm.dval_dec p
theorem sls_split {u : List Nat} (h : sls u = true) : u = (bef u ++ [47]) ++ aft u := by
  induction u with
  | nil => cases h
  | cons c u ih =>
    by_cases hc : c = 47
    · subst hc; simp [bef, aft]
    · have hnb : (c != 47) = true := bne_iff_ne.2 hc
      have h1 : sls u = true := by
        unfold sls at h ⊢
        rw [List.contains_cons, show (47 == c) = false from beq_eq_false_iff_ne.2 (Ne.symm hc), Bool.false_or] at h
        exact h
      have e1 : bef (c :: u) = c :: bef u := by unfold bef; rw [List.takeWhile_cons, hnb, if_pos rfl]
      have e2 : aft (c :: u) = aft u := by unfold aft; rw [List.dropWhile_cons, hnb, if_pos rfl]
      rw [e1, e2, List.cons_append, List.cons_append, ← ih h1]
theorem sls_none {u : List Nat} (h : sls u = false) : bef u = u := by
  induction u with
  | nil => rfl
  | cons c u ih =>
    unfold sls at h
    rw [List.contains_cons, Bool.or_eq_false_iff] at h
    have hc : (c != 47) = true := by
      rw [bne_iff_ne]
      rintro rfl
      have := h.1
      rw [beq_self_eq_true] at this
      cases this
    have e1 : bef (c :: u) = c :: bef u := by unfold bef; rw [List.takeWhile_cons, hc, if_pos rfl]
    rw [e1, ih h.2]
theorem unsg_split {l : List Nat} : l = if neg45 l = true then [45] ++ unsg l else unsg l := by
  unfold unsg
  split
  · rename_i h
    cases l with
    | nil => cases h
    | cons c l =>
      unfold neg45 at h
      have : c = 45 := by simpa using h
      subst this; rfl
  · rfl
theorem vldT_vld {s : Bool} {p q : Nat} (h : vldT s p q = true) : Rt.Vld s p q := by
  unfold vldT at h
  rw [Bool.and_eq_true, Bool.and_eq_true] at h
  obtain ⟨h1, h2, h3⟩ := h
  exact ⟨by simpa using h1, of_decide_eq_true h3, fun hs => by subst hs; simpa using h2⟩
theorem vld_vldT {s : Bool} {p q : Nat} (h : Rt.Vld s p q) : vldT s p q = true := by
  unfold vldT
  rw [decide_eq_false h.pos, decide_eq_true h.low]
  cases s with
  | false => rfl
  | true => rw [decide_eq_false (h.zero rfl)]; rfl
theorem fmt_px {l : List Nat} (h : pe l = 0) : fmt (px l) = l := by
  have hc : Nm.chk (bef (unsg l)) = 0 := by
    apply Classical.byContradiction
    intro e
    unfold pe at h
    rw [if_pos e] at h
    exact e h
  have hb : ((Nm.chk (bef (unsg l)) : Int) != 0) = false := by rw [hc]; rfl
  have hl := unsg_split (l := l)
  cases hs : sls (unsg l) with
  | true =>
    have ha : Nm.chk (aft (unsg l)) = 0 := by
      apply Classical.byContradiction
      intro e
      have h2 := pe_e2 hb hs (bne_iff_ne.2 (by omega))
      rw [h] at h2
      exact e h2.symm
    have hab : ((Nm.chk (aft (unsg l)) : Int) != 0) = false := by rw [ha]; rfl
    have h1 : pv (aft (unsg l)) ≠ 1 := fun e => by rw [pe_b1 hb hs hab e] at h; cases h
    have hv : vldT (neg45 l) (pv (bef (unsg l))) (pv (aft (unsg l))) = true := by
      apply Classical.byContradiction
      intro e
      rw [pe_v hb hs hab h1, if_neg e] at h
      cases h
    have v := vldT_vld hv
    rw [px_s hs]
    unfold fmt
    rw [v.den, v.tp, v.ng, decide_eq_false h1, dec_pv hc, dec_pv ha, if_neg (by decide)]
    have e := sls_split hs
    cases hn : neg45 l with
    | false =>
      rw [hn, if_neg (by decide)] at hl
      rw [if_neg (by decide), ← e, ← hl]
    | true =>
      rw [hn, if_pos rfl] at hl
      rw [if_pos rfl, List.append_assoc, List.append_assoc, ← List.append_assoc (bef (unsg l)), ← e, ← hl]
  | false =>
    have hv : vldT (neg45 l) (pv (bef (unsg l))) 1 = true := by
      apply Classical.byContradiction
      intro e
      rw [pe_w hb hs, if_neg e] at h
      cases h
    have v := vldT_vld hv
    rw [px_n hs]
    unfold fmt
    rw [v.den, v.tp, v.ng, decide_eq_true rfl, if_pos rfl, dec_pv hc, sls_none hs]
    exact hl.symm
theorem px_len {l : List Nat} (h : pe l = 0) : (Nm.dec (Rt.tp (px l))).length ≤ 100000 ∧ (Nm.dec (px l).den).length ≤ 100000 := by
  have hc : Nm.chk (bef (unsg l)) = 0 := by
    apply Classical.byContradiction
    intro e
    unfold pe at h
    rw [if_pos e] at h
    exact e h
  have hb : ((Nm.chk (bef (unsg l)) : Int) != 0) = false := by rw [hc]; rfl
  have z1 := (chk_parts hc).2.1
  cases hs : sls (unsg l) with
  | true =>
    have ha : Nm.chk (aft (unsg l)) = 0 := by
      apply Classical.byContradiction
      intro e
      have h2 := pe_e2 hb hs (bne_iff_ne.2 (by omega))
      rw [h] at h2
      exact e h2.symm
    have hab : ((Nm.chk (aft (unsg l)) : Int) != 0) = false := by rw [ha]; rfl
    have h1 : pv (aft (unsg l)) ≠ 1 := fun e => by rw [pe_b1 hb hs hab e] at h; cases h
    have hv : vldT (neg45 l) (pv (bef (unsg l))) (pv (aft (unsg l))) = true := by
      apply Classical.byContradiction
      intro e
      rw [pe_v hb hs hab h1, if_neg e] at h
      cases h
    have v := vldT_vld hv
    have z2 := (chk_parts ha).2.1
    rw [px_s hs, v.den, v.tp, dec_pv hc, dec_pv ha]
    omega
  | false =>
    have hv : vldT (neg45 l) (pv (bef (unsg l))) 1 = true := by
      apply Classical.byContradiction
      intro e
      rw [pe_w hb hs, if_neg e] at h
      cases h
    have v := vldT_vld hv
    have z2 : (Nm.dec 1).length ≤ 400 := dec_sz (k := 1) (by decide) (by unfold Nm.Sz; decide)
    rw [px_n hs, v.den, v.tp, dec_pv hc]
    omega
theorem bef_dec (p : Nat) (m : List Nat) : bef (Nm.dec p ++ 47 :: m) = Nm.dec p ∧ aft (Nm.dec p ++ 47 :: m) = m ∧ sls (Nm.dec p ++ 47 :: m) = true := by
  have h := Nm.dec_alldec p
  generalize Nm.dec p = d at h
  induction d with
  | nil => exact ⟨by simp [bef], by simp [aft], by simp [sls]⟩
  | cons c d ih =>
    have hc : (c != 47) = true := bne_iff_ne.2 (by have := h c (List.mem_cons_self ..); omega)
    obtain ⟨i1, i2, i3⟩ := ih (fun x hx => h x (List.mem_cons_of_mem _ hx))
    rw [List.cons_append]
    refine ⟨?_, ?_, ?_⟩
    · unfold bef at i1 ⊢; rw [List.takeWhile_cons, hc, if_pos rfl, i1]
    · unfold aft at i2 ⊢; rw [List.dropWhile_cons, hc, if_pos rfl, i2]
    · unfold sls at i3 ⊢; rw [List.contains_cons, i3, Bool.or_true]
theorem sls_dec (p : Nat) : sls (Nm.dec p) = false := by
  have h := Nm.dec_alldec p
  generalize Nm.dec p = d at h
  induction d with
  | nil => rfl
  | cons c d ih =>
    unfold sls at ih ⊢
    rw [List.contains_cons, ih (fun x hx => h x (List.mem_cons_of_mem _ hx)), Bool.or_false]
    exact beq_eq_false_iff_ne.2 (by have := h c (List.mem_cons_self ..); omega)
theorem neg_dec (p : Nat) (m : List Nat) : neg45 (Nm.dec p ++ m) = false := by
  have h := Nm.dec_alldec p
  have h0 := Nm.dec_len p
  generalize Nm.dec p = d at h h0
  cases d with
  | nil => exact absurd rfl h0
  | cons c d =>
    have hc := h c (List.mem_cons_self ..)
    unfold neg45
    show (some c == some 45) = false
    exact beq_eq_false_iff_ne.2 (by intro e; injection e with e; omega)
theorem unsg_of {n : Bool} {u : List Nat} (hu : neg45 u = false) : neg45 (if n = true then [45] ++ u else u) = n ∧ unsg (if n = true then [45] ++ u else u) = u := by
  cases n with
  | false => exact ⟨by rw [if_neg (by decide)]; exact hu, by rw [if_neg (by decide)]; exact unsg_no hu⟩
  | true => exact ⟨rfl, rfl⟩
theorem pe_fmt {x : Rat} (hz : Rt.Sz 12 x) : pe (fmt x) = 0 ∧ px (fmt x) = x := by
  have hp := dec_sz (by decide) hz.1
  have hq := dec_sz (by decide) hz.2
  have v := Rt.vld x
  have vt := vld_vldT v
  by_cases h1 : x.den = 1
  · have e : fmt x = if Rt.ng x = true then [45] ++ Nm.dec (Rt.tp x) else Nm.dec (Rt.tp x) := by unfold fmt; rw [decide_eq_true h1, if_pos rfl]
    have hn := neg_dec (Rt.tp x) []
    rw [List.append_nil] at hn
    obtain ⟨i1, i2⟩ := unsg_of (n := Rt.ng x) hn
    rw [← e] at i1 i2
    have hs : sls (unsg (fmt x)) = false := by rw [i2]; exact sls_dec _
    have hb : bef (unsg (fmt x)) = Nm.dec (Rt.tp x) := by rw [i2]; exact sls_none (sls_dec _)
    have hc : ((Nm.chk (bef (unsg (fmt x))) : Int) != 0) = false := by rw [hb, chk_dec hp]; rfl
    rw [h1] at vt
    constructor
    · rw [pe_w hc hs, i1, hb, pv_dec hp, if_pos vt]
    · rw [px_n hs, i1, hb, pv_dec hp, ← h1]; exact Rt.of_parts x
  · have e : fmt x = if Rt.ng x = true then [45] ++ (Nm.dec (Rt.tp x) ++ 47 :: Nm.dec x.den) else Nm.dec (Rt.tp x) ++ 47 :: Nm.dec x.den := by
      unfold fmt; rw [decide_eq_false h1, if_neg (by decide)]; split <;> simp
    obtain ⟨i1, i2⟩ := unsg_of (n := Rt.ng x) (neg_dec (Rt.tp x) (47 :: Nm.dec x.den))
    rw [← e] at i1 i2
    obtain ⟨b1, b2, b3⟩ := bef_dec (Rt.tp x) (Nm.dec x.den)
    rw [← i2] at b1 b2 b3
    have hc : ((Nm.chk (bef (unsg (fmt x))) : Int) != 0) = false := by rw [b1, chk_dec hp]; rfl
    have ha : ((Nm.chk (aft (unsg (fmt x))) : Int) != 0) = false := by rw [b2, chk_dec hq]; rfl
    constructor
    · rw [pe_v hc b3 ha (by rw [b2, pv_dec hq]; exact h1), i1, b1, b2, pv_dec hp, pv_dec hq, if_pos vt]
    · rw [px_s b3, i1, b1, b2, pv_dec hp, pv_dec hq]; exact Rt.of_parts x
theorem byt_fmt (x : Rat) : Byt (fmt x) := by
  have h45 : Byt [45] := byt_lit rfl
  have h47 : Byt [47] := byt_lit rfl
  have ap : ∀ {l m : List Nat}, Byt l → Byt m → Byt (l ++ m) := fun h1 h2 c hc => (List.mem_append.1 hc).elim (h1 c) (h2 c)
  unfold fmt
  split <;> split
  · exact ap h45 (byt_dec _)
  · exact byt_dec _
  · exact ap (ap (ap h45 (byt_dec _)) h47) (byt_dec _)
  · exact ap (ap (byt_dec _) h47) (byt_dec _)
theorem len_fmt {x : Rat} (hz : Rt.Sz 12 x) : (fmt x).length ≤ 1000000 := by
  have hp := dec_sz (by decide) hz.1
  have hq := dec_sz (by decide) hz.2
  unfold fmt
  split <;> split
  · simp only [List.length_append, List.length_cons, List.length_nil]; omega
  · omega
  · simp only [List.length_append, List.length_cons, List.length_nil]; omega
  · simp only [List.length_append, List.length_cons, List.length_nil]; omega
end Go.Proofs.YtjfehdkfogdpgaaGreatDoor
namespace Go.Proofs.YtjfehdkfogdpgaaGreatDoor
open Go.RowKit
theorem q_parse_no (l : List Nat) (h : Byt l) (hs : l.length ≤ 1000000) (e : Nat) (he : pe l = e) (h0 : e ≠ 0) : ∀ v w, (Fact.eq (.string (ofB l))).holds v w → Calls Tryz.prog 33 #[v] w (Ret (Fact.two (Fact.agg (Con.tri 1 1 false 0 0)) (fI (e : Int))) w) := by
  rw [← PR_err he h0]; exact q_parse l h hs
theorem q_parse_yes (l : List Nat) (h : Byt l) (hs : l.length ≤ 1000000) (x : Rat) (he : pe l = 0) (hx : px l = x) : ∀ v w, (Fact.eq (.string (ofB l))).holds v w → Calls Tryz.prog 33 #[v] w (Ret (Fact.two (Fact.fr 42 x) (fI 0)) w) := by
  subst hx; rw [← PR_ok he]; exact q_parse l h hs
theorem z_parse_no (l : List Nat) (h : Byt l) (hs : l.length ≤ 1000000) (e : Nat) (he : pe l = e) (h0 : e ≠ 0) : ∀ v w, (Fact.eq (.string (ofB l))).holds v w → Calls Tryz.prog 34 #[v] w (Ret (Fact.two (Fact.agg (Con.tri 1 1 false 0 0)) (fI (e : Int))) w) := by
  rw [← PR_err he h0]; exact z_parse l h hs
theorem z_parse_yes (l : List Nat) (h : Byt l) (hs : l.length ≤ 1000000) (x : Rat) (he : pe l = 0) (hx : px l = x) : ∀ v w, (Fact.eq (.string (ofB l))).holds v w → Calls Tryz.prog 34 #[v] w (Ret (Fact.two (Fact.fr 42 x) (fI 0)) w) := by
  subst hx; rw [← PR_ok he]; exact z_parse l h hs
theorem q_format_px (l : List Nat) (he : pe l = 0) : ∀ v w, (Fact.agg (Con.fr 42 (px l))).holds v w → Calls Tryz.prog 35 #[v] w (Ret (Fact.eq (.string (ofB l))) w) := by
  intro v w hv
  have h := q_format 42 (px l) (px_len he).1 (px_len he).2 v w hv
  rw [fmt_px he] at h
  exact h
theorem q_format12 (x : Rat) : ∀ v w, (Fact.agg (Con.fr 12 x)).holds v w → Calls Tryz.prog 35 #[v] w (Ret (Fact.eq (.string (ofB (fmt x)))) w) := q_formatk 12 x (by decide) (fmt x) rfl
theorem z_format12 (x : Rat) : ∀ v w, (Fact.agg (Con.fr 12 x)).holds v w → Calls Tryz.prog 36 #[v] w (Ret (Fact.eq (.string (ofB (fmt x)))) w) := by
  intro v w hv
  have z := Fact.fr_sz hv
  have h1 := dec_sz (by decide) z.1
  have h2 := dec_sz (by decide) z.2
  exact z_format 12 x (by omega) (by omega) v w hv
theorem ob_eqstr {ops : Array Oper} {Q : Exit → Act → World → Prop} {F : Nat → Fact} {base : List Nat} {N : Nat} {o : Oper} (t s d : Nat) (ty' : TypeId) (x : ByteArray) (ho : o.op = .binOp .eql 9 (.tmp t) (.tmp s) ty') (hd : o.dst = some d) (hg : GuardOk ops F base N o) (hk : known ops base o t = true) (hk2 : known ops base o s = true) (hv : F t = Fact.eq (.string x)) (hv2 : F s = Fact.eq (.string x)) (hF : F d = fT) : Ob ops Q F base N o :=
  ob_two t s d _ _ _ hd hg hk hk2 hv hv2 hF fun a w h1 h2 => by
    simp [execOp, ho, h1, h2]
    go_simp
theorem ob_nestr {ops : Array Oper} {Q : Exit → Act → World → Prop} {F : Nat → Fact} {base : List Nat} {N : Nat} {o : Oper} (t s d : Nat) (ty' : TypeId) (x : ByteArray) (ho : o.op = .binOp .neq 9 (.tmp t) (.tmp s) ty') (hd : o.dst = some d) (hg : GuardOk ops F base N o) (hk : known ops base o t = true) (hk2 : known ops base o s = true) (hv : F t = Fact.eq (.string x)) (hv2 : F s = Fact.eq (.string x)) (hF : F d = fF) : Ob ops Q F base N o :=
  ob_two t s d _ _ _ hd hg hk hk2 hv hv2 hF fun a w h1 h2 => by
    simp [execOp, ho, h1, h2]
    go_simp
set_option maxRecDepth 100000 in
theorem law_texts_long (s : Bool) (xs ys l : List Nat) (hlen : decide ((l.length : Int) > 900) = true) : ∀ v0 v1 w, (Fact.agg (Con.pre s xs ys)).holds v0 w → (Fact.eq (.string (ofB l))).holds v1 w → Calls Tryz.prog 7 #[v0, v1] w (Ret (fT) w) := by
  intro v0 v1 w hv0 hv1
  refine sym_calls 72 [(0, Fact.agg (Con.pre s xs ys)), (1, Fact.eq (.string (ofB l)))] Tryz.func7 rfl rfl (Nat.le_of_ble_eq_true rfl) (fcs ⟨⟨Nat.le_of_ble_eq_true rfl, hv0⟩, fcs ⟨⟨Nat.le_of_ble_eq_true rfl, hv1⟩, fnl⟩⟩) fun a st => ?_
  have hb := Below.refl w.heap.size w
  refine wp_seq ?_
  refine sym_region st [(2, Fact.var' (Con.pre s xs ys)), (4, fF)] [2] 2 (by kernel_rfl) (by kernel_rfl) (by kernel_rfl) (Nat.le_of_ble_eq_true rfl) (by kernel_rfl) rfl rfl ?_ ?_
  · refine fcs ⟨obn_box 26 0 2 _ (Con.pre s xs ys) rfl rfl rfl (by kernel_rfl) rfl rfl, ?_⟩
    refine fcn (ob_const (.bool false) 4 (.inr rfl) rfl (.inl rfl) rfl) ?_
    exact fnl
  intro a1 w1 st1 hbr1 hfr
  have hs1 := hbr1.size
  have hb := up hb hbr1
  obtain ⟨b2, c2⟩ := (show (Fact.var' (Con.pre s xs ys)).holds _ _ from st1.at_ 2)
  have g2 := hfr.ge (s := 2) rfl c2.1
  have st : St 72 [(1, Fact.eq (.string (ofB l))), (2, Fact.cell b2 (Con.pre s xs ys)), (4, fF)] a1 w1 := st1.to (fcs ⟨st1.at_ 1, fcs ⟨c2, fcs ⟨st1.at_ 4, fnl⟩⟩⟩)
  clear st1 hbr1 hfr c2
  refine wpList_nil ?_
  refine then_normal ?_
  refine wp_seq ?_
  refine wp_seq ?_
  refine sym_region st [(12, Fact.eq (.string (ofB l))), (13, fI ((l).length : Int)), (14, fT)] [] 3 (by kernel_rfl) (by kernel_rfl) (by kernel_rfl) (Nat.le_of_ble_eq_true rfl) (by kernel_rfl) rfl rfl ?_ ?_
  · refine fcn (ob_copy 1 12 (.inl rfl) rfl (.inl rfl) (by kernel_rfl) rfl) ?_
    refine fcn (ob_strlen 12 13 l rfl rfl (.inl rfl) (by kernel_rfl) rfl rfl) ?_
    refine fcn (ob_gtc 13 14 .i64 3 _ ((l).length : Int) 900 true hlen rfl rfl (.inl rfl) (by kernel_rfl) rfl rfl) ?_
    exact fnl
  intro a2 w2 st2 hbr2 hfr
  have hs2 := hbr2.size
  have hb := up hb hbr2
  have st : St 72 [(1, Fact.eq (.string (ofB l))), (2, Fact.cell b2 (Con.pre s xs ys)), (4, fF), (14, fT)] a2 w2 := st2.to (fcs ⟨st2.at_ 1, fcs ⟨st2.at_ 2, fcs ⟨st2.at_ 4, fcs ⟨st2.at_ 14, fnl⟩⟩⟩⟩)
  clear st2 hbr2 hfr
  refine wpList_nil ?_
  refine then_normal ?_
  refine wp_cond_true (st.at_ 14) ?_
  refine wp_seq ?_
  have st := st.to (ks' := [(1, Fact.eq (.string (ofB l))), (2, Fact.cell b2 (Con.pre s xs ys)), (14, fT)]) (fcs ⟨st.at_ 1, fcs ⟨st.at_ 2, fcs ⟨st.at_ 14, fnl⟩⟩⟩)
  refine sym_region st [(15, fT), (4, fT)] [] 2 (by kernel_rfl) (by kernel_rfl) (by kernel_rfl) (Nat.le_of_ble_eq_true rfl) (by kernel_rfl) rfl rfl ?_ ?_
  · refine fcn (ob_call0 9 15 _ rfl rfl (.inl rfl) (by kernel_rfl) w_awake) ?_
    refine fcn (ob_copy 15 4 (.inr rfl) rfl (.inl rfl) (by kernel_rfl) rfl) ?_
    exact fnl
  intro a3 w3 st3 hbr3 hfr
  have hs3 := hbr3.size
  have hb := up hb hbr3
  have st : St 72 [(1, Fact.eq (.string (ofB l))), (2, Fact.cell b2 (Con.pre s xs ys)), (4, fT)] a3 w3 := st3.to (fcs ⟨st3.at_ 1, fcs ⟨st3.at_ 2, fcs ⟨st3.at_ 4, fnl⟩⟩⟩)
  clear st3 hbr3 hfr
  refine wpList_nil ?_
  refine then_normal ?_
  refine wp_ret ?_
  exact sym_ret1 rfl st.defers (resAt_tmp st 4) hb (fun _ h => h)
set_option maxRecDepth 100000 in
theorem law_texts_0n (s : Bool) (xs ys : List Nat) (hf : fitB s xs ys = false) (l : List Nat) (h : Byt l) (hlen : decide ((l.length : Int) > 900) = false) (e : Nat) (he : pe l = e) (h0 : e ≠ 0) : ∀ v0 v1 w, (Fact.agg (Con.pre s xs ys)).holds v0 w → (Fact.eq (.string (ofB l))).holds v1 w → Calls Tryz.prog 7 #[v0, v1] w (Ret (fT) w) := by
  intro v0 v1 w hv0 hv1
  have hs : l.length ≤ 1000000 := by have := of_decide_eq_false hlen; omega
  refine sym_calls 72 [(0, Fact.agg (Con.pre s xs ys)), (1, Fact.eq (.string (ofB l)))] Tryz.func7 rfl rfl (Nat.le_of_ble_eq_true rfl) (fcs ⟨⟨Nat.le_of_ble_eq_true rfl, hv0⟩, fcs ⟨⟨Nat.le_of_ble_eq_true rfl, hv1⟩, fnl⟩⟩) fun a st => ?_
  have hb := Below.refl w.heap.size w
  refine wp_seq ?_
  refine sym_region st [(2, Fact.var' (Con.pre s xs ys)), (4, fF)] [2] 2 (by kernel_rfl) (by kernel_rfl) (by kernel_rfl) (Nat.le_of_ble_eq_true rfl) (by kernel_rfl) rfl rfl ?_ ?_
  · refine fcs ⟨obn_box 26 0 2 _ (Con.pre s xs ys) rfl rfl rfl (by kernel_rfl) rfl rfl, ?_⟩
    refine fcn (ob_const (.bool false) 4 (.inr rfl) rfl (.inl rfl) rfl) ?_
    exact fnl
  intro a1 w1 st1 hbr1 hfr
  have hs1 := hbr1.size
  have hb := up hb hbr1
  obtain ⟨b2, c2⟩ := (show (Fact.var' (Con.pre s xs ys)).holds _ _ from st1.at_ 2)
  have g2 := hfr.ge (s := 2) rfl c2.1
  have st : St 72 [(1, Fact.eq (.string (ofB l))), (2, Fact.cell b2 (Con.pre s xs ys)), (4, fF)] a1 w1 := st1.to (fcs ⟨st1.at_ 1, fcs ⟨c2, fcs ⟨st1.at_ 4, fnl⟩⟩⟩)
  clear st1 hbr1 hfr c2
  refine wpList_nil ?_
  refine then_normal ?_
  refine wp_seq ?_
  refine wp_seq ?_
  refine sym_region st [(12, Fact.eq (.string (ofB l))), (13, fI ((l).length : Int)), (14, fF)] [] 3 (by kernel_rfl) (by kernel_rfl) (by kernel_rfl) (Nat.le_of_ble_eq_true rfl) (by kernel_rfl) rfl rfl ?_ ?_
  · refine fcn (ob_copy 1 12 (.inl rfl) rfl (.inl rfl) (by kernel_rfl) rfl) ?_
    refine fcn (ob_strlen 12 13 l rfl rfl (.inl rfl) (by kernel_rfl) rfl rfl) ?_
    refine fcn (ob_gtc 13 14 .i64 3 _ ((l).length : Int) 900 false hlen rfl rfl (.inl rfl) (by kernel_rfl) rfl rfl) ?_
    exact fnl
  intro a2 w2 st2 hbr2 hfr
  have hs2 := hbr2.size
  have hb := up hb hbr2
  have st : St 72 [(1, Fact.eq (.string (ofB l))), (2, Fact.cell b2 (Con.pre s xs ys)), (4, fF), (14, fF)] a2 w2 := st2.to (fcs ⟨st2.at_ 1, fcs ⟨st2.at_ 2, fcs ⟨st2.at_ 4, fcs ⟨st2.at_ 14, fnl⟩⟩⟩⟩)
  clear st2 hbr2 hfr
  refine wpList_nil ?_
  refine then_normal ?_
  refine wp_cond_false (st.at_ 14) ?_
  refine wp_skip ?_
  refine then_normal ?_
  refine wp_seq ?_
  refine sym_region st [(17, Fact.eq (.string (ofB l))), (18, Fact.two (Fact.agg (Con.tri 1 1 false 0 0)) (fI (e : Int))), (16, Fact.two (Fact.agg (Con.tri 1 1 false 0 0)) (fI (e : Int))), (19, Fact.agg (Con.tri 1 1 false 0 0)), (20, fI (e : Int)), (5, Fact.var' (Con.raw 3))] [5] 6 (by kernel_rfl) (by kernel_rfl) (by kernel_rfl) (Nat.le_of_ble_eq_true rfl) (by kernel_rfl) rfl rfl ?_ ?_
  · refine fcn (ob_copy 1 17 (.inl rfl) rfl (.inl rfl) (by kernel_rfl) rfl) ?_
    refine fcn (ob_call1 33 17 18 _ rfl rfl (.inl rfl) (by kernel_rfl) (by kernel_rfl) (q_parse_no l h hs e he h0)) ?_
    refine fcn (ob_copy 18 16 (.inl rfl) rfl (.inl rfl) (by kernel_rfl) rfl) ?_
    refine fcn (ob_fst 16 19 (Fact.agg (Con.tri 1 1 false 0 0)) (fI (e : Int)) rfl rfl (.inl rfl) (by kernel_rfl) rfl rfl) ?_
    refine fcn (ob_snd 16 20 (Fact.agg (Con.tri 1 1 false 0 0)) (fI (e : Int)) rfl rfl (.inl rfl) (by kernel_rfl) rfl rfl) ?_
    refine fcs ⟨obn_new 26 5 _ [.bool false, .slice none 0 0, .slice none 0 0] rfl rfl rfl rfl rfl alloc26, ?_⟩
    exact fnl
  intro a3 w3 st3 hbr3 hfr
  have hs3 := hbr3.size
  have hb := up hb hbr3
  obtain ⟨b5, c5⟩ := (show (Fact.var' (Con.raw 3)).holds _ _ from st3.at_ 5)
  have g5 := hfr.ge (s := 5) rfl c5.1
  have st : St 72 [(1, Fact.eq (.string (ofB l))), (2, Fact.cell b2 (Con.pre s xs ys)), (4, fF), (19, Fact.agg (Con.tri 1 1 false 0 0)), (20, fI (e : Int)), (5, Fact.cell b5 (Con.raw 3))] a3 w3 := st3.to (fcs ⟨st3.at_ 1, fcs ⟨st3.at_ 2, fcs ⟨st3.at_ 4, fcs ⟨st3.at_ 19, fcs ⟨st3.at_ 20, fcs ⟨c5, fnl⟩⟩⟩⟩⟩⟩)
  clear st3 hbr3 hfr c5
  refine sym_store st 26 5 19 b5 (Con.raw 3) (Con.tri 1 1 false 0 0) [(1, Fact.eq (.string (ofB l))), (2, Fact.cell b2 (Con.pre s xs ys)), (4, fF), (20, fI (e : Int)), (5, Fact.cell b5 (Con.tri 1 1 false 0 0))] rfl rfl rfl rfl rfl rfl info26 ?_ ?_
  · exact fcs ⟨.inr ⟨rfl, safe_eq _ _⟩, fcs ⟨.inr ⟨rfl, safe_cell _ (by omega)⟩, fcs ⟨.inr ⟨rfl, safe_eq _ _⟩, fcs ⟨.inr ⟨rfl, safe_eq _ _⟩, fcs ⟨.inl rfl, fnl⟩⟩⟩⟩⟩
  clear st; intro w4 hB hsz4 st
  have hb := hB _ _ hb (by omega) (by omega)
  clear hB
  refine sym_op st 6 (fI (e : Int)) rfl (Nat.le_of_ble_eq_true rfl) rfl rfl (by kernel_rfl) (ob_copy 20 6 (.inr rfl) rfl (.inl rfl) (by kernel_rfl) rfl) ?_
  clear st; intro a5 w5 hbr st; have hs5 := hbr.size; have hb := up hb hbr; clear hbr
  refine wpList_nil ?_
  refine then_normal ?_
  refine wp_seq ?_
  refine sym_region st [(22, Fact.eq (.string (ofB l))), (23, Fact.two (Fact.agg (Con.tri 1 1 false 0 0)) (fI (e : Int))), (21, Fact.two (Fact.agg (Con.tri 1 1 false 0 0)) (fI (e : Int))), (24, Fact.agg (Con.tri 1 1 false 0 0)), (25, fI (e : Int)), (7, Fact.var' (Con.raw 3))] [7] 6 (by kernel_rfl) (by kernel_rfl) (by kernel_rfl) (Nat.le_of_ble_eq_true rfl) (by kernel_rfl) rfl rfl ?_ ?_
  · refine fcn (ob_copy 1 22 (.inl rfl) rfl (.inl rfl) (by kernel_rfl) rfl) ?_
    refine fcn (ob_call1 34 22 23 _ rfl rfl (.inl rfl) (by kernel_rfl) (by kernel_rfl) (z_parse_no l h hs e he h0)) ?_
    refine fcn (ob_copy 23 21 (.inl rfl) rfl (.inl rfl) (by kernel_rfl) rfl) ?_
    refine fcn (ob_fst 21 24 (Fact.agg (Con.tri 1 1 false 0 0)) (fI (e : Int)) rfl rfl (.inl rfl) (by kernel_rfl) rfl rfl) ?_
    refine fcn (ob_snd 21 25 (Fact.agg (Con.tri 1 1 false 0 0)) (fI (e : Int)) rfl rfl (.inl rfl) (by kernel_rfl) rfl rfl) ?_
    refine fcs ⟨obn_new 26 7 _ [.bool false, .slice none 0 0, .slice none 0 0] rfl rfl rfl rfl rfl alloc26, ?_⟩
    exact fnl
  intro a6 w6 st6 hbr6 hfr
  have hs6 := hbr6.size
  have hb := up hb hbr6
  obtain ⟨b7, c7⟩ := (show (Fact.var' (Con.raw 3)).holds _ _ from st6.at_ 7)
  have g7 := hfr.ge (s := 7) rfl c7.1
  have st : St 72 [(1, Fact.eq (.string (ofB l))), (2, Fact.cell b2 (Con.pre s xs ys)), (4, fF), (5, Fact.cell b5 (Con.tri 1 1 false 0 0)), (6, fI (e : Int)), (24, Fact.agg (Con.tri 1 1 false 0 0)), (25, fI (e : Int)), (7, Fact.cell b7 (Con.raw 3))] a6 w6 := st6.to (fcs ⟨st6.at_ 1, fcs ⟨st6.at_ 2, fcs ⟨st6.at_ 4, fcs ⟨st6.at_ 5, fcs ⟨st6.at_ 6, fcs ⟨st6.at_ 24, fcs ⟨st6.at_ 25, fcs ⟨c7, fnl⟩⟩⟩⟩⟩⟩⟩⟩)
  clear st6 hbr6 hfr c7
  refine sym_store st 26 7 24 b7 (Con.raw 3) (Con.tri 1 1 false 0 0) [(1, Fact.eq (.string (ofB l))), (2, Fact.cell b2 (Con.pre s xs ys)), (4, fF), (5, Fact.cell b5 (Con.tri 1 1 false 0 0)), (6, fI (e : Int)), (25, fI (e : Int)), (7, Fact.cell b7 (Con.tri 1 1 false 0 0))] rfl rfl rfl rfl rfl rfl info26 ?_ ?_
  · exact fcs ⟨.inr ⟨rfl, safe_eq _ _⟩, fcs ⟨.inr ⟨rfl, safe_cell _ (by omega)⟩, fcs ⟨.inr ⟨rfl, safe_eq _ _⟩, fcs ⟨.inr ⟨rfl, safe_cell _ (by omega)⟩, fcs ⟨.inr ⟨rfl, safe_eq _ _⟩, fcs ⟨.inr ⟨rfl, safe_eq _ _⟩, fcs ⟨.inl rfl, fnl⟩⟩⟩⟩⟩⟩⟩
  clear st; intro w7 hB hsz7 st
  have hb := hB _ _ hb (by omega) (by omega)
  clear hB
  refine sym_op st 8 (fI (e : Int)) rfl (Nat.le_of_ble_eq_true rfl) rfl rfl (by kernel_rfl) (ob_copy 25 8 (.inr rfl) rfl (.inl rfl) (by kernel_rfl) rfl) ?_
  clear st; intro a8 w8 hbr st; have hs8 := hbr.size; have hb := up hb hbr; clear hbr
  refine wpList_nil ?_
  refine then_normal ?_
  refine wp_seq ?_
  refine wp_seq ?_
  refine sym_region st [(26, fI (e : Int)), (27, fI (e : Int)), (28, fF), (29, fF), (30, Fact.agg (Con.tri 1 1 false 0 0)), (31, Fact.agg (Con.tri 1 1 false 0 0)), (32, fT), (33, fF), (34, fF), (35, fF), (36, fI (e : Int)), (37, fF), (38, fF), (39, Fact.eq undef), (40, Fact.eq undef), (41, Fact.eq undef), (42, Fact.eq undef), (43, fF), (44, fF)] [] 19 (by kernel_rfl) (by kernel_rfl) (by kernel_rfl) (Nat.le_of_ble_eq_true rfl) (by kernel_rfl) rfl rfl ?_ ?_
  · refine fcn (ob_copy 6 26 (.inl rfl) rfl (.inl rfl) (by kernel_rfl) rfl) ?_
    refine fcn (ob_copy 8 27 (.inl rfl) rfl (.inl rfl) (by kernel_rfl) rfl) ?_
    refine fcn (ob_nei 26 27 28 .i64 33 _ (e : Int) (e : Int) false (bne_self_eq_false (e : Int)) rfl rfl (.inl rfl) (by kernel_rfl) (by kernel_rfl) rfl rfl rfl) ?_
    refine fcn (ob_copy 28 29 (.inl rfl) rfl (.inl rfl) (by kernel_rfl) rfl) ?_
    refine fcn (ob_read 26 5 30 (Con.tri 1 1 false 0 0) rfl rfl (.inr ⟨_, _, _, rfl, rfl, by kernel_rfl, by decide, rfl⟩) (by kernel_rfl) points_cell rfl row26 info26) ?_
    refine fcn (ob_read 26 7 31 (Con.tri 1 1 false 0 0) rfl rfl (.inr ⟨_, _, _, rfl, rfl, by kernel_rfl, by decide, rfl⟩) (by kernel_rfl) points_cell rfl row26 info26) ?_
    refine fcn (ob_call2 13 30 31 32 _ rfl rfl (.inr ⟨_, _, _, rfl, rfl, by kernel_rfl, by decide, rfl⟩) (by kernel_rfl) (by kernel_rfl) (by kernel_rfl) (z_same3 1 1 1 1 false 0 0)) ?_
    refine fcn (ob_not 32 33 true false rfl rfl rfl (.inr ⟨_, _, _, rfl, rfl, by kernel_rfl, by decide, rfl⟩) (by kernel_rfl) rfl rfl) ?_
    refine fcn (ob_pick_else 29 33 34 (.bool true) rfl rfl (.inl rfl) (by kernel_rfl) (by kernel_rfl) rfl rfl) ?_
    refine fcn (ob_copy 34 35 (.inl rfl) rfl (.inl rfl) (by kernel_rfl) rfl) ?_
    refine fcn (ob_copy 6 36 (.inl rfl) rfl (.inr ⟨_, _, _, rfl, rfl, by kernel_rfl, by decide, rfl⟩) (by kernel_rfl) rfl) ?_
    refine fcn (ob_eqc 36 37 .i64 33 _ (e : Int) 0 false (beq_eq_false_iff_ne.2 (by omega)) rfl rfl (.inr ⟨_, _, _, rfl, rfl, by kernel_rfl, by decide, rfl⟩) (by kernel_rfl) rfl rfl) ?_
    refine fcn (ob_copy 37 38 (.inl rfl) rfl (.inr ⟨_, _, _, rfl, rfl, by kernel_rfl, by decide, rfl⟩) (by kernel_rfl) rfl) ?_
    refine fcn (ob_skip 12 38 39 true rfl rfl (by kernel_rfl) (by decide) rfl rfl rfl) ?_
    refine fcn (ob_skip 12 38 40 true rfl rfl (by kernel_rfl) (by decide) rfl rfl rfl) ?_
    refine fcn (ob_skip 12 38 41 true rfl rfl (by kernel_rfl) (by decide) rfl rfl rfl) ?_
    refine fcn (ob_skip 12 38 42 true rfl rfl (by kernel_rfl) (by decide) rfl rfl rfl) ?_
    refine fcn (ob_pick_no 38 42 43 (.bool false) rfl rfl (.inr ⟨_, _, _, rfl, rfl, by kernel_rfl, by decide, rfl⟩) (by kernel_rfl) rfl rfl) ?_
    refine fcn (ob_pick_else 35 43 44 (.bool true) rfl rfl (.inl rfl) (by kernel_rfl) (by kernel_rfl) rfl rfl) ?_
    exact fnl
  intro a9 w9 st9 hbr9 hfr
  have hs9 := hbr9.size
  have hb := up hb hbr9
  have st : St 72 [(2, Fact.cell b2 (Con.pre s xs ys)), (4, fF), (44, fF)] a9 w9 := st9.to (fcs ⟨st9.at_ 2, fcs ⟨st9.at_ 4, fcs ⟨st9.at_ 44, fnl⟩⟩⟩)
  clear st9 hbr9 hfr
  refine wpList_nil ?_
  refine then_normal ?_
  refine wp_cond_false (st.at_ 44) ?_
  refine wp_skip ?_
  refine then_normal ?_
  refine wp_seq ?_
  refine wp_seq ?_
  refine sym_region st [(45, Fact.agg (Con.pre s xs ys)), (46, fF), (47, fT)] [] 3 (by kernel_rfl) (by kernel_rfl) (by kernel_rfl) (Nat.le_of_ble_eq_true rfl) (by kernel_rfl) rfl rfl ?_ ?_
  · refine fcn (ob_read 26 2 45 (Con.pre s xs ys) rfl rfl (.inl rfl) (by kernel_rfl) points_cell rfl row26 info26) ?_
    refine fcn (ob_call1 8 45 46 _ rfl rfl (.inl rfl) (by kernel_rfl) (by kernel_rfl) (w_fit s xs ys false hf)) ?_
    refine fcn (ob_not 46 47 false true rfl rfl rfl (.inl rfl) (by kernel_rfl) rfl rfl) ?_
    exact fnl
  intro a10 w10 st10 hbr10 hfr
  have hs10 := hbr10.size
  have hb := up hb hbr10
  have st : St 72 [(2, Fact.cell b2 (Con.pre s xs ys)), (4, fF), (47, fT)] a10 w10 := st10.to (fcs ⟨st10.at_ 2, fcs ⟨st10.at_ 4, fcs ⟨st10.at_ 47, fnl⟩⟩⟩)
  clear st10 hbr10 hfr
  refine wpList_nil ?_
  refine then_normal ?_
  refine wp_cond_true (st.at_ 47) ?_
  refine wp_seq ?_
  have st := st.to (ks' := [(2, Fact.cell b2 (Con.pre s xs ys)), (47, fT)]) (fcs ⟨st.at_ 2, fcs ⟨st.at_ 47, fnl⟩⟩)
  refine sym_region st [(48, fT), (4, fT)] [] 2 (by kernel_rfl) (by kernel_rfl) (by kernel_rfl) (Nat.le_of_ble_eq_true rfl) (by kernel_rfl) rfl rfl ?_ ?_
  · refine fcn (ob_call0 9 48 _ rfl rfl (.inl rfl) (by kernel_rfl) w_awake) ?_
    refine fcn (ob_copy 48 4 (.inr rfl) rfl (.inl rfl) (by kernel_rfl) rfl) ?_
    exact fnl
  intro a11 w11 st11 hbr11 hfr
  have hs11 := hbr11.size
  have hb := up hb hbr11
  have st : St 72 [(2, Fact.cell b2 (Con.pre s xs ys)), (4, fT)] a11 w11 := st11.to (fcs ⟨st11.at_ 2, fcs ⟨st11.at_ 4, fnl⟩⟩)
  clear st11 hbr11 hfr
  refine wpList_nil ?_
  refine then_normal ?_
  refine wp_ret ?_
  exact sym_ret1 rfl st.defers (resAt_tmp st 4) hb (fun _ h => h)
set_option maxRecDepth 100000 in
theorem law_texts_0y (x : Rat) (l : List Nat) (h : Byt l) (hlen : decide ((l.length : Int) > 900) = false) (e : Nat) (he : pe l = e) (h0 : e ≠ 0) : ∀ v0 v1 w, (Fact.agg (Con.fr 12 x)).holds v0 w → (Fact.eq (.string (ofB l))).holds v1 w → Calls Tryz.prog 7 #[v0, v1] w (Ret (fT) w) := by
  intro v0 v1 w hv0 hv1
  have hs : l.length ≤ 1000000 := by have := of_decide_eq_false hlen; omega
  have hz := Fact.fr_sz hv0
  refine sym_calls 72 [(0, Fact.agg (Con.fr 12 x)), (1, Fact.eq (.string (ofB l)))] Tryz.func7 rfl rfl (Nat.le_of_ble_eq_true rfl) (fcs ⟨⟨Nat.le_of_ble_eq_true rfl, hv0⟩, fcs ⟨⟨Nat.le_of_ble_eq_true rfl, hv1⟩, fnl⟩⟩) fun a st => ?_
  have hb := Below.refl w.heap.size w
  refine wp_seq ?_
  refine sym_region st [(2, Fact.var' (Con.fr 12 x)), (4, fF)] [2] 2 (by kernel_rfl) (by kernel_rfl) (by kernel_rfl) (Nat.le_of_ble_eq_true rfl) (by kernel_rfl) rfl rfl ?_ ?_
  · refine fcs ⟨obn_box 26 0 2 _ (Con.fr 12 x) rfl rfl rfl (by kernel_rfl) rfl rfl, ?_⟩
    refine fcn (ob_const (.bool false) 4 (.inr rfl) rfl (.inl rfl) rfl) ?_
    exact fnl
  intro a1 w1 st1 hbr1 hfr
  have hs1 := hbr1.size
  have hb := up hb hbr1
  obtain ⟨b2, c2⟩ := (show (Fact.var' (Con.fr 12 x)).holds _ _ from st1.at_ 2)
  have g2 := hfr.ge (s := 2) rfl c2.1
  have st : St 72 [(1, Fact.eq (.string (ofB l))), (2, Fact.cell b2 (Con.fr 12 x)), (4, fF)] a1 w1 := st1.to (fcs ⟨st1.at_ 1, fcs ⟨c2, fcs ⟨st1.at_ 4, fnl⟩⟩⟩)
  clear st1 hbr1 hfr c2
  refine wpList_nil ?_
  refine then_normal ?_
  refine wp_seq ?_
  refine wp_seq ?_
  refine sym_region st [(12, Fact.eq (.string (ofB l))), (13, fI ((l).length : Int)), (14, fF)] [] 3 (by kernel_rfl) (by kernel_rfl) (by kernel_rfl) (Nat.le_of_ble_eq_true rfl) (by kernel_rfl) rfl rfl ?_ ?_
  · refine fcn (ob_copy 1 12 (.inl rfl) rfl (.inl rfl) (by kernel_rfl) rfl) ?_
    refine fcn (ob_strlen 12 13 l rfl rfl (.inl rfl) (by kernel_rfl) rfl rfl) ?_
    refine fcn (ob_gtc 13 14 .i64 3 _ ((l).length : Int) 900 false hlen rfl rfl (.inl rfl) (by kernel_rfl) rfl rfl) ?_
    exact fnl
  intro a2 w2 st2 hbr2 hfr
  have hs2 := hbr2.size
  have hb := up hb hbr2
  have st : St 72 [(1, Fact.eq (.string (ofB l))), (2, Fact.cell b2 (Con.fr 12 x)), (4, fF), (14, fF)] a2 w2 := st2.to (fcs ⟨st2.at_ 1, fcs ⟨st2.at_ 2, fcs ⟨st2.at_ 4, fcs ⟨st2.at_ 14, fnl⟩⟩⟩⟩)
  clear st2 hbr2 hfr
  refine wpList_nil ?_
  refine then_normal ?_
  refine wp_cond_false (st.at_ 14) ?_
  refine wp_skip ?_
  refine then_normal ?_
  refine wp_seq ?_
  refine sym_region st [(17, Fact.eq (.string (ofB l))), (18, Fact.two (Fact.agg (Con.tri 1 1 false 0 0)) (fI (e : Int))), (16, Fact.two (Fact.agg (Con.tri 1 1 false 0 0)) (fI (e : Int))), (19, Fact.agg (Con.tri 1 1 false 0 0)), (20, fI (e : Int)), (5, Fact.var' (Con.raw 3))] [5] 6 (by kernel_rfl) (by kernel_rfl) (by kernel_rfl) (Nat.le_of_ble_eq_true rfl) (by kernel_rfl) rfl rfl ?_ ?_
  · refine fcn (ob_copy 1 17 (.inl rfl) rfl (.inl rfl) (by kernel_rfl) rfl) ?_
    refine fcn (ob_call1 33 17 18 _ rfl rfl (.inl rfl) (by kernel_rfl) (by kernel_rfl) (q_parse_no l h hs e he h0)) ?_
    refine fcn (ob_copy 18 16 (.inl rfl) rfl (.inl rfl) (by kernel_rfl) rfl) ?_
    refine fcn (ob_fst 16 19 (Fact.agg (Con.tri 1 1 false 0 0)) (fI (e : Int)) rfl rfl (.inl rfl) (by kernel_rfl) rfl rfl) ?_
    refine fcn (ob_snd 16 20 (Fact.agg (Con.tri 1 1 false 0 0)) (fI (e : Int)) rfl rfl (.inl rfl) (by kernel_rfl) rfl rfl) ?_
    refine fcs ⟨obn_new 26 5 _ [.bool false, .slice none 0 0, .slice none 0 0] rfl rfl rfl rfl rfl alloc26, ?_⟩
    exact fnl
  intro a3 w3 st3 hbr3 hfr
  have hs3 := hbr3.size
  have hb := up hb hbr3
  obtain ⟨b5, c5⟩ := (show (Fact.var' (Con.raw 3)).holds _ _ from st3.at_ 5)
  have g5 := hfr.ge (s := 5) rfl c5.1
  have st : St 72 [(1, Fact.eq (.string (ofB l))), (2, Fact.cell b2 (Con.fr 12 x)), (4, fF), (19, Fact.agg (Con.tri 1 1 false 0 0)), (20, fI (e : Int)), (5, Fact.cell b5 (Con.raw 3))] a3 w3 := st3.to (fcs ⟨st3.at_ 1, fcs ⟨st3.at_ 2, fcs ⟨st3.at_ 4, fcs ⟨st3.at_ 19, fcs ⟨st3.at_ 20, fcs ⟨c5, fnl⟩⟩⟩⟩⟩⟩)
  clear st3 hbr3 hfr c5
  refine sym_store st 26 5 19 b5 (Con.raw 3) (Con.tri 1 1 false 0 0) [(1, Fact.eq (.string (ofB l))), (2, Fact.cell b2 (Con.fr 12 x)), (4, fF), (20, fI (e : Int)), (5, Fact.cell b5 (Con.tri 1 1 false 0 0))] rfl rfl rfl rfl rfl rfl info26 ?_ ?_
  · exact fcs ⟨.inr ⟨rfl, safe_eq _ _⟩, fcs ⟨.inr ⟨rfl, safe_cell _ (by omega)⟩, fcs ⟨.inr ⟨rfl, safe_eq _ _⟩, fcs ⟨.inr ⟨rfl, safe_eq _ _⟩, fcs ⟨.inl rfl, fnl⟩⟩⟩⟩⟩
  clear st; intro w4 hB hsz4 st
  have hb := hB _ _ hb (by omega) (by omega)
  clear hB
  refine sym_op st 6 (fI (e : Int)) rfl (Nat.le_of_ble_eq_true rfl) rfl rfl (by kernel_rfl) (ob_copy 20 6 (.inr rfl) rfl (.inl rfl) (by kernel_rfl) rfl) ?_
  clear st; intro a5 w5 hbr st; have hs5 := hbr.size; have hb := up hb hbr; clear hbr
  refine wpList_nil ?_
  refine then_normal ?_
  refine wp_seq ?_
  refine sym_region st [(22, Fact.eq (.string (ofB l))), (23, Fact.two (Fact.agg (Con.tri 1 1 false 0 0)) (fI (e : Int))), (21, Fact.two (Fact.agg (Con.tri 1 1 false 0 0)) (fI (e : Int))), (24, Fact.agg (Con.tri 1 1 false 0 0)), (25, fI (e : Int)), (7, Fact.var' (Con.raw 3))] [7] 6 (by kernel_rfl) (by kernel_rfl) (by kernel_rfl) (Nat.le_of_ble_eq_true rfl) (by kernel_rfl) rfl rfl ?_ ?_
  · refine fcn (ob_copy 1 22 (.inl rfl) rfl (.inl rfl) (by kernel_rfl) rfl) ?_
    refine fcn (ob_call1 34 22 23 _ rfl rfl (.inl rfl) (by kernel_rfl) (by kernel_rfl) (z_parse_no l h hs e he h0)) ?_
    refine fcn (ob_copy 23 21 (.inl rfl) rfl (.inl rfl) (by kernel_rfl) rfl) ?_
    refine fcn (ob_fst 21 24 (Fact.agg (Con.tri 1 1 false 0 0)) (fI (e : Int)) rfl rfl (.inl rfl) (by kernel_rfl) rfl rfl) ?_
    refine fcn (ob_snd 21 25 (Fact.agg (Con.tri 1 1 false 0 0)) (fI (e : Int)) rfl rfl (.inl rfl) (by kernel_rfl) rfl rfl) ?_
    refine fcs ⟨obn_new 26 7 _ [.bool false, .slice none 0 0, .slice none 0 0] rfl rfl rfl rfl rfl alloc26, ?_⟩
    exact fnl
  intro a6 w6 st6 hbr6 hfr
  have hs6 := hbr6.size
  have hb := up hb hbr6
  obtain ⟨b7, c7⟩ := (show (Fact.var' (Con.raw 3)).holds _ _ from st6.at_ 7)
  have g7 := hfr.ge (s := 7) rfl c7.1
  have st : St 72 [(1, Fact.eq (.string (ofB l))), (2, Fact.cell b2 (Con.fr 12 x)), (4, fF), (5, Fact.cell b5 (Con.tri 1 1 false 0 0)), (6, fI (e : Int)), (24, Fact.agg (Con.tri 1 1 false 0 0)), (25, fI (e : Int)), (7, Fact.cell b7 (Con.raw 3))] a6 w6 := st6.to (fcs ⟨st6.at_ 1, fcs ⟨st6.at_ 2, fcs ⟨st6.at_ 4, fcs ⟨st6.at_ 5, fcs ⟨st6.at_ 6, fcs ⟨st6.at_ 24, fcs ⟨st6.at_ 25, fcs ⟨c7, fnl⟩⟩⟩⟩⟩⟩⟩⟩)
  clear st6 hbr6 hfr c7
  refine sym_store st 26 7 24 b7 (Con.raw 3) (Con.tri 1 1 false 0 0) [(1, Fact.eq (.string (ofB l))), (2, Fact.cell b2 (Con.fr 12 x)), (4, fF), (5, Fact.cell b5 (Con.tri 1 1 false 0 0)), (6, fI (e : Int)), (25, fI (e : Int)), (7, Fact.cell b7 (Con.tri 1 1 false 0 0))] rfl rfl rfl rfl rfl rfl info26 ?_ ?_
  · exact fcs ⟨.inr ⟨rfl, safe_eq _ _⟩, fcs ⟨.inr ⟨rfl, safe_cell _ (by omega)⟩, fcs ⟨.inr ⟨rfl, safe_eq _ _⟩, fcs ⟨.inr ⟨rfl, safe_cell _ (by omega)⟩, fcs ⟨.inr ⟨rfl, safe_eq _ _⟩, fcs ⟨.inr ⟨rfl, safe_eq _ _⟩, fcs ⟨.inl rfl, fnl⟩⟩⟩⟩⟩⟩⟩
  clear st; intro w7 hB hsz7 st
  have hb := hB _ _ hb (by omega) (by omega)
  clear hB
  refine sym_op st 8 (fI (e : Int)) rfl (Nat.le_of_ble_eq_true rfl) rfl rfl (by kernel_rfl) (ob_copy 25 8 (.inr rfl) rfl (.inl rfl) (by kernel_rfl) rfl) ?_
  clear st; intro a8 w8 hbr st; have hs8 := hbr.size; have hb := up hb hbr; clear hbr
  refine wpList_nil ?_
  refine then_normal ?_
  refine wp_seq ?_
  refine wp_seq ?_
  refine sym_region st [(26, fI (e : Int)), (27, fI (e : Int)), (28, fF), (29, fF), (30, Fact.agg (Con.tri 1 1 false 0 0)), (31, Fact.agg (Con.tri 1 1 false 0 0)), (32, fT), (33, fF), (34, fF), (35, fF), (36, fI (e : Int)), (37, fF), (38, fF), (39, Fact.eq undef), (40, Fact.eq undef), (41, Fact.eq undef), (42, Fact.eq undef), (43, fF), (44, fF)] [] 19 (by kernel_rfl) (by kernel_rfl) (by kernel_rfl) (Nat.le_of_ble_eq_true rfl) (by kernel_rfl) rfl rfl ?_ ?_
  · refine fcn (ob_copy 6 26 (.inl rfl) rfl (.inl rfl) (by kernel_rfl) rfl) ?_
    refine fcn (ob_copy 8 27 (.inl rfl) rfl (.inl rfl) (by kernel_rfl) rfl) ?_
    refine fcn (ob_nei 26 27 28 .i64 33 _ (e : Int) (e : Int) false (bne_self_eq_false (e : Int)) rfl rfl (.inl rfl) (by kernel_rfl) (by kernel_rfl) rfl rfl rfl) ?_
    refine fcn (ob_copy 28 29 (.inl rfl) rfl (.inl rfl) (by kernel_rfl) rfl) ?_
    refine fcn (ob_read 26 5 30 (Con.tri 1 1 false 0 0) rfl rfl (.inr ⟨_, _, _, rfl, rfl, by kernel_rfl, by decide, rfl⟩) (by kernel_rfl) points_cell rfl row26 info26) ?_
    refine fcn (ob_read 26 7 31 (Con.tri 1 1 false 0 0) rfl rfl (.inr ⟨_, _, _, rfl, rfl, by kernel_rfl, by decide, rfl⟩) (by kernel_rfl) points_cell rfl row26 info26) ?_
    refine fcn (ob_call2 13 30 31 32 _ rfl rfl (.inr ⟨_, _, _, rfl, rfl, by kernel_rfl, by decide, rfl⟩) (by kernel_rfl) (by kernel_rfl) (by kernel_rfl) (z_same3 1 1 1 1 false 0 0)) ?_
    refine fcn (ob_not 32 33 true false rfl rfl rfl (.inr ⟨_, _, _, rfl, rfl, by kernel_rfl, by decide, rfl⟩) (by kernel_rfl) rfl rfl) ?_
    refine fcn (ob_pick_else 29 33 34 (.bool true) rfl rfl (.inl rfl) (by kernel_rfl) (by kernel_rfl) rfl rfl) ?_
    refine fcn (ob_copy 34 35 (.inl rfl) rfl (.inl rfl) (by kernel_rfl) rfl) ?_
    refine fcn (ob_copy 6 36 (.inl rfl) rfl (.inr ⟨_, _, _, rfl, rfl, by kernel_rfl, by decide, rfl⟩) (by kernel_rfl) rfl) ?_
    refine fcn (ob_eqc 36 37 .i64 33 _ (e : Int) 0 false (beq_eq_false_iff_ne.2 (by omega)) rfl rfl (.inr ⟨_, _, _, rfl, rfl, by kernel_rfl, by decide, rfl⟩) (by kernel_rfl) rfl rfl) ?_
    refine fcn (ob_copy 37 38 (.inl rfl) rfl (.inr ⟨_, _, _, rfl, rfl, by kernel_rfl, by decide, rfl⟩) (by kernel_rfl) rfl) ?_
    refine fcn (ob_skip 12 38 39 true rfl rfl (by kernel_rfl) (by decide) rfl rfl rfl) ?_
    refine fcn (ob_skip 12 38 40 true rfl rfl (by kernel_rfl) (by decide) rfl rfl rfl) ?_
    refine fcn (ob_skip 12 38 41 true rfl rfl (by kernel_rfl) (by decide) rfl rfl rfl) ?_
    refine fcn (ob_skip 12 38 42 true rfl rfl (by kernel_rfl) (by decide) rfl rfl rfl) ?_
    refine fcn (ob_pick_no 38 42 43 (.bool false) rfl rfl (.inr ⟨_, _, _, rfl, rfl, by kernel_rfl, by decide, rfl⟩) (by kernel_rfl) rfl rfl) ?_
    refine fcn (ob_pick_else 35 43 44 (.bool true) rfl rfl (.inl rfl) (by kernel_rfl) (by kernel_rfl) rfl rfl) ?_
    exact fnl
  intro a9 w9 st9 hbr9 hfr
  have hs9 := hbr9.size
  have hb := up hb hbr9
  have st : St 72 [(2, Fact.cell b2 (Con.fr 12 x)), (4, fF), (44, fF)] a9 w9 := st9.to (fcs ⟨st9.at_ 2, fcs ⟨st9.at_ 4, fcs ⟨st9.at_ 44, fnl⟩⟩⟩)
  clear st9 hbr9 hfr
  refine wpList_nil ?_
  refine then_normal ?_
  refine wp_cond_false (st.at_ 44) ?_
  refine wp_skip ?_
  refine then_normal ?_
  refine wp_seq ?_
  refine wp_seq ?_
  refine sym_region st [(45, Fact.agg (Con.fr 12 x)), (46, fT), (47, fF)] [] 3 (by kernel_rfl) (by kernel_rfl) (by kernel_rfl) (Nat.le_of_ble_eq_true rfl) (by kernel_rfl) rfl rfl ?_ ?_
  · refine fcn (ob_read 26 2 45 (Con.fr 12 x) rfl rfl (.inl rfl) (by kernel_rfl) points_cell rfl row26 info26) ?_
    refine fcn (ob_call1 8 45 46 _ rfl rfl (.inl rfl) (by kernel_rfl) (by kernel_rfl) (w_fit_yes x)) ?_
    refine fcn (ob_not 46 47 true false rfl rfl rfl (.inl rfl) (by kernel_rfl) rfl rfl) ?_
    exact fnl
  intro a10 w10 st10 hbr10 hfr
  have hs10 := hbr10.size
  have hb := up hb hbr10
  have st : St 72 [(2, Fact.cell b2 (Con.fr 12 x)), (4, fF), (47, fF)] a10 w10 := st10.to (fcs ⟨st10.at_ 2, fcs ⟨st10.at_ 4, fcs ⟨st10.at_ 47, fnl⟩⟩⟩)
  clear st10 hbr10 hfr
  refine wpList_nil ?_
  refine then_normal ?_
  refine wp_cond_false (st.at_ 47) ?_
  refine wp_skip ?_
  refine then_normal ?_
  refine wp_seq ?_
  refine sym_region st [(49, Fact.agg (Con.fr 12 x)), (50, Fact.eq (.string (ofB (fmt x)))), (9, Fact.eq (.string (ofB (fmt x))))] [] 3 (by kernel_rfl) (by kernel_rfl) (by kernel_rfl) (Nat.le_of_ble_eq_true rfl) (by kernel_rfl) rfl rfl ?_ ?_
  · refine fcn (ob_read 26 2 49 (Con.fr 12 x) rfl rfl (.inl rfl) (by kernel_rfl) points_cell rfl row26 info26) ?_
    refine fcn (ob_call1 35 49 50 _ rfl rfl (.inl rfl) (by kernel_rfl) (by kernel_rfl) (q_format12 x)) ?_
    refine fcn (ob_copy 50 9 (.inr rfl) rfl (.inl rfl) (by kernel_rfl) rfl) ?_
    exact fnl
  intro a11 w11 st11 hbr11 hfr
  have hs11 := hbr11.size
  have hb := up hb hbr11
  have st : St 72 [(2, Fact.cell b2 (Con.fr 12 x)), (4, fF), (9, Fact.eq (.string (ofB (fmt x))))] a11 w11 := st11.to (fcs ⟨st11.at_ 2, fcs ⟨st11.at_ 4, fcs ⟨st11.at_ 9, fnl⟩⟩⟩)
  clear st11 hbr11 hfr
  refine wpList_nil ?_
  refine then_normal ?_
  refine wp_seq ?_
  refine sym_region st [(52, Fact.eq (.string (ofB (fmt x)))), (53, Fact.two (Fact.agg (Con.fr 42 x)) (fI 0)), (51, Fact.two (Fact.agg (Con.fr 42 x)) (fI 0)), (54, Fact.agg (Con.fr 42 x)), (55, fI 0), (10, Fact.var' (Con.raw 3))] [10] 6 (by kernel_rfl) (by kernel_rfl) (by kernel_rfl) (Nat.le_of_ble_eq_true rfl) (by kernel_rfl) rfl rfl ?_ ?_
  · refine fcn (ob_copy 9 52 (.inl rfl) rfl (.inl rfl) (by kernel_rfl) rfl) ?_
    refine fcn (ob_call1 33 52 53 _ rfl rfl (.inl rfl) (by kernel_rfl) (by kernel_rfl) (q_parse_yes (fmt x) (byt_fmt x) (len_fmt hz) x (pe_fmt hz).1 (pe_fmt hz).2)) ?_
    refine fcn (ob_copy 53 51 (.inl rfl) rfl (.inl rfl) (by kernel_rfl) rfl) ?_
    refine fcn (ob_fst 51 54 (Fact.agg (Con.fr 42 x)) (fI 0) rfl rfl (.inl rfl) (by kernel_rfl) rfl rfl) ?_
    refine fcn (ob_snd 51 55 (Fact.agg (Con.fr 42 x)) (fI 0) rfl rfl (.inl rfl) (by kernel_rfl) rfl rfl) ?_
    refine fcs ⟨obn_new 26 10 _ [.bool false, .slice none 0 0, .slice none 0 0] rfl rfl rfl rfl rfl alloc26, ?_⟩
    exact fnl
  intro a12 w12 st12 hbr12 hfr
  have hs12 := hbr12.size
  have hb := up hb hbr12
  obtain ⟨b10, c10⟩ := (show (Fact.var' (Con.raw 3)).holds _ _ from st12.at_ 10)
  have g10 := hfr.ge (s := 10) rfl c10.1
  have st : St 72 [(2, Fact.cell b2 (Con.fr 12 x)), (4, fF), (9, Fact.eq (.string (ofB (fmt x)))), (54, Fact.agg (Con.fr 42 x)), (55, fI 0), (10, Fact.cell b10 (Con.raw 3))] a12 w12 := st12.to (fcs ⟨st12.at_ 2, fcs ⟨st12.at_ 4, fcs ⟨st12.at_ 9, fcs ⟨st12.at_ 54, fcs ⟨st12.at_ 55, fcs ⟨c10, fnl⟩⟩⟩⟩⟩⟩)
  clear st12 hbr12 hfr c10
  refine sym_store st 26 10 54 b10 (Con.raw 3) (Con.fr 42 x) [(2, Fact.cell b2 (Con.fr 12 x)), (4, fF), (9, Fact.eq (.string (ofB (fmt x)))), (55, fI 0), (10, Fact.cell b10 (Con.fr 42 x))] rfl rfl rfl rfl rfl rfl info26 ?_ ?_
  · exact fcs ⟨.inr ⟨rfl, safe_cell _ (by omega)⟩, fcs ⟨.inr ⟨rfl, safe_eq _ _⟩, fcs ⟨.inr ⟨rfl, safe_eq _ _⟩, fcs ⟨.inr ⟨rfl, safe_eq _ _⟩, fcs ⟨.inl rfl, fnl⟩⟩⟩⟩⟩
  clear st; intro w13 hB hsz13 st
  have hb := hB _ _ hb (by omega) (by omega)
  clear hB
  refine sym_op st 11 (fI 0) rfl (Nat.le_of_ble_eq_true rfl) rfl rfl (by kernel_rfl) (ob_copy 55 11 (.inr rfl) rfl (.inl rfl) (by kernel_rfl) rfl) ?_
  clear st; intro a14 w14 hbr st; have hs14 := hbr.size; have hb := up hb hbr; clear hbr
  refine wpList_nil ?_
  refine then_normal ?_
  refine wp_seq ?_
  have st := st.to (ks' := [(2, Fact.cell b2 (Con.fr 12 x)), (9, Fact.eq (.string (ofB (fmt x)))), (10, Fact.cell b10 (Con.fr 42 x)), (11, fI 0)]) (fcs ⟨st.at_ 2, fcs ⟨st.at_ 9, fcs ⟨st.at_ 10, fcs ⟨st.at_ 11, fnl⟩⟩⟩⟩)
  refine sym_region st [(56, Fact.eq (.string (ofB (fmt x)))), (57, Fact.agg (Con.fr 12 x)), (58, Fact.eq (.string (ofB (fmt x)))), (59, fT), (60, fT), (61, fI 0), (62, fT), (63, fT), (64, fT), (65, Fact.agg (Con.fr 42 x)), (66, Fact.agg (Con.fr 12 x)), (67, fT), (68, fT), (69, fT), (70, fT), (71, fT), (4, fT)] [] 17 (by kernel_rfl) (by kernel_rfl) (by kernel_rfl) (Nat.le_of_ble_eq_true rfl) (by kernel_rfl) rfl rfl ?_ ?_
  · refine fcn (ob_copy 9 56 (.inl rfl) rfl (.inl rfl) (by kernel_rfl) rfl) ?_
    refine fcn (ob_read 26 2 57 (Con.fr 12 x) rfl rfl (.inl rfl) (by kernel_rfl) points_cell rfl row26 info26) ?_
    refine fcn (ob_call1 36 57 58 _ rfl rfl (.inl rfl) (by kernel_rfl) (by kernel_rfl) (z_format12 x)) ?_
    refine fcn (ob_eqstr 56 58 59 _ (ofB (fmt x)) rfl rfl (.inl rfl) (by kernel_rfl) (by kernel_rfl) rfl rfl rfl) ?_
    refine fcn (ob_copy 59 60 (.inl rfl) rfl (.inl rfl) (by kernel_rfl) rfl) ?_
    refine fcn (ob_copy 11 61 (.inl rfl) rfl (.inr ⟨_, _, _, rfl, rfl, by kernel_rfl, by decide, rfl⟩) (by kernel_rfl) rfl) ?_
    refine fcn (ob_eqc 61 62 .i64 33 _ 0 0 true rfl rfl rfl (.inr ⟨_, _, _, rfl, rfl, by kernel_rfl, by decide, rfl⟩) (by kernel_rfl) rfl rfl) ?_
    refine fcn (ob_pick 60 62 63 _ rfl rfl (.inl rfl) (by kernel_rfl) (by kernel_rfl) rfl rfl) ?_
    refine fcn (ob_copy 63 64 (.inl rfl) rfl (.inl rfl) (by kernel_rfl) rfl) ?_
    refine fcn (ob_read 26 10 65 (Con.fr 42 x) rfl rfl (.inr ⟨_, _, _, rfl, rfl, by kernel_rfl, by decide, rfl⟩) (by kernel_rfl) points_cell rfl row26 info26) ?_
    refine fcn (ob_read 26 2 66 (Con.fr 12 x) rfl rfl (.inr ⟨_, _, _, rfl, rfl, by kernel_rfl, by decide, rfl⟩) (by kernel_rfl) points_cell rfl row26 info26) ?_
    refine fcn (ob_call2 13 65 66 67 _ rfl rfl (.inr ⟨_, _, _, rfl, rfl, by kernel_rfl, by decide, rfl⟩) (by kernel_rfl) (by kernel_rfl) (by kernel_rfl) (z_same 42 12 x x true (decide_eq_true rfl))) ?_
    refine fcn (ob_pick 64 67 68 _ rfl rfl (.inl rfl) (by kernel_rfl) (by kernel_rfl) rfl rfl) ?_
    refine fcn (ob_copy 68 69 (.inl rfl) rfl (.inl rfl) (by kernel_rfl) rfl) ?_
    refine fcn (ob_call0 9 70 _ rfl rfl (.inr ⟨_, _, _, rfl, rfl, by kernel_rfl, by decide, rfl⟩) (by kernel_rfl) w_awake) ?_
    refine fcn (ob_pick 69 70 71 _ rfl rfl (.inl rfl) (by kernel_rfl) (by kernel_rfl) rfl rfl) ?_
    refine fcn (ob_copy 71 4 (.inr rfl) rfl (.inl rfl) (by kernel_rfl) rfl) ?_
    exact fnl
  intro a15 w15 st15 hbr15 hfr
  have hs15 := hbr15.size
  have hb := up hb hbr15
  have st : St 72 [(4, fT)] a15 w15 := st15.to (fcs ⟨st15.at_ 4, fnl⟩)
  clear st15 hbr15 hfr
  refine wpList_nil ?_
  refine then_normal ?_
  refine wp_ret ?_
  exact sym_ret1 rfl st.defers (resAt_tmp st 4) hb (fun _ h => h)
set_option maxRecDepth 100000 in
theorem law_texts_1n (s : Bool) (xs ys : List Nat) (hf : fitB s xs ys = false) (l : List Nat) (h : Byt l) (hlen : decide ((l.length : Int) > 900) = false) (he : pe l = 0) : ∀ v0 v1 w, (Fact.agg (Con.pre s xs ys)).holds v0 w → (Fact.eq (.string (ofB l))).holds v1 w → Calls Tryz.prog 7 #[v0, v1] w (Ret (fT) w) := by
  intro v0 v1 w hv0 hv1
  have hs : l.length ≤ 1000000 := by have := of_decide_eq_false hlen; omega
  refine sym_calls 72 [(0, Fact.agg (Con.pre s xs ys)), (1, Fact.eq (.string (ofB l)))] Tryz.func7 rfl rfl (Nat.le_of_ble_eq_true rfl) (fcs ⟨⟨Nat.le_of_ble_eq_true rfl, hv0⟩, fcs ⟨⟨Nat.le_of_ble_eq_true rfl, hv1⟩, fnl⟩⟩) fun a st => ?_
  have hb := Below.refl w.heap.size w
  refine wp_seq ?_
  refine sym_region st [(2, Fact.var' (Con.pre s xs ys)), (4, fF)] [2] 2 (by kernel_rfl) (by kernel_rfl) (by kernel_rfl) (Nat.le_of_ble_eq_true rfl) (by kernel_rfl) rfl rfl ?_ ?_
  · refine fcs ⟨obn_box 26 0 2 _ (Con.pre s xs ys) rfl rfl rfl (by kernel_rfl) rfl rfl, ?_⟩
    refine fcn (ob_const (.bool false) 4 (.inr rfl) rfl (.inl rfl) rfl) ?_
    exact fnl
  intro a1 w1 st1 hbr1 hfr
  have hs1 := hbr1.size
  have hb := up hb hbr1
  obtain ⟨b2, c2⟩ := (show (Fact.var' (Con.pre s xs ys)).holds _ _ from st1.at_ 2)
  have g2 := hfr.ge (s := 2) rfl c2.1
  have st : St 72 [(1, Fact.eq (.string (ofB l))), (2, Fact.cell b2 (Con.pre s xs ys)), (4, fF)] a1 w1 := st1.to (fcs ⟨st1.at_ 1, fcs ⟨c2, fcs ⟨st1.at_ 4, fnl⟩⟩⟩)
  clear st1 hbr1 hfr c2
  refine wpList_nil ?_
  refine then_normal ?_
  refine wp_seq ?_
  refine wp_seq ?_
  refine sym_region st [(12, Fact.eq (.string (ofB l))), (13, fI ((l).length : Int)), (14, fF)] [] 3 (by kernel_rfl) (by kernel_rfl) (by kernel_rfl) (Nat.le_of_ble_eq_true rfl) (by kernel_rfl) rfl rfl ?_ ?_
  · refine fcn (ob_copy 1 12 (.inl rfl) rfl (.inl rfl) (by kernel_rfl) rfl) ?_
    refine fcn (ob_strlen 12 13 l rfl rfl (.inl rfl) (by kernel_rfl) rfl rfl) ?_
    refine fcn (ob_gtc 13 14 .i64 3 _ ((l).length : Int) 900 false hlen rfl rfl (.inl rfl) (by kernel_rfl) rfl rfl) ?_
    exact fnl
  intro a2 w2 st2 hbr2 hfr
  have hs2 := hbr2.size
  have hb := up hb hbr2
  have st : St 72 [(1, Fact.eq (.string (ofB l))), (2, Fact.cell b2 (Con.pre s xs ys)), (4, fF), (14, fF)] a2 w2 := st2.to (fcs ⟨st2.at_ 1, fcs ⟨st2.at_ 2, fcs ⟨st2.at_ 4, fcs ⟨st2.at_ 14, fnl⟩⟩⟩⟩)
  clear st2 hbr2 hfr
  refine wpList_nil ?_
  refine then_normal ?_
  refine wp_cond_false (st.at_ 14) ?_
  refine wp_skip ?_
  refine then_normal ?_
  refine wp_seq ?_
  refine sym_region st [(17, Fact.eq (.string (ofB l))), (18, Fact.two (Fact.agg (Con.fr 42 (px l))) (fI 0)), (16, Fact.two (Fact.agg (Con.fr 42 (px l))) (fI 0)), (19, Fact.agg (Con.fr 42 (px l))), (20, fI 0), (5, Fact.var' (Con.raw 3))] [5] 6 (by kernel_rfl) (by kernel_rfl) (by kernel_rfl) (Nat.le_of_ble_eq_true rfl) (by kernel_rfl) rfl rfl ?_ ?_
  · refine fcn (ob_copy 1 17 (.inl rfl) rfl (.inl rfl) (by kernel_rfl) rfl) ?_
    refine fcn (ob_call1 33 17 18 _ rfl rfl (.inl rfl) (by kernel_rfl) (by kernel_rfl) (q_parse_yes l h hs (px l) he rfl)) ?_
    refine fcn (ob_copy 18 16 (.inl rfl) rfl (.inl rfl) (by kernel_rfl) rfl) ?_
    refine fcn (ob_fst 16 19 (Fact.agg (Con.fr 42 (px l))) (fI 0) rfl rfl (.inl rfl) (by kernel_rfl) rfl rfl) ?_
    refine fcn (ob_snd 16 20 (Fact.agg (Con.fr 42 (px l))) (fI 0) rfl rfl (.inl rfl) (by kernel_rfl) rfl rfl) ?_
    refine fcs ⟨obn_new 26 5 _ [.bool false, .slice none 0 0, .slice none 0 0] rfl rfl rfl rfl rfl alloc26, ?_⟩
    exact fnl
  intro a3 w3 st3 hbr3 hfr
  have hs3 := hbr3.size
  have hb := up hb hbr3
  obtain ⟨b5, c5⟩ := (show (Fact.var' (Con.raw 3)).holds _ _ from st3.at_ 5)
  have g5 := hfr.ge (s := 5) rfl c5.1
  have st : St 72 [(1, Fact.eq (.string (ofB l))), (2, Fact.cell b2 (Con.pre s xs ys)), (4, fF), (19, Fact.agg (Con.fr 42 (px l))), (20, fI 0), (5, Fact.cell b5 (Con.raw 3))] a3 w3 := st3.to (fcs ⟨st3.at_ 1, fcs ⟨st3.at_ 2, fcs ⟨st3.at_ 4, fcs ⟨st3.at_ 19, fcs ⟨st3.at_ 20, fcs ⟨c5, fnl⟩⟩⟩⟩⟩⟩)
  clear st3 hbr3 hfr c5
  refine sym_store st 26 5 19 b5 (Con.raw 3) (Con.fr 42 (px l)) [(1, Fact.eq (.string (ofB l))), (2, Fact.cell b2 (Con.pre s xs ys)), (4, fF), (20, fI 0), (5, Fact.cell b5 (Con.fr 42 (px l)))] rfl rfl rfl rfl rfl rfl info26 ?_ ?_
  · exact fcs ⟨.inr ⟨rfl, safe_eq _ _⟩, fcs ⟨.inr ⟨rfl, safe_cell _ (by omega)⟩, fcs ⟨.inr ⟨rfl, safe_eq _ _⟩, fcs ⟨.inr ⟨rfl, safe_eq _ _⟩, fcs ⟨.inl rfl, fnl⟩⟩⟩⟩⟩
  clear st; intro w4 hB hsz4 st
  have hb := hB _ _ hb (by omega) (by omega)
  clear hB
  refine sym_op st 6 (fI 0) rfl (Nat.le_of_ble_eq_true rfl) rfl rfl (by kernel_rfl) (ob_copy 20 6 (.inr rfl) rfl (.inl rfl) (by kernel_rfl) rfl) ?_
  clear st; intro a5 w5 hbr st; have hs5 := hbr.size; have hb := up hb hbr; clear hbr
  refine wpList_nil ?_
  refine then_normal ?_
  refine wp_seq ?_
  refine sym_region st [(22, Fact.eq (.string (ofB l))), (23, Fact.two (Fact.agg (Con.fr 42 (px l))) (fI 0)), (21, Fact.two (Fact.agg (Con.fr 42 (px l))) (fI 0)), (24, Fact.agg (Con.fr 42 (px l))), (25, fI 0), (7, Fact.var' (Con.raw 3))] [7] 6 (by kernel_rfl) (by kernel_rfl) (by kernel_rfl) (Nat.le_of_ble_eq_true rfl) (by kernel_rfl) rfl rfl ?_ ?_
  · refine fcn (ob_copy 1 22 (.inl rfl) rfl (.inl rfl) (by kernel_rfl) rfl) ?_
    refine fcn (ob_call1 34 22 23 _ rfl rfl (.inl rfl) (by kernel_rfl) (by kernel_rfl) (z_parse_yes l h hs (px l) he rfl)) ?_
    refine fcn (ob_copy 23 21 (.inl rfl) rfl (.inl rfl) (by kernel_rfl) rfl) ?_
    refine fcn (ob_fst 21 24 (Fact.agg (Con.fr 42 (px l))) (fI 0) rfl rfl (.inl rfl) (by kernel_rfl) rfl rfl) ?_
    refine fcn (ob_snd 21 25 (Fact.agg (Con.fr 42 (px l))) (fI 0) rfl rfl (.inl rfl) (by kernel_rfl) rfl rfl) ?_
    refine fcs ⟨obn_new 26 7 _ [.bool false, .slice none 0 0, .slice none 0 0] rfl rfl rfl rfl rfl alloc26, ?_⟩
    exact fnl
  intro a6 w6 st6 hbr6 hfr
  have hs6 := hbr6.size
  have hb := up hb hbr6
  obtain ⟨b7, c7⟩ := (show (Fact.var' (Con.raw 3)).holds _ _ from st6.at_ 7)
  have g7 := hfr.ge (s := 7) rfl c7.1
  have st : St 72 [(1, Fact.eq (.string (ofB l))), (2, Fact.cell b2 (Con.pre s xs ys)), (4, fF), (5, Fact.cell b5 (Con.fr 42 (px l))), (6, fI 0), (24, Fact.agg (Con.fr 42 (px l))), (25, fI 0), (7, Fact.cell b7 (Con.raw 3))] a6 w6 := st6.to (fcs ⟨st6.at_ 1, fcs ⟨st6.at_ 2, fcs ⟨st6.at_ 4, fcs ⟨st6.at_ 5, fcs ⟨st6.at_ 6, fcs ⟨st6.at_ 24, fcs ⟨st6.at_ 25, fcs ⟨c7, fnl⟩⟩⟩⟩⟩⟩⟩⟩)
  clear st6 hbr6 hfr c7
  refine sym_store st 26 7 24 b7 (Con.raw 3) (Con.fr 42 (px l)) [(1, Fact.eq (.string (ofB l))), (2, Fact.cell b2 (Con.pre s xs ys)), (4, fF), (5, Fact.cell b5 (Con.fr 42 (px l))), (6, fI 0), (25, fI 0), (7, Fact.cell b7 (Con.fr 42 (px l)))] rfl rfl rfl rfl rfl rfl info26 ?_ ?_
  · exact fcs ⟨.inr ⟨rfl, safe_eq _ _⟩, fcs ⟨.inr ⟨rfl, safe_cell _ (by omega)⟩, fcs ⟨.inr ⟨rfl, safe_eq _ _⟩, fcs ⟨.inr ⟨rfl, safe_cell _ (by omega)⟩, fcs ⟨.inr ⟨rfl, safe_eq _ _⟩, fcs ⟨.inr ⟨rfl, safe_eq _ _⟩, fcs ⟨.inl rfl, fnl⟩⟩⟩⟩⟩⟩⟩
  clear st; intro w7 hB hsz7 st
  have hb := hB _ _ hb (by omega) (by omega)
  clear hB
  refine sym_op st 8 (fI 0) rfl (Nat.le_of_ble_eq_true rfl) rfl rfl (by kernel_rfl) (ob_copy 25 8 (.inr rfl) rfl (.inl rfl) (by kernel_rfl) rfl) ?_
  clear st; intro a8 w8 hbr st; have hs8 := hbr.size; have hb := up hb hbr; clear hbr
  refine wpList_nil ?_
  refine then_normal ?_
  refine wp_seq ?_
  refine wp_seq ?_
  refine sym_region st [(26, fI 0), (27, fI 0), (28, fF), (29, fF), (30, Fact.agg (Con.fr 42 (px l))), (31, Fact.agg (Con.fr 42 (px l))), (32, fT), (33, fF), (34, fF), (35, fF), (36, fI 0), (37, fT), (38, fT), (39, Fact.agg (Con.fr 42 (px l))), (40, Fact.eq (.string (ofB l))), (41, Fact.eq (.string (ofB l))), (42, fF), (43, fF), (44, fF)] [] 19 (by kernel_rfl) (by kernel_rfl) (by kernel_rfl) (Nat.le_of_ble_eq_true rfl) (by kernel_rfl) rfl rfl ?_ ?_
  · refine fcn (ob_copy 6 26 (.inl rfl) rfl (.inl rfl) (by kernel_rfl) rfl) ?_
    refine fcn (ob_copy 8 27 (.inl rfl) rfl (.inl rfl) (by kernel_rfl) rfl) ?_
    refine fcn (ob_nei 26 27 28 .i64 33 _ 0 0 false rfl rfl rfl (.inl rfl) (by kernel_rfl) (by kernel_rfl) rfl rfl rfl) ?_
    refine fcn (ob_copy 28 29 (.inl rfl) rfl (.inl rfl) (by kernel_rfl) rfl) ?_
    refine fcn (ob_read 26 5 30 (Con.fr 42 (px l)) rfl rfl (.inr ⟨_, _, _, rfl, rfl, by kernel_rfl, by decide, rfl⟩) (by kernel_rfl) points_cell rfl row26 info26) ?_
    refine fcn (ob_read 26 7 31 (Con.fr 42 (px l)) rfl rfl (.inr ⟨_, _, _, rfl, rfl, by kernel_rfl, by decide, rfl⟩) (by kernel_rfl) points_cell rfl row26 info26) ?_
    refine fcn (ob_call2 13 30 31 32 _ rfl rfl (.inr ⟨_, _, _, rfl, rfl, by kernel_rfl, by decide, rfl⟩) (by kernel_rfl) (by kernel_rfl) (by kernel_rfl) (z_same 42 42 (px l) (px l) true (decide_eq_true rfl))) ?_
    refine fcn (ob_not 32 33 true false rfl rfl rfl (.inr ⟨_, _, _, rfl, rfl, by kernel_rfl, by decide, rfl⟩) (by kernel_rfl) rfl rfl) ?_
    refine fcn (ob_pick_else 29 33 34 (.bool true) rfl rfl (.inl rfl) (by kernel_rfl) (by kernel_rfl) rfl rfl) ?_
    refine fcn (ob_copy 34 35 (.inl rfl) rfl (.inl rfl) (by kernel_rfl) rfl) ?_
    refine fcn (ob_copy 6 36 (.inl rfl) rfl (.inr ⟨_, _, _, rfl, rfl, by kernel_rfl, by decide, rfl⟩) (by kernel_rfl) rfl) ?_
    refine fcn (ob_eqc 36 37 .i64 33 _ 0 0 true rfl rfl rfl (.inr ⟨_, _, _, rfl, rfl, by kernel_rfl, by decide, rfl⟩) (by kernel_rfl) rfl rfl) ?_
    refine fcn (ob_copy 37 38 (.inl rfl) rfl (.inr ⟨_, _, _, rfl, rfl, by kernel_rfl, by decide, rfl⟩) (by kernel_rfl) rfl) ?_
    refine fcn (ob_read 26 5 39 (Con.fr 42 (px l)) rfl rfl (.inr ⟨_, _, _, rfl, rfl, by kernel_rfl, by decide, rfl⟩) (by kernel_rfl) points_cell rfl row26 info26) ?_
    refine fcn (ob_call1 35 39 40 _ rfl rfl (.inr ⟨_, _, _, rfl, rfl, by kernel_rfl, by decide, rfl⟩) (by kernel_rfl) (by kernel_rfl) (q_format_px l he)) ?_
    refine fcn (ob_copy 1 41 (.inl rfl) rfl (.inr ⟨_, _, _, rfl, rfl, by kernel_rfl, by decide, rfl⟩) (by kernel_rfl) rfl) ?_
    refine fcn (ob_nestr 40 41 42 _ (ofB l) rfl rfl (.inr ⟨_, _, _, rfl, rfl, by kernel_rfl, by decide, rfl⟩) (by kernel_rfl) (by kernel_rfl) rfl rfl rfl) ?_
    refine fcn (ob_pick 38 42 43 _ rfl rfl (.inr ⟨_, _, _, rfl, rfl, by kernel_rfl, by decide, rfl⟩) (by kernel_rfl) (by kernel_rfl) rfl rfl) ?_
    refine fcn (ob_pick_else 35 43 44 (.bool true) rfl rfl (.inl rfl) (by kernel_rfl) (by kernel_rfl) rfl rfl) ?_
    exact fnl
  intro a9 w9 st9 hbr9 hfr
  have hs9 := hbr9.size
  have hb := up hb hbr9
  have st : St 72 [(2, Fact.cell b2 (Con.pre s xs ys)), (4, fF), (44, fF)] a9 w9 := st9.to (fcs ⟨st9.at_ 2, fcs ⟨st9.at_ 4, fcs ⟨st9.at_ 44, fnl⟩⟩⟩)
  clear st9 hbr9 hfr
  refine wpList_nil ?_
  refine then_normal ?_
  refine wp_cond_false (st.at_ 44) ?_
  refine wp_skip ?_
  refine then_normal ?_
  refine wp_seq ?_
  refine wp_seq ?_
  refine sym_region st [(45, Fact.agg (Con.pre s xs ys)), (46, fF), (47, fT)] [] 3 (by kernel_rfl) (by kernel_rfl) (by kernel_rfl) (Nat.le_of_ble_eq_true rfl) (by kernel_rfl) rfl rfl ?_ ?_
  · refine fcn (ob_read 26 2 45 (Con.pre s xs ys) rfl rfl (.inl rfl) (by kernel_rfl) points_cell rfl row26 info26) ?_
    refine fcn (ob_call1 8 45 46 _ rfl rfl (.inl rfl) (by kernel_rfl) (by kernel_rfl) (w_fit s xs ys false hf)) ?_
    refine fcn (ob_not 46 47 false true rfl rfl rfl (.inl rfl) (by kernel_rfl) rfl rfl) ?_
    exact fnl
  intro a10 w10 st10 hbr10 hfr
  have hs10 := hbr10.size
  have hb := up hb hbr10
  have st : St 72 [(2, Fact.cell b2 (Con.pre s xs ys)), (4, fF), (47, fT)] a10 w10 := st10.to (fcs ⟨st10.at_ 2, fcs ⟨st10.at_ 4, fcs ⟨st10.at_ 47, fnl⟩⟩⟩)
  clear st10 hbr10 hfr
  refine wpList_nil ?_
  refine then_normal ?_
  refine wp_cond_true (st.at_ 47) ?_
  refine wp_seq ?_
  have st := st.to (ks' := [(2, Fact.cell b2 (Con.pre s xs ys)), (47, fT)]) (fcs ⟨st.at_ 2, fcs ⟨st.at_ 47, fnl⟩⟩)
  refine sym_region st [(48, fT), (4, fT)] [] 2 (by kernel_rfl) (by kernel_rfl) (by kernel_rfl) (Nat.le_of_ble_eq_true rfl) (by kernel_rfl) rfl rfl ?_ ?_
  · refine fcn (ob_call0 9 48 _ rfl rfl (.inl rfl) (by kernel_rfl) w_awake) ?_
    refine fcn (ob_copy 48 4 (.inr rfl) rfl (.inl rfl) (by kernel_rfl) rfl) ?_
    exact fnl
  intro a11 w11 st11 hbr11 hfr
  have hs11 := hbr11.size
  have hb := up hb hbr11
  have st : St 72 [(2, Fact.cell b2 (Con.pre s xs ys)), (4, fT)] a11 w11 := st11.to (fcs ⟨st11.at_ 2, fcs ⟨st11.at_ 4, fnl⟩⟩)
  clear st11 hbr11 hfr
  refine wpList_nil ?_
  refine then_normal ?_
  refine wp_ret ?_
  exact sym_ret1 rfl st.defers (resAt_tmp st 4) hb (fun _ h => h)
set_option maxRecDepth 100000 in
theorem law_texts_1y (x : Rat) (l : List Nat) (h : Byt l) (hlen : decide ((l.length : Int) > 900) = false) (he : pe l = 0) : ∀ v0 v1 w, (Fact.agg (Con.fr 12 x)).holds v0 w → (Fact.eq (.string (ofB l))).holds v1 w → Calls Tryz.prog 7 #[v0, v1] w (Ret (fT) w) := by
  intro v0 v1 w hv0 hv1
  have hs : l.length ≤ 1000000 := by have := of_decide_eq_false hlen; omega
  have hz := Fact.fr_sz hv0
  refine sym_calls 72 [(0, Fact.agg (Con.fr 12 x)), (1, Fact.eq (.string (ofB l)))] Tryz.func7 rfl rfl (Nat.le_of_ble_eq_true rfl) (fcs ⟨⟨Nat.le_of_ble_eq_true rfl, hv0⟩, fcs ⟨⟨Nat.le_of_ble_eq_true rfl, hv1⟩, fnl⟩⟩) fun a st => ?_
  have hb := Below.refl w.heap.size w
  refine wp_seq ?_
  refine sym_region st [(2, Fact.var' (Con.fr 12 x)), (4, fF)] [2] 2 (by kernel_rfl) (by kernel_rfl) (by kernel_rfl) (Nat.le_of_ble_eq_true rfl) (by kernel_rfl) rfl rfl ?_ ?_
  · refine fcs ⟨obn_box 26 0 2 _ (Con.fr 12 x) rfl rfl rfl (by kernel_rfl) rfl rfl, ?_⟩
    refine fcn (ob_const (.bool false) 4 (.inr rfl) rfl (.inl rfl) rfl) ?_
    exact fnl
  intro a1 w1 st1 hbr1 hfr
  have hs1 := hbr1.size
  have hb := up hb hbr1
  obtain ⟨b2, c2⟩ := (show (Fact.var' (Con.fr 12 x)).holds _ _ from st1.at_ 2)
  have g2 := hfr.ge (s := 2) rfl c2.1
  have st : St 72 [(1, Fact.eq (.string (ofB l))), (2, Fact.cell b2 (Con.fr 12 x)), (4, fF)] a1 w1 := st1.to (fcs ⟨st1.at_ 1, fcs ⟨c2, fcs ⟨st1.at_ 4, fnl⟩⟩⟩)
  clear st1 hbr1 hfr c2
  refine wpList_nil ?_
  refine then_normal ?_
  refine wp_seq ?_
  refine wp_seq ?_
  refine sym_region st [(12, Fact.eq (.string (ofB l))), (13, fI ((l).length : Int)), (14, fF)] [] 3 (by kernel_rfl) (by kernel_rfl) (by kernel_rfl) (Nat.le_of_ble_eq_true rfl) (by kernel_rfl) rfl rfl ?_ ?_
  · refine fcn (ob_copy 1 12 (.inl rfl) rfl (.inl rfl) (by kernel_rfl) rfl) ?_
    refine fcn (ob_strlen 12 13 l rfl rfl (.inl rfl) (by kernel_rfl) rfl rfl) ?_
    refine fcn (ob_gtc 13 14 .i64 3 _ ((l).length : Int) 900 false hlen rfl rfl (.inl rfl) (by kernel_rfl) rfl rfl) ?_
    exact fnl
  intro a2 w2 st2 hbr2 hfr
  have hs2 := hbr2.size
  have hb := up hb hbr2
  have st : St 72 [(1, Fact.eq (.string (ofB l))), (2, Fact.cell b2 (Con.fr 12 x)), (4, fF), (14, fF)] a2 w2 := st2.to (fcs ⟨st2.at_ 1, fcs ⟨st2.at_ 2, fcs ⟨st2.at_ 4, fcs ⟨st2.at_ 14, fnl⟩⟩⟩⟩)
  clear st2 hbr2 hfr
  refine wpList_nil ?_
  refine then_normal ?_
  refine wp_cond_false (st.at_ 14) ?_
  refine wp_skip ?_
  refine then_normal ?_
  refine wp_seq ?_
  refine sym_region st [(17, Fact.eq (.string (ofB l))), (18, Fact.two (Fact.agg (Con.fr 42 (px l))) (fI 0)), (16, Fact.two (Fact.agg (Con.fr 42 (px l))) (fI 0)), (19, Fact.agg (Con.fr 42 (px l))), (20, fI 0), (5, Fact.var' (Con.raw 3))] [5] 6 (by kernel_rfl) (by kernel_rfl) (by kernel_rfl) (Nat.le_of_ble_eq_true rfl) (by kernel_rfl) rfl rfl ?_ ?_
  · refine fcn (ob_copy 1 17 (.inl rfl) rfl (.inl rfl) (by kernel_rfl) rfl) ?_
    refine fcn (ob_call1 33 17 18 _ rfl rfl (.inl rfl) (by kernel_rfl) (by kernel_rfl) (q_parse_yes l h hs (px l) he rfl)) ?_
    refine fcn (ob_copy 18 16 (.inl rfl) rfl (.inl rfl) (by kernel_rfl) rfl) ?_
    refine fcn (ob_fst 16 19 (Fact.agg (Con.fr 42 (px l))) (fI 0) rfl rfl (.inl rfl) (by kernel_rfl) rfl rfl) ?_
    refine fcn (ob_snd 16 20 (Fact.agg (Con.fr 42 (px l))) (fI 0) rfl rfl (.inl rfl) (by kernel_rfl) rfl rfl) ?_
    refine fcs ⟨obn_new 26 5 _ [.bool false, .slice none 0 0, .slice none 0 0] rfl rfl rfl rfl rfl alloc26, ?_⟩
    exact fnl
  intro a3 w3 st3 hbr3 hfr
  have hs3 := hbr3.size
  have hb := up hb hbr3
  obtain ⟨b5, c5⟩ := (show (Fact.var' (Con.raw 3)).holds _ _ from st3.at_ 5)
  have g5 := hfr.ge (s := 5) rfl c5.1
  have st : St 72 [(1, Fact.eq (.string (ofB l))), (2, Fact.cell b2 (Con.fr 12 x)), (4, fF), (19, Fact.agg (Con.fr 42 (px l))), (20, fI 0), (5, Fact.cell b5 (Con.raw 3))] a3 w3 := st3.to (fcs ⟨st3.at_ 1, fcs ⟨st3.at_ 2, fcs ⟨st3.at_ 4, fcs ⟨st3.at_ 19, fcs ⟨st3.at_ 20, fcs ⟨c5, fnl⟩⟩⟩⟩⟩⟩)
  clear st3 hbr3 hfr c5
  refine sym_store st 26 5 19 b5 (Con.raw 3) (Con.fr 42 (px l)) [(1, Fact.eq (.string (ofB l))), (2, Fact.cell b2 (Con.fr 12 x)), (4, fF), (20, fI 0), (5, Fact.cell b5 (Con.fr 42 (px l)))] rfl rfl rfl rfl rfl rfl info26 ?_ ?_
  · exact fcs ⟨.inr ⟨rfl, safe_eq _ _⟩, fcs ⟨.inr ⟨rfl, safe_cell _ (by omega)⟩, fcs ⟨.inr ⟨rfl, safe_eq _ _⟩, fcs ⟨.inr ⟨rfl, safe_eq _ _⟩, fcs ⟨.inl rfl, fnl⟩⟩⟩⟩⟩
  clear st; intro w4 hB hsz4 st
  have hb := hB _ _ hb (by omega) (by omega)
  clear hB
  refine sym_op st 6 (fI 0) rfl (Nat.le_of_ble_eq_true rfl) rfl rfl (by kernel_rfl) (ob_copy 20 6 (.inr rfl) rfl (.inl rfl) (by kernel_rfl) rfl) ?_
  clear st; intro a5 w5 hbr st; have hs5 := hbr.size; have hb := up hb hbr; clear hbr
  refine wpList_nil ?_
  refine then_normal ?_
  refine wp_seq ?_
  refine sym_region st [(22, Fact.eq (.string (ofB l))), (23, Fact.two (Fact.agg (Con.fr 42 (px l))) (fI 0)), (21, Fact.two (Fact.agg (Con.fr 42 (px l))) (fI 0)), (24, Fact.agg (Con.fr 42 (px l))), (25, fI 0), (7, Fact.var' (Con.raw 3))] [7] 6 (by kernel_rfl) (by kernel_rfl) (by kernel_rfl) (Nat.le_of_ble_eq_true rfl) (by kernel_rfl) rfl rfl ?_ ?_
  · refine fcn (ob_copy 1 22 (.inl rfl) rfl (.inl rfl) (by kernel_rfl) rfl) ?_
    refine fcn (ob_call1 34 22 23 _ rfl rfl (.inl rfl) (by kernel_rfl) (by kernel_rfl) (z_parse_yes l h hs (px l) he rfl)) ?_
    refine fcn (ob_copy 23 21 (.inl rfl) rfl (.inl rfl) (by kernel_rfl) rfl) ?_
    refine fcn (ob_fst 21 24 (Fact.agg (Con.fr 42 (px l))) (fI 0) rfl rfl (.inl rfl) (by kernel_rfl) rfl rfl) ?_
    refine fcn (ob_snd 21 25 (Fact.agg (Con.fr 42 (px l))) (fI 0) rfl rfl (.inl rfl) (by kernel_rfl) rfl rfl) ?_
    refine fcs ⟨obn_new 26 7 _ [.bool false, .slice none 0 0, .slice none 0 0] rfl rfl rfl rfl rfl alloc26, ?_⟩
    exact fnl
  intro a6 w6 st6 hbr6 hfr
  have hs6 := hbr6.size
  have hb := up hb hbr6
  obtain ⟨b7, c7⟩ := (show (Fact.var' (Con.raw 3)).holds _ _ from st6.at_ 7)
  have g7 := hfr.ge (s := 7) rfl c7.1
  have st : St 72 [(1, Fact.eq (.string (ofB l))), (2, Fact.cell b2 (Con.fr 12 x)), (4, fF), (5, Fact.cell b5 (Con.fr 42 (px l))), (6, fI 0), (24, Fact.agg (Con.fr 42 (px l))), (25, fI 0), (7, Fact.cell b7 (Con.raw 3))] a6 w6 := st6.to (fcs ⟨st6.at_ 1, fcs ⟨st6.at_ 2, fcs ⟨st6.at_ 4, fcs ⟨st6.at_ 5, fcs ⟨st6.at_ 6, fcs ⟨st6.at_ 24, fcs ⟨st6.at_ 25, fcs ⟨c7, fnl⟩⟩⟩⟩⟩⟩⟩⟩)
  clear st6 hbr6 hfr c7
  refine sym_store st 26 7 24 b7 (Con.raw 3) (Con.fr 42 (px l)) [(1, Fact.eq (.string (ofB l))), (2, Fact.cell b2 (Con.fr 12 x)), (4, fF), (5, Fact.cell b5 (Con.fr 42 (px l))), (6, fI 0), (25, fI 0), (7, Fact.cell b7 (Con.fr 42 (px l)))] rfl rfl rfl rfl rfl rfl info26 ?_ ?_
  · exact fcs ⟨.inr ⟨rfl, safe_eq _ _⟩, fcs ⟨.inr ⟨rfl, safe_cell _ (by omega)⟩, fcs ⟨.inr ⟨rfl, safe_eq _ _⟩, fcs ⟨.inr ⟨rfl, safe_cell _ (by omega)⟩, fcs ⟨.inr ⟨rfl, safe_eq _ _⟩, fcs ⟨.inr ⟨rfl, safe_eq _ _⟩, fcs ⟨.inl rfl, fnl⟩⟩⟩⟩⟩⟩⟩
  clear st; intro w7 hB hsz7 st
  have hb := hB _ _ hb (by omega) (by omega)
  clear hB
  refine sym_op st 8 (fI 0) rfl (Nat.le_of_ble_eq_true rfl) rfl rfl (by kernel_rfl) (ob_copy 25 8 (.inr rfl) rfl (.inl rfl) (by kernel_rfl) rfl) ?_
  clear st; intro a8 w8 hbr st; have hs8 := hbr.size; have hb := up hb hbr; clear hbr
  refine wpList_nil ?_
  refine then_normal ?_
  refine wp_seq ?_
  refine wp_seq ?_
  refine sym_region st [(26, fI 0), (27, fI 0), (28, fF), (29, fF), (30, Fact.agg (Con.fr 42 (px l))), (31, Fact.agg (Con.fr 42 (px l))), (32, fT), (33, fF), (34, fF), (35, fF), (36, fI 0), (37, fT), (38, fT), (39, Fact.agg (Con.fr 42 (px l))), (40, Fact.eq (.string (ofB l))), (41, Fact.eq (.string (ofB l))), (42, fF), (43, fF), (44, fF)] [] 19 (by kernel_rfl) (by kernel_rfl) (by kernel_rfl) (Nat.le_of_ble_eq_true rfl) (by kernel_rfl) rfl rfl ?_ ?_
  · refine fcn (ob_copy 6 26 (.inl rfl) rfl (.inl rfl) (by kernel_rfl) rfl) ?_
    refine fcn (ob_copy 8 27 (.inl rfl) rfl (.inl rfl) (by kernel_rfl) rfl) ?_
    refine fcn (ob_nei 26 27 28 .i64 33 _ 0 0 false rfl rfl rfl (.inl rfl) (by kernel_rfl) (by kernel_rfl) rfl rfl rfl) ?_
    refine fcn (ob_copy 28 29 (.inl rfl) rfl (.inl rfl) (by kernel_rfl) rfl) ?_
    refine fcn (ob_read 26 5 30 (Con.fr 42 (px l)) rfl rfl (.inr ⟨_, _, _, rfl, rfl, by kernel_rfl, by decide, rfl⟩) (by kernel_rfl) points_cell rfl row26 info26) ?_
    refine fcn (ob_read 26 7 31 (Con.fr 42 (px l)) rfl rfl (.inr ⟨_, _, _, rfl, rfl, by kernel_rfl, by decide, rfl⟩) (by kernel_rfl) points_cell rfl row26 info26) ?_
    refine fcn (ob_call2 13 30 31 32 _ rfl rfl (.inr ⟨_, _, _, rfl, rfl, by kernel_rfl, by decide, rfl⟩) (by kernel_rfl) (by kernel_rfl) (by kernel_rfl) (z_same 42 42 (px l) (px l) true (decide_eq_true rfl))) ?_
    refine fcn (ob_not 32 33 true false rfl rfl rfl (.inr ⟨_, _, _, rfl, rfl, by kernel_rfl, by decide, rfl⟩) (by kernel_rfl) rfl rfl) ?_
    refine fcn (ob_pick_else 29 33 34 (.bool true) rfl rfl (.inl rfl) (by kernel_rfl) (by kernel_rfl) rfl rfl) ?_
    refine fcn (ob_copy 34 35 (.inl rfl) rfl (.inl rfl) (by kernel_rfl) rfl) ?_
    refine fcn (ob_copy 6 36 (.inl rfl) rfl (.inr ⟨_, _, _, rfl, rfl, by kernel_rfl, by decide, rfl⟩) (by kernel_rfl) rfl) ?_
    refine fcn (ob_eqc 36 37 .i64 33 _ 0 0 true rfl rfl rfl (.inr ⟨_, _, _, rfl, rfl, by kernel_rfl, by decide, rfl⟩) (by kernel_rfl) rfl rfl) ?_
    refine fcn (ob_copy 37 38 (.inl rfl) rfl (.inr ⟨_, _, _, rfl, rfl, by kernel_rfl, by decide, rfl⟩) (by kernel_rfl) rfl) ?_
    refine fcn (ob_read 26 5 39 (Con.fr 42 (px l)) rfl rfl (.inr ⟨_, _, _, rfl, rfl, by kernel_rfl, by decide, rfl⟩) (by kernel_rfl) points_cell rfl row26 info26) ?_
    refine fcn (ob_call1 35 39 40 _ rfl rfl (.inr ⟨_, _, _, rfl, rfl, by kernel_rfl, by decide, rfl⟩) (by kernel_rfl) (by kernel_rfl) (q_format_px l he)) ?_
    refine fcn (ob_copy 1 41 (.inl rfl) rfl (.inr ⟨_, _, _, rfl, rfl, by kernel_rfl, by decide, rfl⟩) (by kernel_rfl) rfl) ?_
    refine fcn (ob_nestr 40 41 42 _ (ofB l) rfl rfl (.inr ⟨_, _, _, rfl, rfl, by kernel_rfl, by decide, rfl⟩) (by kernel_rfl) (by kernel_rfl) rfl rfl rfl) ?_
    refine fcn (ob_pick 38 42 43 _ rfl rfl (.inr ⟨_, _, _, rfl, rfl, by kernel_rfl, by decide, rfl⟩) (by kernel_rfl) (by kernel_rfl) rfl rfl) ?_
    refine fcn (ob_pick_else 35 43 44 (.bool true) rfl rfl (.inl rfl) (by kernel_rfl) (by kernel_rfl) rfl rfl) ?_
    exact fnl
  intro a9 w9 st9 hbr9 hfr
  have hs9 := hbr9.size
  have hb := up hb hbr9
  have st : St 72 [(2, Fact.cell b2 (Con.fr 12 x)), (4, fF), (44, fF)] a9 w9 := st9.to (fcs ⟨st9.at_ 2, fcs ⟨st9.at_ 4, fcs ⟨st9.at_ 44, fnl⟩⟩⟩)
  clear st9 hbr9 hfr
  refine wpList_nil ?_
  refine then_normal ?_
  refine wp_cond_false (st.at_ 44) ?_
  refine wp_skip ?_
  refine then_normal ?_
  refine wp_seq ?_
  refine wp_seq ?_
  refine sym_region st [(45, Fact.agg (Con.fr 12 x)), (46, fT), (47, fF)] [] 3 (by kernel_rfl) (by kernel_rfl) (by kernel_rfl) (Nat.le_of_ble_eq_true rfl) (by kernel_rfl) rfl rfl ?_ ?_
  · refine fcn (ob_read 26 2 45 (Con.fr 12 x) rfl rfl (.inl rfl) (by kernel_rfl) points_cell rfl row26 info26) ?_
    refine fcn (ob_call1 8 45 46 _ rfl rfl (.inl rfl) (by kernel_rfl) (by kernel_rfl) (w_fit_yes x)) ?_
    refine fcn (ob_not 46 47 true false rfl rfl rfl (.inl rfl) (by kernel_rfl) rfl rfl) ?_
    exact fnl
  intro a10 w10 st10 hbr10 hfr
  have hs10 := hbr10.size
  have hb := up hb hbr10
  have st : St 72 [(2, Fact.cell b2 (Con.fr 12 x)), (4, fF), (47, fF)] a10 w10 := st10.to (fcs ⟨st10.at_ 2, fcs ⟨st10.at_ 4, fcs ⟨st10.at_ 47, fnl⟩⟩⟩)
  clear st10 hbr10 hfr
  refine wpList_nil ?_
  refine then_normal ?_
  refine wp_cond_false (st.at_ 47) ?_
  refine wp_skip ?_
  refine then_normal ?_
  refine wp_seq ?_
  refine sym_region st [(49, Fact.agg (Con.fr 12 x)), (50, Fact.eq (.string (ofB (fmt x)))), (9, Fact.eq (.string (ofB (fmt x))))] [] 3 (by kernel_rfl) (by kernel_rfl) (by kernel_rfl) (Nat.le_of_ble_eq_true rfl) (by kernel_rfl) rfl rfl ?_ ?_
  · refine fcn (ob_read 26 2 49 (Con.fr 12 x) rfl rfl (.inl rfl) (by kernel_rfl) points_cell rfl row26 info26) ?_
    refine fcn (ob_call1 35 49 50 _ rfl rfl (.inl rfl) (by kernel_rfl) (by kernel_rfl) (q_format12 x)) ?_
    refine fcn (ob_copy 50 9 (.inr rfl) rfl (.inl rfl) (by kernel_rfl) rfl) ?_
    exact fnl
  intro a11 w11 st11 hbr11 hfr
  have hs11 := hbr11.size
  have hb := up hb hbr11
  have st : St 72 [(2, Fact.cell b2 (Con.fr 12 x)), (4, fF), (9, Fact.eq (.string (ofB (fmt x))))] a11 w11 := st11.to (fcs ⟨st11.at_ 2, fcs ⟨st11.at_ 4, fcs ⟨st11.at_ 9, fnl⟩⟩⟩)
  clear st11 hbr11 hfr
  refine wpList_nil ?_
  refine then_normal ?_
  refine wp_seq ?_
  refine sym_region st [(52, Fact.eq (.string (ofB (fmt x)))), (53, Fact.two (Fact.agg (Con.fr 42 x)) (fI 0)), (51, Fact.two (Fact.agg (Con.fr 42 x)) (fI 0)), (54, Fact.agg (Con.fr 42 x)), (55, fI 0), (10, Fact.var' (Con.raw 3))] [10] 6 (by kernel_rfl) (by kernel_rfl) (by kernel_rfl) (Nat.le_of_ble_eq_true rfl) (by kernel_rfl) rfl rfl ?_ ?_
  · refine fcn (ob_copy 9 52 (.inl rfl) rfl (.inl rfl) (by kernel_rfl) rfl) ?_
    refine fcn (ob_call1 33 52 53 _ rfl rfl (.inl rfl) (by kernel_rfl) (by kernel_rfl) (q_parse_yes (fmt x) (byt_fmt x) (len_fmt hz) x (pe_fmt hz).1 (pe_fmt hz).2)) ?_
    refine fcn (ob_copy 53 51 (.inl rfl) rfl (.inl rfl) (by kernel_rfl) rfl) ?_
    refine fcn (ob_fst 51 54 (Fact.agg (Con.fr 42 x)) (fI 0) rfl rfl (.inl rfl) (by kernel_rfl) rfl rfl) ?_
    refine fcn (ob_snd 51 55 (Fact.agg (Con.fr 42 x)) (fI 0) rfl rfl (.inl rfl) (by kernel_rfl) rfl rfl) ?_
    refine fcs ⟨obn_new 26 10 _ [.bool false, .slice none 0 0, .slice none 0 0] rfl rfl rfl rfl rfl alloc26, ?_⟩
    exact fnl
  intro a12 w12 st12 hbr12 hfr
  have hs12 := hbr12.size
  have hb := up hb hbr12
  obtain ⟨b10, c10⟩ := (show (Fact.var' (Con.raw 3)).holds _ _ from st12.at_ 10)
  have g10 := hfr.ge (s := 10) rfl c10.1
  have st : St 72 [(2, Fact.cell b2 (Con.fr 12 x)), (4, fF), (9, Fact.eq (.string (ofB (fmt x)))), (54, Fact.agg (Con.fr 42 x)), (55, fI 0), (10, Fact.cell b10 (Con.raw 3))] a12 w12 := st12.to (fcs ⟨st12.at_ 2, fcs ⟨st12.at_ 4, fcs ⟨st12.at_ 9, fcs ⟨st12.at_ 54, fcs ⟨st12.at_ 55, fcs ⟨c10, fnl⟩⟩⟩⟩⟩⟩)
  clear st12 hbr12 hfr c10
  refine sym_store st 26 10 54 b10 (Con.raw 3) (Con.fr 42 x) [(2, Fact.cell b2 (Con.fr 12 x)), (4, fF), (9, Fact.eq (.string (ofB (fmt x)))), (55, fI 0), (10, Fact.cell b10 (Con.fr 42 x))] rfl rfl rfl rfl rfl rfl info26 ?_ ?_
  · exact fcs ⟨.inr ⟨rfl, safe_cell _ (by omega)⟩, fcs ⟨.inr ⟨rfl, safe_eq _ _⟩, fcs ⟨.inr ⟨rfl, safe_eq _ _⟩, fcs ⟨.inr ⟨rfl, safe_eq _ _⟩, fcs ⟨.inl rfl, fnl⟩⟩⟩⟩⟩
  clear st; intro w13 hB hsz13 st
  have hb := hB _ _ hb (by omega) (by omega)
  clear hB
  refine sym_op st 11 (fI 0) rfl (Nat.le_of_ble_eq_true rfl) rfl rfl (by kernel_rfl) (ob_copy 55 11 (.inr rfl) rfl (.inl rfl) (by kernel_rfl) rfl) ?_
  clear st; intro a14 w14 hbr st; have hs14 := hbr.size; have hb := up hb hbr; clear hbr
  refine wpList_nil ?_
  refine then_normal ?_
  refine wp_seq ?_
  have st := st.to (ks' := [(2, Fact.cell b2 (Con.fr 12 x)), (9, Fact.eq (.string (ofB (fmt x)))), (10, Fact.cell b10 (Con.fr 42 x)), (11, fI 0)]) (fcs ⟨st.at_ 2, fcs ⟨st.at_ 9, fcs ⟨st.at_ 10, fcs ⟨st.at_ 11, fnl⟩⟩⟩⟩)
  refine sym_region st [(56, Fact.eq (.string (ofB (fmt x)))), (57, Fact.agg (Con.fr 12 x)), (58, Fact.eq (.string (ofB (fmt x)))), (59, fT), (60, fT), (61, fI 0), (62, fT), (63, fT), (64, fT), (65, Fact.agg (Con.fr 42 x)), (66, Fact.agg (Con.fr 12 x)), (67, fT), (68, fT), (69, fT), (70, fT), (71, fT), (4, fT)] [] 17 (by kernel_rfl) (by kernel_rfl) (by kernel_rfl) (Nat.le_of_ble_eq_true rfl) (by kernel_rfl) rfl rfl ?_ ?_
  · refine fcn (ob_copy 9 56 (.inl rfl) rfl (.inl rfl) (by kernel_rfl) rfl) ?_
    refine fcn (ob_read 26 2 57 (Con.fr 12 x) rfl rfl (.inl rfl) (by kernel_rfl) points_cell rfl row26 info26) ?_
    refine fcn (ob_call1 36 57 58 _ rfl rfl (.inl rfl) (by kernel_rfl) (by kernel_rfl) (z_format12 x)) ?_
    refine fcn (ob_eqstr 56 58 59 _ (ofB (fmt x)) rfl rfl (.inl rfl) (by kernel_rfl) (by kernel_rfl) rfl rfl rfl) ?_
    refine fcn (ob_copy 59 60 (.inl rfl) rfl (.inl rfl) (by kernel_rfl) rfl) ?_
    refine fcn (ob_copy 11 61 (.inl rfl) rfl (.inr ⟨_, _, _, rfl, rfl, by kernel_rfl, by decide, rfl⟩) (by kernel_rfl) rfl) ?_
    refine fcn (ob_eqc 61 62 .i64 33 _ 0 0 true rfl rfl rfl (.inr ⟨_, _, _, rfl, rfl, by kernel_rfl, by decide, rfl⟩) (by kernel_rfl) rfl rfl) ?_
    refine fcn (ob_pick 60 62 63 _ rfl rfl (.inl rfl) (by kernel_rfl) (by kernel_rfl) rfl rfl) ?_
    refine fcn (ob_copy 63 64 (.inl rfl) rfl (.inl rfl) (by kernel_rfl) rfl) ?_
    refine fcn (ob_read 26 10 65 (Con.fr 42 x) rfl rfl (.inr ⟨_, _, _, rfl, rfl, by kernel_rfl, by decide, rfl⟩) (by kernel_rfl) points_cell rfl row26 info26) ?_
    refine fcn (ob_read 26 2 66 (Con.fr 12 x) rfl rfl (.inr ⟨_, _, _, rfl, rfl, by kernel_rfl, by decide, rfl⟩) (by kernel_rfl) points_cell rfl row26 info26) ?_
    refine fcn (ob_call2 13 65 66 67 _ rfl rfl (.inr ⟨_, _, _, rfl, rfl, by kernel_rfl, by decide, rfl⟩) (by kernel_rfl) (by kernel_rfl) (by kernel_rfl) (z_same 42 12 x x true (decide_eq_true rfl))) ?_
    refine fcn (ob_pick 64 67 68 _ rfl rfl (.inl rfl) (by kernel_rfl) (by kernel_rfl) rfl rfl) ?_
    refine fcn (ob_copy 68 69 (.inl rfl) rfl (.inl rfl) (by kernel_rfl) rfl) ?_
    refine fcn (ob_call0 9 70 _ rfl rfl (.inr ⟨_, _, _, rfl, rfl, by kernel_rfl, by decide, rfl⟩) (by kernel_rfl) w_awake) ?_
    refine fcn (ob_pick 69 70 71 _ rfl rfl (.inl rfl) (by kernel_rfl) (by kernel_rfl) rfl rfl) ?_
    refine fcn (ob_copy 71 4 (.inr rfl) rfl (.inl rfl) (by kernel_rfl) rfl) ?_
    exact fnl
  intro a15 w15 st15 hbr15 hfr
  have hs15 := hbr15.size
  have hb := up hb hbr15
  have st : St 72 [(4, fT)] a15 w15 := st15.to (fcs ⟨st15.at_ 4, fnl⟩)
  clear st15 hbr15 hfr
  refine wpList_nil ?_
  refine then_normal ?_
  refine wp_ret ?_
  exact sym_ret1 rfl st.defers (resAt_tmp st 4) hb (fun _ h => h)
theorem byt_Bt (s : ByteArray) : Byt (Bt s) := fun c hc => by
  unfold Bt at hc
  obtain ⟨b, _, rfl⟩ := List.mem_map.1 hc
  exact b.toNat_lt
theorem law_texts (s0 : Bool) (xs0 ys0 : List Nat) (s1 : ByteArray) : ∀ v0 v1 w, (Fact.agg (Con.pre s0 xs0 ys0)).holds v0 w → (Fact.eq (.string s1)).holds v1 w → Calls Tryz.prog 7 #[v0, v1] w (Ret (fT) w) := by
  intro v0 v1 w hv0 hv1
  have hB := byt_Bt s1
  rw [← ofB_Bt s1] at hv1
  generalize Bt s1 = l at hB hv1
  cases hlen : decide ((l.length : Int) > 900) with
  | true => exact law_texts_long s0 xs0 ys0 l hlen v0 v1 w hv0 hv1
  | false =>
  by_cases he : pe l = 0
  · cases hf : fitB s0 xs0 ys0 with
    | false => exact law_texts_1n s0 xs0 ys0 hf l hB hlen he v0 v1 w hv0 hv1
    | true => exact law_texts_1y _ l hB hlen he v0 v1 w (Fact.pre_fr hv0 hf) hv1
  · cases hf : fitB s0 xs0 ys0 with
    | false => exact law_texts_0n s0 xs0 ys0 hf l hB hlen _ rfl he v0 v1 w hv0 hv1
    | true => exact law_texts_0y _ l hB hlen _ rfl he v0 v1 w (Fact.pre_fr hv0 hf) hv1
end Go.Proofs.YtjfehdkfogdpgaaGreatDoor
namespace Go.Proofs.YtjfehdkfogdpgaaGreatDoor
open Go.ChangeShapes Go.WideShapes Go.ChangeAt Go.RowKit Go.Deep
section
variable {H : Type} {enc : TypeId × Value → H}
set_option maxRecDepth 100000 in
theorem open_dig {W : World} {k : Nat} {c0 : Value} {y : DataW H × List MemPlace} (h2 : DataW.trod enc Tryz.prog W 0 (fun _ => true) true k 22 [c0] = some y) :
    ∃ A n c xs, c0 = .slice A n c ∧ Rd W A xs ∧ xs.length = n ∧ n ≤ c ∧ Nm.Dig xs := by
  rcases open_ints Tryz.underlying22 Tryz.underlying59 cells35 h2 with ⟨hc, _⟩ | ⟨a, len, cap, zs, hc, _, hl, _, hz, _, hcell, hwf⟩
  · injection hc with hc _
    subst hc
    exact ⟨none, 0, 0, [], rfl, .inl rfl, rfl, Nat.le_refl _, Nm.Dig.nil⟩
  · injection hc with hc _
    subst hc
    have hzl : zs.length = cap := by simpa using hz
    have hb : ∀ z ∈ zs, 0 ≤ z ∧ z < 4294967296 := fun z hm => by
      have := hwf z hm
      simp [Lit.wf, IntKind.min, IntKind.max, IntKind.signed, IntKind.bits] at this
      omega
    refine ⟨some a, len, cap, (zs.take len).map Int.toNat, rfl, ?_, by simp; omega, hl, ?_⟩
    · rcases Nat.eq_zero_or_pos len with h0 | h0
      · subst h0; exact .inl (by simp)
      · have h3 := hcell 0 (by omega)
        have hs : a.spot = none := by
          rw [Addr.add_zero'] at h3
          cases hsp : a.spot with
          | none => rfl
          | some x =>
            unfold World.cell? at h3
            rw [hsp] at h3
            split at h3
            · simp at h3
            · cases h3
        obtain ⟨g, off, sp⟩ := a
        have hs' : sp = none := hs
        subst hs'
        refine .inr ⟨g, off, rfl, fun i hi => ?_⟩
        have hi' : i < len := by simp at hi; omega
        have h4 := hcell i (by omega)
        rw [Addr.add_lit] at h4
        rw [h4]
        have hiz : i < zs.length := by omega
        have h5 := hb zs[i] (List.getElem_mem hiz)
        simp only [List.getD, List.getElem?_eq_getElem hiz, Option.getD_some, List.getElem_map, List.getElem_take]
        rw [Int.toNat_of_nonneg h5.1]
    · intro z hz
      obtain ⟨x, hx, rfl⟩ := List.mem_map.1 hz
      have := hb x (List.mem_of_mem_take hx)
      omega
theorem open_natc {W : World} {k : Nat} {c0 : Value} {y : DataW H × List MemPlace} (h : DataW.trod enc Tryz.prog W 0 (fun _ => true) true k 24 [c0] = some y) :
    ∃ zs, (Con.any_ zs).is W [c0] := by
  obtain ⟨ys, m, _, _, _, hlen, hg⟩ := DataW.trod_struct Tryz.underlying24 h
  have h1 := hg 0 _ rfl
  have c22 : Tryz.prog.cellsOf 22 = 1 := by kernel_rfl
  have h2 : ∃ y, DataW.trod enc Tryz.prog W 0 (fun _ => true) true m 22 [c0] = some y := by
    match ys, hlen with
    | [y], _ => exact ⟨y, by simpa [c22] using h1⟩
  obtain ⟨y, h2⟩ := h2
  obtain ⟨A, n, c, zs, rfl, hr, rfl, hc, hd⟩ := open_dig h2
  exact ⟨zs, A, c, rfl, hr, hc, hd⟩
theorem cells26 : Tryz.prog.cellsOf 26 = 3 := by kernel_rfl
theorem cells4 : Tryz.prog.cellsOf 4 = 1 := by kernel_rfl
set_option maxRecDepth 100000 in
theorem open_frac {W : World} {r : Reach} {b0 : Nat} {v : Value} {d : DataW H} {p : List MemPlace} (hv : Value.okWide Tryz.prog W r b0 26 v) (h : DataW.Trod enc Tryz.prog W 0 (fun _ => true) true 26 v d p) :
    ∃ s xs ys, (Fact.agg (Con.pre s xs ys)).holds v W := by
  obtain ⟨cs, rfl, hsz⟩ := okWide_struct Tryz.underlying26 hv
  obtain ⟨l⟩ := cs
  match l, hsz.trans cells26 with
  | [c0, c1, c2], _ =>
    obtain ⟨fuel, hf⟩ := h
    obtain ⟨y0, y1, y2, m, _, _, t0, t1, t2⟩ := trod_struct3 Tryz.underlying26 hf
    have h0 : DataW.trod enc Tryz.prog W 0 (fun _ => true) true m 4 [c0] = some y0 := by simpa [Value.cells, cells4] using t0
    have h1 : DataW.trod enc Tryz.prog W 0 (fun _ => true) true m 24 [c1] = some y1 := by simpa [Value.cells, cells24] using t1
    have h2 : DataW.trod enc Tryz.prog W 0 (fun _ => true) true m 24 [c2] = some y2 := by simpa [Value.cells, cells24] using t2
    obtain ⟨b, hb, _⟩ := DataW.trod_bool Tryz.underlying4 h0
    injection hb with hb _
    subst hb
    obtain ⟨xs, hx⟩ := open_natc h1
    obtain ⟨ys, hy⟩ := open_natc h2
    exact ⟨b, xs, ys, [.bool b, c1, c2], rfl, [.bool b], [c1, c2], rfl, rfl, [c1], [c2], rfl, hx, hy⟩
end
end Go.Proofs.YtjfehdkfogdpgaaGreatDoor
namespace Go.Proofs.YtjfehdkfogdpgaaGreatDoor
open Go.ChangeShapes Go.WideShapes Go.ChangeAt Go.RowKit Go.ChangeMaps
set_option maxRecDepth 100000 in
theorem fractionTexts_lifted (os : Os) (started : os.Started) (H : Type) (enc : TypeId × Value → H) :
    ReturnsInHanded {} Tryz.checked os 7 .any (fun w args => (Rows.fractionTextsSpec.pre enc Tryz.prog Tryz.f7 Rows.fractionTextsRow.domain false w args ∧ laidMetH Tryz.prog Rows.fractionTextsRow.laid w) ∧ sizedMet enc Tryz.prog Tryz.f7 (OpenSpec.ofChange Rows.fractionTextsSpec) false w args)
      (Rows.fractionTextsSpec.post enc Tryz.prog Tryz.f7 false true false false) := by
  refine returnsInHanded_of_change_and (C := Tryz.checked) (X := fun w _ => laidMetH Tryz.prog Rows.fractionTextsRow.laid w) (fun _ _ _ hh h => h.of_heap hh) Tryz.own started (by kernel_rfl) Tryz.func7
    (ChangeSpec.witness_shaped (enc := enc) (C := Tryz.checked) (os := os) (X := fun w _ => laidMetH Tryz.prog Rows.fractionTextsRow.laid w) false (World.laidAll Tryz.prog os Rows.fractionTextsRow.laid) #[.agg #[.bool false, .slice none 0 0, .slice none 0 0], .string ⟨#[]⟩] 8 (World.laidAll_os _ _ _)
      (World.shaped_of_ZipB (by kernel_rfl) (by kernel_rfl)) (by kernel_rfl) (by kernel_rfl) (by kernel_rfl)
      (by rw [MakeChecks.laidMetH_plain _ _ _ (by kernel_rfl)]; exact laidMet_laidAll _ (by kernel_rfl) (by kernel_rfl))) ?_
  intro W base args ds gs before hval0 hW hc _ hL _
  have hval : ∀ (j : Nat) t v, Tryz.f7.params[j]? = some t → args[j]? = some v → Value.okWide Tryz.prog W .any base t v := hval0
  have hW' := hW
  obtain ⟨p, q, hA0, hV, rfl, _, _⟩ := hW
  have hA : DataW.TrodAll enc Tryz.prog W 0 (fun _ => true) true Tryz.f7.params.toList args.toList ds p := hA0
  rw [Tryz.params7] at hA hval
  obtain ⟨v0, v1, d0, d1, p0, p1, rfl, rfl, rfl, h0, h1⟩ := trodAll_two hA
  obtain ⟨rfl, rfl⟩ := trodVars_none hV
  clear hA0
  simp only [List.append_nil] at hW' 
  have hlt0 : ∀ x ∈ p0, x.block < W.heap.size := fun x hx => by simpa using hW'.lt x (by simp [hx])
  obtain ⟨s0, xs0, ys0, g0⟩ := open_frac (hval 0 26 v0 rfl rfl) h0
  obtain ⟨s1, rfl, rfl, rfl, ws1⟩ := open_string (show Tryz.prog.underlying 9 = some .string by kernel_rfl) (hval 1 9 v1 rfl rfl) h1
  have g1 : (Fact.eq (.string s1)).holds (.string s1) W := rfl
  refine (law_texts s0 xs0 ys0 s1 _ _ W g0 g1).mono fun e W' ⟨u, he, hb, hu⟩ => ?_
  obtain rfl : u = .bool true := hu
  subst he
  exact ⟨_, rfl, post_true rfl rfl hW' rfl rfl (trodAll_mk2 (Below.trod Tryz.laidOut (by kernel_rfl) (of_decide_eq_true (by kernel_rfl)) h0 hb hlt0) (shut_string (show Tryz.prog.underlying 9 = some .string by kernel_rfl) ws1)) hb⟩
theorem fractionTexts_holds : Rows.FractionTextsSaid :=
  OpenClaim.holds_of_wide 7 Tryz.f7 rfl rfl rfl rfl rfl rfl rfl ⟨rfl, rfl, rfl, rfl, rfl⟩ rfl rfl rfl rfl rfl (by kernel_rfl) Tryz.func7 (by kernel_rfl)
    (of_decide_eq_true (by kernel_rfl)) (by unfold Func.isWrapper; first | (rw [if_pos (by decide +kernel)]; kernel_rfl) | (rw [if_neg (by decide +kernel)]; exact ⟨rfl, rfl⟩))
    (fun os started H enc _ => fractionTexts_lifted os started H enc)
theorem fractionTexts_card : Rows.FractionTextsCardSaid :=
  Claim7.holds_tied_plain_at .later [] [.data, .pinned] true (true, "33eb5802ca5d853d263c72618fd648d60c96914e4d0a49e235c8b6d4eff8fccc") false fractionTexts_holds (fun _ h => by cases h) (by kernel_rfl) (fun _ h => by cases h) fractionTexts_row_tie rfl ⟨rfl, rfl⟩ (by kernel_rfl) rfl
    (fun f fn hf hfn => by
      obtain rfl : f = 7 := Option.some.inj ((show Tryz.prog.funcNamed "robotics/roboticslaw02.FractionTexts" = some 7 by kernel_rfl).symm.trans hf) |>.symm
      obtain rfl : fn = Tryz.f7 := (Option.some.inj (Tryz.func7.symm.trans hfn)).symm
      exact ⟨by kernel_rfl, fun j t ht => by
        rw [Tryz.params7] at ht
        have hm : t ∈ [26, 9] := by simpa using Array.mem_of_getElem? ht
        have hall : ([26, 9].all fun u => !Tryz.prog.wantsStandIn u) = true := by kernel_rfl
        exact (show Tryz.prog.wantsStandIn t = false by simpa using List.all_eq_true.1 hall t hm)⟩)
    (by kernel_rfl)
end Go.Proofs.YtjfehdkfogdpgaaGreatDoor

/-
  Contracts of Format and Parse of package fraction. Conditions: texts of at most 1000000 bytes.
  The examples that every law asks for.
  The law FractionComputes.
  An argument that is a fraction, opened: a sign and two slices of digits. No conditions.
  The row and the tied card of FractionComputes, proved: whatever the input, the law returns true, and the input reads as it did. No conditions.
-/
import Derived.Deep.Strs
import Derived.Test.YtjfehdkfogdpgaaGreatDoorTie
import Derived.Test.YtjfehdkfogdpgaaGreatDoorCards
import Derived.LaidMore
import Derived.Lay
import Derived.SevenTiedAt
import Derived.Stop.Joined
import Derived.ChangeMaps5
import Derived.Test.YtjfehdkfogdpgaaGreatDoorCoE
namespace Go.Proofs.YtjfehdkfogdpgaaGreatDoor
open Go.RowKit
def fmt (x : Rat) : List Nat :=
  if decide (x.den = 1) = true then (if Rt.ng x = true then [45] ++ Nm.dec (Rt.tp x) else Nm.dec (Rt.tp x))
  else ((if Rt.ng x = true then [45] ++ Nm.dec (Rt.tp x) else Nm.dec (Rt.tp x)) ++ [47]) ++ Nm.dec x.den
theorem t_cutb (l : List Nat) (h : Byt l) (hs : l.length ≤ 1000000) (b : Bool) (hb : sls l = b) : ∀ v w, (Fact.eq (.string (ofB l))).holds v w → Calls Tryz.prog 67 #[v, .string ⟨#[47]⟩] w (Ret (Fact.three (Fact.eq (.string (ofB (bef l)))) (Fact.eq (.string (ofB (aft l)))) (Fact.eq (.bool b))) w) := by
  subst hb; exact t_cut l h hs
set_option maxRecDepth 100000 in
theorem q_format (k : Nat) (x : Rat) (hp : (Nm.dec (Rt.tp x)).length ≤ 100000) (hq : (Nm.dec x.den).length ≤ 100000) : ∀ v0 w, (Fact.agg (Con.fr k x)).holds v0 w → Calls Tryz.prog 35 #[v0] w (Ret (Fact.eq (.string (ofB (fmt x)))) w) := by
  intro v0 w hv0
  cases hng : Rt.ng x with
  | false =>
    cases hd1 : decide (x.den = 1) with
    | false =>
      refine sym_calls 21 [(0, Fact.agg (Con.fr k x))] Tryz.func35 rfl rfl (Nat.le_of_ble_eq_true rfl) (fcs ⟨⟨Nat.le_of_ble_eq_true rfl, hv0⟩, fnl⟩) fun a st => ?_
      have hb := Below.refl w.heap.size w
      refine wp_seq ?_
      refine sym_region st [(1, Fact.var' (Con.fr k x)), (2, Fact.eq (.string (ofB ([]))))] [1] 2 (by kernel_rfl) (by kernel_rfl) (by kernel_rfl) (Nat.le_of_ble_eq_true rfl) (by kernel_rfl) rfl rfl ?_ ?_
      · refine fcs ⟨obn_box 26 0 1 _ (Con.fr k x) rfl rfl rfl (by kernel_rfl) rfl rfl, ?_⟩
        refine fcs ⟨Ob.new_ (ob_const (.string ⟨#[]⟩) 2 (.inr rfl) rfl (.inl rfl) rfl) (by kernel_rfl), ?_⟩
        exact fnl
      intro a1 w1 st1 hbr1 hfr
      have hs1 := hbr1.size
      have hb := up hb hbr1
      obtain ⟨b1, c1⟩ := (show (Fact.var' (Con.fr k x)).holds _ _ from st1.at_ 1)
      have g1 := hfr.ge (s := 1) rfl c1.1
      have st : St 21 [(1, Fact.cell b1 (Con.fr k x)), (2, Fact.eq (.string (ofB ([]))))] a1 w1 := st1.to (fcs ⟨c1, fcs ⟨st1.at_ 2, fnl⟩⟩)
      clear st1 hbr1 hfr c1
      refine wpList_nil ?_
      refine then_normal ?_
      refine wp_seq ?_
      refine sym_region st [(4, Fact.ptr (Con.nn k (Rt.tp x))), (5, Fact.agg (Con.nn k (Rt.tp x))), (6, Fact.eq (.string (ofB (Nm.dec (Rt.tp x))))), (3, Fact.eq (.string (ofB (Nm.dec (Rt.tp x)))))] [] 4 (by kernel_rfl) (by kernel_rfl) (by kernel_rfl) (Nat.le_of_ble_eq_true rfl) (by kernel_rfl) rfl rfl ?_ ?_
      · refine fcs ⟨Ob.new_ (ob_addr 26 1 1 4 1 (Con.fr k x) (Con.nn k (Rt.tp x)) rfl rfl (.inl rfl) (by kernel_rfl) points_cell rfl (Con.fr_tp k x) field26_1) (by kernel_rfl), ?_⟩
        refine fcs ⟨Ob.new_ (ob_read 24 4 5 (Con.nn k (Rt.tp x)) rfl rfl (.inl rfl) (by kernel_rfl) points_ptr rfl row24 info24) (by kernel_rfl), ?_⟩
        refine fcs ⟨Ob.new_ (ob_call1 72 5 6 _ rfl rfl (.inl rfl) (by kernel_rfl) (by kernel_rfl) (n_format k (Rt.tp x))) (by kernel_rfl), ?_⟩
        refine fcs ⟨Ob.new_ (ob_copy 6 3 (.inr rfl) rfl (.inl rfl) (by kernel_rfl) rfl) (by kernel_rfl), ?_⟩
        exact fnl
      intro a2 w2 st2 hbr2 hfr
      have hs2 := hbr2.size
      have hb := up hb hbr2
      have st : St 21 [(1, Fact.cell b1 (Con.fr k x)), (2, Fact.eq (.string (ofB ([])))), (3, Fact.eq (.string (ofB (Nm.dec (Rt.tp x)))))] a2 w2 := st2.to (fcs ⟨st2.at_ 1, fcs ⟨st2.at_ 2, fcs ⟨st2.at_ 3, fnl⟩⟩⟩)
      clear st2 hbr2 hfr
      refine wpList_nil ?_
      refine then_normal ?_
      refine wp_seq ?_
      refine wp_seq ?_
      refine sym_region st [(7, Fact.ptr (Con.bool (Rt.ng x))), (8, Fact.eq (.bool false))] [] 2 (by kernel_rfl) (by kernel_rfl) (by kernel_rfl) (Nat.le_of_ble_eq_true rfl) (by kernel_rfl) rfl rfl ?_ ?_
      · refine fcs ⟨Ob.new_ (ob_addr 26 0 1 7 0 (Con.fr k x) (Con.bool (Rt.ng x)) rfl rfl (.inl rfl) (by kernel_rfl) points_cell rfl (Con.fr_ng k x) field26_0) (by kernel_rfl), ?_⟩
        refine fcs ⟨Ob.new_ (ob_readb 7 8 (Rt.ng x) false hng rfl rfl (.inl rfl) (by kernel_rfl) points_ptr rfl) (by kernel_rfl), ?_⟩
        exact fnl
      intro a3 w3 st3 hbr3 hfr
      have hs3 := hbr3.size
      have hb := up hb hbr3
      have st : St 21 [(1, Fact.cell b1 (Con.fr k x)), (2, Fact.eq (.string (ofB ([])))), (3, Fact.eq (.string (ofB (Nm.dec (Rt.tp x))))), (8, Fact.eq (.bool false))] a3 w3 := st3.to (fcs ⟨st3.at_ 1, fcs ⟨st3.at_ 2, fcs ⟨st3.at_ 3, fcs ⟨st3.at_ 8, fnl⟩⟩⟩⟩)
      clear st3 hbr3 hfr
      refine wpList_nil ?_
      refine then_normal ?_
      refine wp_cond_false (st.at_ 8) ?_
      refine wp_skip ?_
      refine then_normal ?_
      refine wp_seq ?_
      refine wp_seq ?_
      refine sym_region st [(11, Fact.ptr (Con.nn k (Rat.den x))), (12, Fact.agg (Con.nn k (Rat.den x))), (13, Fact.eq (.bool false))] [] 3 (by kernel_rfl) (by kernel_rfl) (by kernel_rfl) (Nat.le_of_ble_eq_true rfl) (by kernel_rfl) rfl rfl ?_ ?_
      · refine fcs ⟨Ob.new_ (ob_addr 26 2 1 11 2 (Con.fr k x) (Con.nn k (Rat.den x)) rfl rfl (.inl rfl) (by kernel_rfl) points_cell rfl (Con.fr_den k x) field26_2) (by kernel_rfl), ?_⟩
        refine fcs ⟨Ob.new_ (ob_read 24 11 12 (Con.nn k (Rat.den x)) rfl rfl (.inl rfl) (by kernel_rfl) points_ptr rfl row24 info24) (by kernel_rfl), ?_⟩
        refine fcs ⟨Ob.new_ (ob_call1 69 12 13 _ rfl rfl (.inl rfl) (by kernel_rfl) (by kernel_rfl) (q_isOne k (Rat.den x) false hd1)) (by kernel_rfl), ?_⟩
        exact fnl
      intro a4 w4 st4 hbr4 hfr
      have hs4 := hbr4.size
      have hb := up hb hbr4
      have st : St 21 [(1, Fact.cell b1 (Con.fr k x)), (2, Fact.eq (.string (ofB ([])))), (3, Fact.eq (.string (ofB (Nm.dec (Rt.tp x))))), (13, Fact.eq (.bool false))] a4 w4 := st4.to (fcs ⟨st4.at_ 1, fcs ⟨st4.at_ 2, fcs ⟨st4.at_ 3, fcs ⟨st4.at_ 13, fnl⟩⟩⟩⟩)
      clear st4 hbr4 hfr
      refine wpList_nil ?_
      refine then_normal ?_
      refine wp_cond_false (st.at_ 13) ?_
      refine wp_skip ?_
      refine then_normal ?_
      refine wp_seq ?_
      have st := st.to (ks' := [(1, Fact.cell b1 (Con.fr k x)), (3, Fact.eq (.string (ofB (Nm.dec (Rt.tp x))))), (13, Fact.eq (.bool false))]) (fcs ⟨st.at_ 1, fcs ⟨st.at_ 3, fcs ⟨st.at_ 13, fnl⟩⟩⟩)
      refine sym_region st [(15, Fact.eq (.string (ofB (Nm.dec (Rt.tp x))))), (16, Fact.eq (.string (ofB ((Nm.dec (Rt.tp x)) ++ ([47]))))), (17, Fact.ptr (Con.nn k (Rat.den x))), (18, Fact.agg (Con.nn k (Rat.den x))), (19, Fact.eq (.string (ofB (Nm.dec (Rat.den x))))), (20, Fact.eq (.string (ofB (((Nm.dec (Rt.tp x)) ++ ([47])) ++ (Nm.dec (Rat.den x)))))), (2, Fact.eq (.string (ofB (((Nm.dec (Rt.tp x)) ++ ([47])) ++ (Nm.dec (Rat.den x))))))] [] 7 (by kernel_rfl) (by kernel_rfl) (by kernel_rfl) (Nat.le_of_ble_eq_true rfl) (by kernel_rfl) rfl rfl ?_ ?_
      · refine fcs ⟨Ob.new_ (ob_copy 3 15 (.inl rfl) rfl (.inl rfl) (by kernel_rfl) rfl) (by kernel_rfl), ?_⟩
        refine fcs ⟨Ob.new_ (ob_catc 15 16 (Nm.dec (Rt.tp x)) ([47]) _ rfl (by simp only [List.length_cons, List.length_nil]; omega) rfl rfl (.inl rfl) (by kernel_rfl) rfl rfl) (by kernel_rfl), ?_⟩
        refine fcs ⟨Ob.new_ (ob_addr 26 2 1 17 2 (Con.fr k x) (Con.nn k (Rat.den x)) rfl rfl (.inl rfl) (by kernel_rfl) points_cell rfl (Con.fr_den k x) field26_2) (by kernel_rfl), ?_⟩
        refine fcs ⟨Ob.new_ (ob_read 24 17 18 (Con.nn k (Rat.den x)) rfl rfl (.inl rfl) (by kernel_rfl) points_ptr rfl row24 info24) (by kernel_rfl), ?_⟩
        refine fcs ⟨Ob.new_ (ob_call1 72 18 19 _ rfl rfl (.inl rfl) (by kernel_rfl) (by kernel_rfl) (n_format k (Rat.den x))) (by kernel_rfl), ?_⟩
        refine fcs ⟨Ob.new_ (ob_cat 16 19 20 ((Nm.dec (Rt.tp x)) ++ ([47])) (Nm.dec (Rat.den x)) (by simp only [List.length_append, List.length_cons, List.length_nil]; omega) rfl rfl (.inl rfl) (by kernel_rfl) (by kernel_rfl) rfl rfl rfl) (by kernel_rfl), ?_⟩
        refine fcs ⟨Ob.new_ (ob_copy 20 2 (.inr rfl) rfl (.inl rfl) (by kernel_rfl) rfl) (by kernel_rfl), ?_⟩
        exact fnl
      intro a5 w5 st5 hbr5 hfr
      have hs5 := hbr5.size
      have hb := up hb hbr5
      have st : St 21 [(2, Fact.eq (.string (ofB (((Nm.dec (Rt.tp x)) ++ ([47])) ++ (Nm.dec (Rat.den x))))))] a5 w5 := st5.to (fcs ⟨st5.at_ 2, fnl⟩)
      clear st5 hbr5 hfr
      refine wpList_nil ?_
      refine then_normal ?_
      refine wp_ret ?_
      exact sym_ret1 rfl st.defers (resAt_tmp st 2) hb (fun _ h => by rw [show fmt x = (Nm.dec (Rt.tp x) ++ [47]) ++ Nm.dec x.den from by unfold fmt; rw [hng, hd1]; rfl]; exact h)
    | true =>
      refine sym_calls 21 [(0, Fact.agg (Con.fr k x))] Tryz.func35 rfl rfl (Nat.le_of_ble_eq_true rfl) (fcs ⟨⟨Nat.le_of_ble_eq_true rfl, hv0⟩, fnl⟩) fun a st => ?_
      have hb := Below.refl w.heap.size w
      refine wp_seq ?_
      refine sym_region st [(1, Fact.var' (Con.fr k x)), (2, Fact.eq (.string (ofB ([]))))] [1] 2 (by kernel_rfl) (by kernel_rfl) (by kernel_rfl) (Nat.le_of_ble_eq_true rfl) (by kernel_rfl) rfl rfl ?_ ?_
      · refine fcs ⟨obn_box 26 0 1 _ (Con.fr k x) rfl rfl rfl (by kernel_rfl) rfl rfl, ?_⟩
        refine fcs ⟨Ob.new_ (ob_const (.string ⟨#[]⟩) 2 (.inr rfl) rfl (.inl rfl) rfl) (by kernel_rfl), ?_⟩
        exact fnl
      intro a1 w1 st1 hbr1 hfr
      have hs1 := hbr1.size
      have hb := up hb hbr1
      obtain ⟨b1, c1⟩ := (show (Fact.var' (Con.fr k x)).holds _ _ from st1.at_ 1)
      have g1 := hfr.ge (s := 1) rfl c1.1
      have st : St 21 [(1, Fact.cell b1 (Con.fr k x)), (2, Fact.eq (.string (ofB ([]))))] a1 w1 := st1.to (fcs ⟨c1, fcs ⟨st1.at_ 2, fnl⟩⟩)
      clear st1 hbr1 hfr c1
      refine wpList_nil ?_
      refine then_normal ?_
      refine wp_seq ?_
      refine sym_region st [(4, Fact.ptr (Con.nn k (Rt.tp x))), (5, Fact.agg (Con.nn k (Rt.tp x))), (6, Fact.eq (.string (ofB (Nm.dec (Rt.tp x))))), (3, Fact.eq (.string (ofB (Nm.dec (Rt.tp x)))))] [] 4 (by kernel_rfl) (by kernel_rfl) (by kernel_rfl) (Nat.le_of_ble_eq_true rfl) (by kernel_rfl) rfl rfl ?_ ?_
      · refine fcs ⟨Ob.new_ (ob_addr 26 1 1 4 1 (Con.fr k x) (Con.nn k (Rt.tp x)) rfl rfl (.inl rfl) (by kernel_rfl) points_cell rfl (Con.fr_tp k x) field26_1) (by kernel_rfl), ?_⟩
        refine fcs ⟨Ob.new_ (ob_read 24 4 5 (Con.nn k (Rt.tp x)) rfl rfl (.inl rfl) (by kernel_rfl) points_ptr rfl row24 info24) (by kernel_rfl), ?_⟩
        refine fcs ⟨Ob.new_ (ob_call1 72 5 6 _ rfl rfl (.inl rfl) (by kernel_rfl) (by kernel_rfl) (n_format k (Rt.tp x))) (by kernel_rfl), ?_⟩
        refine fcs ⟨Ob.new_ (ob_copy 6 3 (.inr rfl) rfl (.inl rfl) (by kernel_rfl) rfl) (by kernel_rfl), ?_⟩
        exact fnl
      intro a2 w2 st2 hbr2 hfr
      have hs2 := hbr2.size
      have hb := up hb hbr2
      have st : St 21 [(1, Fact.cell b1 (Con.fr k x)), (2, Fact.eq (.string (ofB ([])))), (3, Fact.eq (.string (ofB (Nm.dec (Rt.tp x)))))] a2 w2 := st2.to (fcs ⟨st2.at_ 1, fcs ⟨st2.at_ 2, fcs ⟨st2.at_ 3, fnl⟩⟩⟩)
      clear st2 hbr2 hfr
      refine wpList_nil ?_
      refine then_normal ?_
      refine wp_seq ?_
      refine wp_seq ?_
      refine sym_region st [(7, Fact.ptr (Con.bool (Rt.ng x))), (8, Fact.eq (.bool false))] [] 2 (by kernel_rfl) (by kernel_rfl) (by kernel_rfl) (Nat.le_of_ble_eq_true rfl) (by kernel_rfl) rfl rfl ?_ ?_
      · refine fcs ⟨Ob.new_ (ob_addr 26 0 1 7 0 (Con.fr k x) (Con.bool (Rt.ng x)) rfl rfl (.inl rfl) (by kernel_rfl) points_cell rfl (Con.fr_ng k x) field26_0) (by kernel_rfl), ?_⟩
        refine fcs ⟨Ob.new_ (ob_readb 7 8 (Rt.ng x) false hng rfl rfl (.inl rfl) (by kernel_rfl) points_ptr rfl) (by kernel_rfl), ?_⟩
        exact fnl
      intro a3 w3 st3 hbr3 hfr
      have hs3 := hbr3.size
      have hb := up hb hbr3
      have st : St 21 [(1, Fact.cell b1 (Con.fr k x)), (2, Fact.eq (.string (ofB ([])))), (3, Fact.eq (.string (ofB (Nm.dec (Rt.tp x))))), (8, Fact.eq (.bool false))] a3 w3 := st3.to (fcs ⟨st3.at_ 1, fcs ⟨st3.at_ 2, fcs ⟨st3.at_ 3, fcs ⟨st3.at_ 8, fnl⟩⟩⟩⟩)
      clear st3 hbr3 hfr
      refine wpList_nil ?_
      refine then_normal ?_
      refine wp_cond_false (st.at_ 8) ?_
      refine wp_skip ?_
      refine then_normal ?_
      refine wp_seq ?_
      refine wp_seq ?_
      refine sym_region st [(11, Fact.ptr (Con.nn k (Rat.den x))), (12, Fact.agg (Con.nn k (Rat.den x))), (13, Fact.eq (.bool true))] [] 3 (by kernel_rfl) (by kernel_rfl) (by kernel_rfl) (Nat.le_of_ble_eq_true rfl) (by kernel_rfl) rfl rfl ?_ ?_
      · refine fcs ⟨Ob.new_ (ob_addr 26 2 1 11 2 (Con.fr k x) (Con.nn k (Rat.den x)) rfl rfl (.inl rfl) (by kernel_rfl) points_cell rfl (Con.fr_den k x) field26_2) (by kernel_rfl), ?_⟩
        refine fcs ⟨Ob.new_ (ob_read 24 11 12 (Con.nn k (Rat.den x)) rfl rfl (.inl rfl) (by kernel_rfl) points_ptr rfl row24 info24) (by kernel_rfl), ?_⟩
        refine fcs ⟨Ob.new_ (ob_call1 69 12 13 _ rfl rfl (.inl rfl) (by kernel_rfl) (by kernel_rfl) (q_isOne k (Rat.den x) true hd1)) (by kernel_rfl), ?_⟩
        exact fnl
      intro a4 w4 st4 hbr4 hfr
      have hs4 := hbr4.size
      have hb := up hb hbr4
      have st : St 21 [(1, Fact.cell b1 (Con.fr k x)), (2, Fact.eq (.string (ofB ([])))), (3, Fact.eq (.string (ofB (Nm.dec (Rt.tp x))))), (13, Fact.eq (.bool true))] a4 w4 := st4.to (fcs ⟨st4.at_ 1, fcs ⟨st4.at_ 2, fcs ⟨st4.at_ 3, fcs ⟨st4.at_ 13, fnl⟩⟩⟩⟩)
      clear st4 hbr4 hfr
      refine wpList_nil ?_
      refine then_normal ?_
      refine wp_cond_true (st.at_ 13) ?_
      refine wp_seq ?_
      have st := st.to (ks' := [(1, Fact.cell b1 (Con.fr k x)), (3, Fact.eq (.string (ofB (Nm.dec (Rt.tp x))))), (13, Fact.eq (.bool true))]) (fcs ⟨st.at_ 1, fcs ⟨st.at_ 3, fcs ⟨st.at_ 13, fnl⟩⟩⟩)
      refine sym_region st [(14, Fact.eq (.string (ofB (Nm.dec (Rt.tp x))))), (2, Fact.eq (.string (ofB (Nm.dec (Rt.tp x)))))] [] 2 (by kernel_rfl) (by kernel_rfl) (by kernel_rfl) (Nat.le_of_ble_eq_true rfl) (by kernel_rfl) rfl rfl ?_ ?_
      · refine fcs ⟨Ob.new_ (ob_copy 3 14 (.inl rfl) rfl (.inl rfl) (by kernel_rfl) rfl) (by kernel_rfl), ?_⟩
        refine fcs ⟨Ob.new_ (ob_copy 14 2 (.inr rfl) rfl (.inl rfl) (by kernel_rfl) rfl) (by kernel_rfl), ?_⟩
        exact fnl
      intro a5 w5 st5 hbr5 hfr
      have hs5 := hbr5.size
      have hb := up hb hbr5
      have st : St 21 [(1, Fact.cell b1 (Con.fr k x)), (3, Fact.eq (.string (ofB (Nm.dec (Rt.tp x))))), (2, Fact.eq (.string (ofB (Nm.dec (Rt.tp x)))))] a5 w5 := st5.to (fcs ⟨st5.at_ 1, fcs ⟨st5.at_ 3, fcs ⟨st5.at_ 2, fnl⟩⟩⟩)
      clear st5 hbr5 hfr
      refine wpList_nil ?_
      refine then_normal ?_
      refine wp_ret ?_
      exact sym_ret1 rfl st.defers (resAt_tmp st 2) hb (fun _ h => by rw [show fmt x = Nm.dec (Rt.tp x) from by unfold fmt; rw [hng, hd1]; rfl]; exact h)
  | true =>
    cases hd1 : decide (x.den = 1) with
    | false =>
      refine sym_calls 21 [(0, Fact.agg (Con.fr k x))] Tryz.func35 rfl rfl (Nat.le_of_ble_eq_true rfl) (fcs ⟨⟨Nat.le_of_ble_eq_true rfl, hv0⟩, fnl⟩) fun a st => ?_
      have hb := Below.refl w.heap.size w
      refine wp_seq ?_
      refine sym_region st [(1, Fact.var' (Con.fr k x)), (2, Fact.eq (.string (ofB ([]))))] [1] 2 (by kernel_rfl) (by kernel_rfl) (by kernel_rfl) (Nat.le_of_ble_eq_true rfl) (by kernel_rfl) rfl rfl ?_ ?_
      · refine fcs ⟨obn_box 26 0 1 _ (Con.fr k x) rfl rfl rfl (by kernel_rfl) rfl rfl, ?_⟩
        refine fcs ⟨Ob.new_ (ob_const (.string ⟨#[]⟩) 2 (.inr rfl) rfl (.inl rfl) rfl) (by kernel_rfl), ?_⟩
        exact fnl
      intro a1 w1 st1 hbr1 hfr
      have hs1 := hbr1.size
      have hb := up hb hbr1
      obtain ⟨b1, c1⟩ := (show (Fact.var' (Con.fr k x)).holds _ _ from st1.at_ 1)
      have g1 := hfr.ge (s := 1) rfl c1.1
      have st : St 21 [(1, Fact.cell b1 (Con.fr k x)), (2, Fact.eq (.string (ofB ([]))))] a1 w1 := st1.to (fcs ⟨c1, fcs ⟨st1.at_ 2, fnl⟩⟩)
      clear st1 hbr1 hfr c1
      refine wpList_nil ?_
      refine then_normal ?_
      refine wp_seq ?_
      refine sym_region st [(4, Fact.ptr (Con.nn k (Rt.tp x))), (5, Fact.agg (Con.nn k (Rt.tp x))), (6, Fact.eq (.string (ofB (Nm.dec (Rt.tp x))))), (3, Fact.eq (.string (ofB (Nm.dec (Rt.tp x)))))] [] 4 (by kernel_rfl) (by kernel_rfl) (by kernel_rfl) (Nat.le_of_ble_eq_true rfl) (by kernel_rfl) rfl rfl ?_ ?_
      · refine fcs ⟨Ob.new_ (ob_addr 26 1 1 4 1 (Con.fr k x) (Con.nn k (Rt.tp x)) rfl rfl (.inl rfl) (by kernel_rfl) points_cell rfl (Con.fr_tp k x) field26_1) (by kernel_rfl), ?_⟩
        refine fcs ⟨Ob.new_ (ob_read 24 4 5 (Con.nn k (Rt.tp x)) rfl rfl (.inl rfl) (by kernel_rfl) points_ptr rfl row24 info24) (by kernel_rfl), ?_⟩
        refine fcs ⟨Ob.new_ (ob_call1 72 5 6 _ rfl rfl (.inl rfl) (by kernel_rfl) (by kernel_rfl) (n_format k (Rt.tp x))) (by kernel_rfl), ?_⟩
        refine fcs ⟨Ob.new_ (ob_copy 6 3 (.inr rfl) rfl (.inl rfl) (by kernel_rfl) rfl) (by kernel_rfl), ?_⟩
        exact fnl
      intro a2 w2 st2 hbr2 hfr
      have hs2 := hbr2.size
      have hb := up hb hbr2
      have st : St 21 [(1, Fact.cell b1 (Con.fr k x)), (2, Fact.eq (.string (ofB ([])))), (3, Fact.eq (.string (ofB (Nm.dec (Rt.tp x)))))] a2 w2 := st2.to (fcs ⟨st2.at_ 1, fcs ⟨st2.at_ 2, fcs ⟨st2.at_ 3, fnl⟩⟩⟩)
      clear st2 hbr2 hfr
      refine wpList_nil ?_
      refine then_normal ?_
      refine wp_seq ?_
      refine wp_seq ?_
      refine sym_region st [(7, Fact.ptr (Con.bool (Rt.ng x))), (8, Fact.eq (.bool true))] [] 2 (by kernel_rfl) (by kernel_rfl) (by kernel_rfl) (Nat.le_of_ble_eq_true rfl) (by kernel_rfl) rfl rfl ?_ ?_
      · refine fcs ⟨Ob.new_ (ob_addr 26 0 1 7 0 (Con.fr k x) (Con.bool (Rt.ng x)) rfl rfl (.inl rfl) (by kernel_rfl) points_cell rfl (Con.fr_ng k x) field26_0) (by kernel_rfl), ?_⟩
        refine fcs ⟨Ob.new_ (ob_readb 7 8 (Rt.ng x) true hng rfl rfl (.inl rfl) (by kernel_rfl) points_ptr rfl) (by kernel_rfl), ?_⟩
        exact fnl
      intro a3 w3 st3 hbr3 hfr
      have hs3 := hbr3.size
      have hb := up hb hbr3
      have st : St 21 [(1, Fact.cell b1 (Con.fr k x)), (2, Fact.eq (.string (ofB ([])))), (3, Fact.eq (.string (ofB (Nm.dec (Rt.tp x))))), (8, Fact.eq (.bool true))] a3 w3 := st3.to (fcs ⟨st3.at_ 1, fcs ⟨st3.at_ 2, fcs ⟨st3.at_ 3, fcs ⟨st3.at_ 8, fnl⟩⟩⟩⟩)
      clear st3 hbr3 hfr
      refine wpList_nil ?_
      refine then_normal ?_
      refine wp_cond_true (st.at_ 8) ?_
      refine wp_region_lit ?_
      refine sym_op st 9 (Fact.eq (.string (ofB (Nm.dec (Rt.tp x))))) rfl (Nat.le_of_ble_eq_true rfl) rfl rfl (by kernel_rfl) (ob_copy 3 9 (.inl rfl) rfl (.inl rfl) (by kernel_rfl) rfl) ?_
      clear st; intro a5 w5 hbr st; have hs5 := hbr.size; have hb := up hb hbr; clear hbr
      refine sym_op st 10 (Fact.eq (.string (ofB (([45]) ++ (Nm.dec (Rt.tp x)))))) rfl (Nat.le_of_ble_eq_true rfl) rfl rfl (by kernel_rfl) (ob_ccat 9 10 (Nm.dec (Rt.tp x)) ([45]) _ rfl (by simp only [List.length_cons, List.length_nil]; omega) rfl rfl (.inl rfl) (by kernel_rfl) rfl rfl) ?_
      clear st; intro a6 w6 hbr st; have hs6 := hbr.size; have hb := up hb hbr; clear hbr
      have st := st.to (ks' := [(1, Fact.cell b1 (Con.fr k x)), (2, Fact.eq (.string (ofB ([])))), (8, Fact.eq (.bool true)), (9, Fact.eq (.string (ofB (Nm.dec (Rt.tp x))))), (10, Fact.eq (.string (ofB (([45]) ++ (Nm.dec (Rt.tp x))))))]) (fcs ⟨st.at_ 1, fcs ⟨st.at_ 2, fcs ⟨st.at_ 8, fcs ⟨st.at_ 9, fcs ⟨st.at_ 10, fnl⟩⟩⟩⟩⟩)
      refine sym_op st 3 (Fact.eq (.string (ofB (([45]) ++ (Nm.dec (Rt.tp x)))))) rfl (Nat.le_of_ble_eq_true rfl) rfl rfl (by kernel_rfl) (ob_copy 10 3 (.inr rfl) rfl (.inl rfl) (by kernel_rfl) rfl) ?_
      clear st; intro a7 w7 hbr st; have hs7 := hbr.size; have hb := up hb hbr; clear hbr
      refine wpList_nil ?_
      refine then_normal ?_
      refine wp_seq ?_
      refine wp_seq ?_
      refine sym_region st [(11, Fact.ptr (Con.nn k (Rat.den x))), (12, Fact.agg (Con.nn k (Rat.den x))), (13, Fact.eq (.bool false))] [] 3 (by kernel_rfl) (by kernel_rfl) (by kernel_rfl) (Nat.le_of_ble_eq_true rfl) (by kernel_rfl) rfl rfl ?_ ?_
      · refine fcs ⟨Ob.new_ (ob_addr 26 2 1 11 2 (Con.fr k x) (Con.nn k (Rat.den x)) rfl rfl (.inl rfl) (by kernel_rfl) points_cell rfl (Con.fr_den k x) field26_2) (by kernel_rfl), ?_⟩
        refine fcs ⟨Ob.new_ (ob_read 24 11 12 (Con.nn k (Rat.den x)) rfl rfl (.inl rfl) (by kernel_rfl) points_ptr rfl row24 info24) (by kernel_rfl), ?_⟩
        refine fcs ⟨Ob.new_ (ob_call1 69 12 13 _ rfl rfl (.inl rfl) (by kernel_rfl) (by kernel_rfl) (q_isOne k (Rat.den x) false hd1)) (by kernel_rfl), ?_⟩
        exact fnl
      intro a8 w8 st8 hbr8 hfr
      have hs8 := hbr8.size
      have hb := up hb hbr8
      have st : St 21 [(1, Fact.cell b1 (Con.fr k x)), (2, Fact.eq (.string (ofB ([])))), (3, Fact.eq (.string (ofB (([45]) ++ (Nm.dec (Rt.tp x)))))), (13, Fact.eq (.bool false))] a8 w8 := st8.to (fcs ⟨st8.at_ 1, fcs ⟨st8.at_ 2, fcs ⟨st8.at_ 3, fcs ⟨st8.at_ 13, fnl⟩⟩⟩⟩)
      clear st8 hbr8 hfr
      refine wpList_nil ?_
      refine then_normal ?_
      refine wp_cond_false (st.at_ 13) ?_
      refine wp_skip ?_
      refine then_normal ?_
      refine wp_seq ?_
      have st := st.to (ks' := [(1, Fact.cell b1 (Con.fr k x)), (3, Fact.eq (.string (ofB (([45]) ++ (Nm.dec (Rt.tp x)))))), (13, Fact.eq (.bool false))]) (fcs ⟨st.at_ 1, fcs ⟨st.at_ 3, fcs ⟨st.at_ 13, fnl⟩⟩⟩)
      refine sym_region st [(15, Fact.eq (.string (ofB (([45]) ++ (Nm.dec (Rt.tp x)))))), (16, Fact.eq (.string (ofB ((([45]) ++ (Nm.dec (Rt.tp x))) ++ ([47]))))), (17, Fact.ptr (Con.nn k (Rat.den x))), (18, Fact.agg (Con.nn k (Rat.den x))), (19, Fact.eq (.string (ofB (Nm.dec (Rat.den x))))), (20, Fact.eq (.string (ofB (((([45]) ++ (Nm.dec (Rt.tp x))) ++ ([47])) ++ (Nm.dec (Rat.den x)))))), (2, Fact.eq (.string (ofB (((([45]) ++ (Nm.dec (Rt.tp x))) ++ ([47])) ++ (Nm.dec (Rat.den x))))))] [] 7 (by kernel_rfl) (by kernel_rfl) (by kernel_rfl) (Nat.le_of_ble_eq_true rfl) (by kernel_rfl) rfl rfl ?_ ?_
      · refine fcs ⟨Ob.new_ (ob_copy 3 15 (.inl rfl) rfl (.inl rfl) (by kernel_rfl) rfl) (by kernel_rfl), ?_⟩
        refine fcs ⟨Ob.new_ (ob_catc 15 16 (([45]) ++ (Nm.dec (Rt.tp x))) ([47]) _ rfl (by simp only [List.length_append, List.length_cons, List.length_nil]; omega) rfl rfl (.inl rfl) (by kernel_rfl) rfl rfl) (by kernel_rfl), ?_⟩
        refine fcs ⟨Ob.new_ (ob_addr 26 2 1 17 2 (Con.fr k x) (Con.nn k (Rat.den x)) rfl rfl (.inl rfl) (by kernel_rfl) points_cell rfl (Con.fr_den k x) field26_2) (by kernel_rfl), ?_⟩
        refine fcs ⟨Ob.new_ (ob_read 24 17 18 (Con.nn k (Rat.den x)) rfl rfl (.inl rfl) (by kernel_rfl) points_ptr rfl row24 info24) (by kernel_rfl), ?_⟩
        refine fcs ⟨Ob.new_ (ob_call1 72 18 19 _ rfl rfl (.inl rfl) (by kernel_rfl) (by kernel_rfl) (n_format k (Rat.den x))) (by kernel_rfl), ?_⟩
        refine fcs ⟨Ob.new_ (ob_cat 16 19 20 ((([45]) ++ (Nm.dec (Rt.tp x))) ++ ([47])) (Nm.dec (Rat.den x)) (by simp only [List.length_append, List.length_cons, List.length_nil]; omega) rfl rfl (.inl rfl) (by kernel_rfl) (by kernel_rfl) rfl rfl rfl) (by kernel_rfl), ?_⟩
        refine fcs ⟨Ob.new_ (ob_copy 20 2 (.inr rfl) rfl (.inl rfl) (by kernel_rfl) rfl) (by kernel_rfl), ?_⟩
        exact fnl
      intro a9 w9 st9 hbr9 hfr
      have hs9 := hbr9.size
      have hb := up hb hbr9
      have st : St 21 [(2, Fact.eq (.string (ofB (((([45]) ++ (Nm.dec (Rt.tp x))) ++ ([47])) ++ (Nm.dec (Rat.den x))))))] a9 w9 := st9.to (fcs ⟨st9.at_ 2, fnl⟩)
      clear st9 hbr9 hfr
      refine wpList_nil ?_
      refine then_normal ?_
      refine wp_ret ?_
      exact sym_ret1 rfl st.defers (resAt_tmp st 2) hb (fun _ h => by rw [show fmt x = (([45] ++ Nm.dec (Rt.tp x)) ++ [47]) ++ Nm.dec x.den from by unfold fmt; rw [hng, hd1]; rfl]; exact h)
    | true =>
      refine sym_calls 21 [(0, Fact.agg (Con.fr k x))] Tryz.func35 rfl rfl (Nat.le_of_ble_eq_true rfl) (fcs ⟨⟨Nat.le_of_ble_eq_true rfl, hv0⟩, fnl⟩) fun a st => ?_
      have hb := Below.refl w.heap.size w
      refine wp_seq ?_
      refine sym_region st [(1, Fact.var' (Con.fr k x)), (2, Fact.eq (.string (ofB ([]))))] [1] 2 (by kernel_rfl) (by kernel_rfl) (by kernel_rfl) (Nat.le_of_ble_eq_true rfl) (by kernel_rfl) rfl rfl ?_ ?_
      · refine fcs ⟨obn_box 26 0 1 _ (Con.fr k x) rfl rfl rfl (by kernel_rfl) rfl rfl, ?_⟩
        refine fcs ⟨Ob.new_ (ob_const (.string ⟨#[]⟩) 2 (.inr rfl) rfl (.inl rfl) rfl) (by kernel_rfl), ?_⟩
        exact fnl
      intro a1 w1 st1 hbr1 hfr
      have hs1 := hbr1.size
      have hb := up hb hbr1
      obtain ⟨b1, c1⟩ := (show (Fact.var' (Con.fr k x)).holds _ _ from st1.at_ 1)
      have g1 := hfr.ge (s := 1) rfl c1.1
      have st : St 21 [(1, Fact.cell b1 (Con.fr k x)), (2, Fact.eq (.string (ofB ([]))))] a1 w1 := st1.to (fcs ⟨c1, fcs ⟨st1.at_ 2, fnl⟩⟩)
      clear st1 hbr1 hfr c1
      refine wpList_nil ?_
      refine then_normal ?_
      refine wp_seq ?_
      refine sym_region st [(4, Fact.ptr (Con.nn k (Rt.tp x))), (5, Fact.agg (Con.nn k (Rt.tp x))), (6, Fact.eq (.string (ofB (Nm.dec (Rt.tp x))))), (3, Fact.eq (.string (ofB (Nm.dec (Rt.tp x)))))] [] 4 (by kernel_rfl) (by kernel_rfl) (by kernel_rfl) (Nat.le_of_ble_eq_true rfl) (by kernel_rfl) rfl rfl ?_ ?_
      · refine fcs ⟨Ob.new_ (ob_addr 26 1 1 4 1 (Con.fr k x) (Con.nn k (Rt.tp x)) rfl rfl (.inl rfl) (by kernel_rfl) points_cell rfl (Con.fr_tp k x) field26_1) (by kernel_rfl), ?_⟩
        refine fcs ⟨Ob.new_ (ob_read 24 4 5 (Con.nn k (Rt.tp x)) rfl rfl (.inl rfl) (by kernel_rfl) points_ptr rfl row24 info24) (by kernel_rfl), ?_⟩
        refine fcs ⟨Ob.new_ (ob_call1 72 5 6 _ rfl rfl (.inl rfl) (by kernel_rfl) (by kernel_rfl) (n_format k (Rt.tp x))) (by kernel_rfl), ?_⟩
        refine fcs ⟨Ob.new_ (ob_copy 6 3 (.inr rfl) rfl (.inl rfl) (by kernel_rfl) rfl) (by kernel_rfl), ?_⟩
        exact fnl
      intro a2 w2 st2 hbr2 hfr
      have hs2 := hbr2.size
      have hb := up hb hbr2
      have st : St 21 [(1, Fact.cell b1 (Con.fr k x)), (2, Fact.eq (.string (ofB ([])))), (3, Fact.eq (.string (ofB (Nm.dec (Rt.tp x)))))] a2 w2 := st2.to (fcs ⟨st2.at_ 1, fcs ⟨st2.at_ 2, fcs ⟨st2.at_ 3, fnl⟩⟩⟩)
      clear st2 hbr2 hfr
      refine wpList_nil ?_
      refine then_normal ?_
      refine wp_seq ?_
      refine wp_seq ?_
      refine sym_region st [(7, Fact.ptr (Con.bool (Rt.ng x))), (8, Fact.eq (.bool true))] [] 2 (by kernel_rfl) (by kernel_rfl) (by kernel_rfl) (Nat.le_of_ble_eq_true rfl) (by kernel_rfl) rfl rfl ?_ ?_
      · refine fcs ⟨Ob.new_ (ob_addr 26 0 1 7 0 (Con.fr k x) (Con.bool (Rt.ng x)) rfl rfl (.inl rfl) (by kernel_rfl) points_cell rfl (Con.fr_ng k x) field26_0) (by kernel_rfl), ?_⟩
        refine fcs ⟨Ob.new_ (ob_readb 7 8 (Rt.ng x) true hng rfl rfl (.inl rfl) (by kernel_rfl) points_ptr rfl) (by kernel_rfl), ?_⟩
        exact fnl
      intro a3 w3 st3 hbr3 hfr
      have hs3 := hbr3.size
      have hb := up hb hbr3
      have st : St 21 [(1, Fact.cell b1 (Con.fr k x)), (2, Fact.eq (.string (ofB ([])))), (3, Fact.eq (.string (ofB (Nm.dec (Rt.tp x))))), (8, Fact.eq (.bool true))] a3 w3 := st3.to (fcs ⟨st3.at_ 1, fcs ⟨st3.at_ 2, fcs ⟨st3.at_ 3, fcs ⟨st3.at_ 8, fnl⟩⟩⟩⟩)
      clear st3 hbr3 hfr
      refine wpList_nil ?_
      refine then_normal ?_
      refine wp_cond_true (st.at_ 8) ?_
      refine wp_region_lit ?_
      refine sym_op st 9 (Fact.eq (.string (ofB (Nm.dec (Rt.tp x))))) rfl (Nat.le_of_ble_eq_true rfl) rfl rfl (by kernel_rfl) (ob_copy 3 9 (.inl rfl) rfl (.inl rfl) (by kernel_rfl) rfl) ?_
      clear st; intro a5 w5 hbr st; have hs5 := hbr.size; have hb := up hb hbr; clear hbr
      refine sym_op st 10 (Fact.eq (.string (ofB (([45]) ++ (Nm.dec (Rt.tp x)))))) rfl (Nat.le_of_ble_eq_true rfl) rfl rfl (by kernel_rfl) (ob_ccat 9 10 (Nm.dec (Rt.tp x)) ([45]) _ rfl (by simp only [List.length_cons, List.length_nil]; omega) rfl rfl (.inl rfl) (by kernel_rfl) rfl rfl) ?_
      clear st; intro a6 w6 hbr st; have hs6 := hbr.size; have hb := up hb hbr; clear hbr
      have st := st.to (ks' := [(1, Fact.cell b1 (Con.fr k x)), (2, Fact.eq (.string (ofB ([])))), (8, Fact.eq (.bool true)), (9, Fact.eq (.string (ofB (Nm.dec (Rt.tp x))))), (10, Fact.eq (.string (ofB (([45]) ++ (Nm.dec (Rt.tp x))))))]) (fcs ⟨st.at_ 1, fcs ⟨st.at_ 2, fcs ⟨st.at_ 8, fcs ⟨st.at_ 9, fcs ⟨st.at_ 10, fnl⟩⟩⟩⟩⟩)
      refine sym_op st 3 (Fact.eq (.string (ofB (([45]) ++ (Nm.dec (Rt.tp x)))))) rfl (Nat.le_of_ble_eq_true rfl) rfl rfl (by kernel_rfl) (ob_copy 10 3 (.inr rfl) rfl (.inl rfl) (by kernel_rfl) rfl) ?_
      clear st; intro a7 w7 hbr st; have hs7 := hbr.size; have hb := up hb hbr; clear hbr
      refine wpList_nil ?_
      refine then_normal ?_
      refine wp_seq ?_
      refine wp_seq ?_
      refine sym_region st [(11, Fact.ptr (Con.nn k (Rat.den x))), (12, Fact.agg (Con.nn k (Rat.den x))), (13, Fact.eq (.bool true))] [] 3 (by kernel_rfl) (by kernel_rfl) (by kernel_rfl) (Nat.le_of_ble_eq_true rfl) (by kernel_rfl) rfl rfl ?_ ?_
      · refine fcs ⟨Ob.new_ (ob_addr 26 2 1 11 2 (Con.fr k x) (Con.nn k (Rat.den x)) rfl rfl (.inl rfl) (by kernel_rfl) points_cell rfl (Con.fr_den k x) field26_2) (by kernel_rfl), ?_⟩
        refine fcs ⟨Ob.new_ (ob_read 24 11 12 (Con.nn k (Rat.den x)) rfl rfl (.inl rfl) (by kernel_rfl) points_ptr rfl row24 info24) (by kernel_rfl), ?_⟩
        refine fcs ⟨Ob.new_ (ob_call1 69 12 13 _ rfl rfl (.inl rfl) (by kernel_rfl) (by kernel_rfl) (q_isOne k (Rat.den x) true hd1)) (by kernel_rfl), ?_⟩
        exact fnl
      intro a8 w8 st8 hbr8 hfr
      have hs8 := hbr8.size
      have hb := up hb hbr8
      have st : St 21 [(1, Fact.cell b1 (Con.fr k x)), (2, Fact.eq (.string (ofB ([])))), (3, Fact.eq (.string (ofB (([45]) ++ (Nm.dec (Rt.tp x)))))), (13, Fact.eq (.bool true))] a8 w8 := st8.to (fcs ⟨st8.at_ 1, fcs ⟨st8.at_ 2, fcs ⟨st8.at_ 3, fcs ⟨st8.at_ 13, fnl⟩⟩⟩⟩)
      clear st8 hbr8 hfr
      refine wpList_nil ?_
      refine then_normal ?_
      refine wp_cond_true (st.at_ 13) ?_
      refine wp_seq ?_
      have st := st.to (ks' := [(1, Fact.cell b1 (Con.fr k x)), (3, Fact.eq (.string (ofB (([45]) ++ (Nm.dec (Rt.tp x)))))), (13, Fact.eq (.bool true))]) (fcs ⟨st.at_ 1, fcs ⟨st.at_ 3, fcs ⟨st.at_ 13, fnl⟩⟩⟩)
      refine sym_region st [(14, Fact.eq (.string (ofB (([45]) ++ (Nm.dec (Rt.tp x)))))), (2, Fact.eq (.string (ofB (([45]) ++ (Nm.dec (Rt.tp x))))))] [] 2 (by kernel_rfl) (by kernel_rfl) (by kernel_rfl) (Nat.le_of_ble_eq_true rfl) (by kernel_rfl) rfl rfl ?_ ?_
      · refine fcs ⟨Ob.new_ (ob_copy 3 14 (.inl rfl) rfl (.inl rfl) (by kernel_rfl) rfl) (by kernel_rfl), ?_⟩
        refine fcs ⟨Ob.new_ (ob_copy 14 2 (.inr rfl) rfl (.inl rfl) (by kernel_rfl) rfl) (by kernel_rfl), ?_⟩
        exact fnl
      intro a9 w9 st9 hbr9 hfr
      have hs9 := hbr9.size
      have hb := up hb hbr9
      have st : St 21 [(1, Fact.cell b1 (Con.fr k x)), (3, Fact.eq (.string (ofB (([45]) ++ (Nm.dec (Rt.tp x)))))), (2, Fact.eq (.string (ofB (([45]) ++ (Nm.dec (Rt.tp x))))))] a9 w9 := st9.to (fcs ⟨st9.at_ 1, fcs ⟨st9.at_ 3, fcs ⟨st9.at_ 2, fnl⟩⟩⟩)
      clear st9 hbr9 hfr
      refine wpList_nil ?_
      refine then_normal ?_
      refine wp_ret ?_
      exact sym_ret1 rfl st.defers (resAt_tmp st 2) hb (fun _ h => by rw [show fmt x = [45] ++ Nm.dec (Rt.tp x) from by unfold fmt; rw [hng, hd1]; rfl]; exact h)
theorem unsg_len (l : List Nat) : (unsg l).length ≤ l.length := by
  unfold unsg
  split
  · rw [List.length_tail]; omega
  · exact Nat.le_refl _
theorem bef_len (l : List Nat) : (bef l).length ≤ l.length := (List.takeWhile_sublist _).length_le
theorem aft_len (l : List Nat) : (aft l).length ≤ l.length := by
  unfold aft
  rw [List.length_tail]
  have := (List.dropWhile_sublist (l := l) (fun c => c != 47)).length_le
  omega
set_option maxRecDepth 100000 in
theorem q_parse_b2 (l : List Nat) (h : Byt l) (hs : l.length ≤ 1000000) (hcb : ((Nm.chk (bef (unsg l)) : Int) != 0) = false) (hsl : sls (unsg l) = true) (hca : ((Nm.chk (aft (unsg l)) : Int) != 0) = false) (hone : decide (pv (aft (unsg l)) = 1) = false) (hvl : vldT (neg45 l) (pv (bef (unsg l))) (pv (aft (unsg l))) = false) : ∀ v0 w, (Fact.eq (.string (ofB l))).holds v0 w → Calls Tryz.prog 33 #[v0] w (Ret (Fact.two (Fact.agg (Con.tri 1 1 false 0 0)) (Fact.eq (.int .i64 2))) w) := by
  intro v0 w hv0
  have hsu : (unsg l).length ≤ 1000000 := Nat.le_trans (unsg_len l) hs
  have hsb : (bef (unsg l)).length ≤ 1000000 := Nat.le_trans (bef_len _) hsu
  have hsa : (aft (unsg l)).length ≤ 1000000 := Nat.le_trans (aft_len _) hsu
  refine sym_calls 60 [(0, Fact.eq (.string (ofB l)))] Tryz.func33 rfl rfl (Nat.le_of_ble_eq_true rfl) (fcs ⟨⟨Nat.le_of_ble_eq_true rfl, hv0⟩, fnl⟩) fun a st => ?_
  have hb := Below.refl w.heap.size w
  refine wp_seq ?_
  refine sym_region st [(2, Fact.var' (Con.raw 3)), (3, Fact.eq (.int .i64 0))] [2] 2 (by kernel_rfl) (by kernel_rfl) (by kernel_rfl) (Nat.le_of_ble_eq_true rfl) (by kernel_rfl) rfl rfl ?_ ?_
  · refine fcs ⟨obn_new 26 2 _ [.bool false, .slice none 0 0, .slice none 0 0] rfl rfl rfl rfl rfl alloc26, ?_⟩
    refine fcs ⟨Ob.new_ (ob_const (.int .i64 0) 3 (.inr rfl) rfl (.inl rfl) rfl) (by kernel_rfl), ?_⟩
    exact fnl
  intro a1 w1 st1 hbr1 hfr
  have hs1 := hbr1.size
  have hb := up hb hbr1
  obtain ⟨b2, c2⟩ := (show (Fact.var' (Con.raw 3)).holds _ _ from st1.at_ 2)
  have g2 := hfr.ge (s := 2) rfl c2.1
  have st : St 60 [(0, Fact.eq (.string (ofB l))), (2, Fact.cell b2 (Con.raw 3)), (3, Fact.eq (.int .i64 0))] a1 w1 := st1.to (fcs ⟨st1.at_ 0, fcs ⟨c2, fcs ⟨st1.at_ 3, fnl⟩⟩⟩)
  clear st1 hbr1 hfr c2
  refine wpList_nil ?_
  refine then_normal ?_
  refine wp_seq ?_
  refine sym_region st [(14, Fact.eq (.string (ofB l))), (15, Fact.two (Fact.eq (.string (ofB (unsg l)))) (Fact.eq (.bool (neg45 l)))), (13, Fact.two (Fact.eq (.string (ofB (unsg l)))) (Fact.eq (.bool (neg45 l)))), (16, Fact.eq (.string (ofB (unsg l)))), (17, Fact.eq (.bool (neg45 l))), (4, Fact.eq (.string (ofB (unsg l)))), (5, Fact.eq (.bool (neg45 l)))] [] 7 (by kernel_rfl) (by kernel_rfl) (by kernel_rfl) (Nat.le_of_ble_eq_true rfl) (by kernel_rfl) rfl rfl ?_ ?_
  · refine fcs ⟨Ob.new_ (ob_copy 0 14 (.inl rfl) rfl (.inl rfl) (by kernel_rfl) rfl) (by kernel_rfl), ?_⟩
    refine fcs ⟨Ob.new_ (ob_call_tc 66 14 15 (.string ⟨#[45]⟩) _ rfl rfl (.inl rfl) (by kernel_rfl) (by kernel_rfl) (t_cutPrefix l h hs)) (by kernel_rfl), ?_⟩
    refine fcs ⟨Ob.new_ (ob_copy 15 13 (.inl rfl) rfl (.inl rfl) (by kernel_rfl) rfl) (by kernel_rfl), ?_⟩
    refine fcs ⟨Ob.new_ (ob_fst 13 16 (Fact.eq (.string (ofB (unsg l)))) (Fact.eq (.bool (neg45 l))) rfl rfl (.inl rfl) (by kernel_rfl) rfl rfl) (by kernel_rfl), ?_⟩
    refine fcs ⟨Ob.new_ (ob_snd 13 17 (Fact.eq (.string (ofB (unsg l)))) (Fact.eq (.bool (neg45 l))) rfl rfl (.inl rfl) (by kernel_rfl) rfl rfl) (by kernel_rfl), ?_⟩
    refine fcs ⟨Ob.new_ (ob_copy 16 4 (.inr rfl) rfl (.inl rfl) (by kernel_rfl) rfl) (by kernel_rfl), ?_⟩
    refine fcs ⟨Ob.new_ (ob_copy 17 5 (.inr rfl) rfl (.inl rfl) (by kernel_rfl) rfl) (by kernel_rfl), ?_⟩
    exact fnl
  intro a2 w2 st2 hbr2 hfr
  have hs2 := hbr2.size
  have hb := up hb hbr2
  have st : St 60 [(2, Fact.cell b2 (Con.raw 3)), (3, Fact.eq (.int .i64 0)), (4, Fact.eq (.string (ofB (unsg l)))), (5, Fact.eq (.bool (neg45 l)))] a2 w2 := st2.to (fcs ⟨st2.at_ 2, fcs ⟨st2.at_ 3, fcs ⟨st2.at_ 4, fcs ⟨st2.at_ 5, fnl⟩⟩⟩⟩)
  clear st2 hbr2 hfr
  refine wpList_nil ?_
  refine then_normal ?_
  refine wp_seq ?_
  refine sym_region st [(19, Fact.eq (.string (ofB (unsg l)))), (20, Fact.three (Fact.eq (.string (ofB (bef (unsg l))))) (Fact.eq (.string (ofB (aft (unsg l))))) (Fact.eq (.bool true))), (18, Fact.three (Fact.eq (.string (ofB (bef (unsg l))))) (Fact.eq (.string (ofB (aft (unsg l))))) (Fact.eq (.bool true))), (21, Fact.eq (.string (ofB (bef (unsg l))))), (22, Fact.eq (.string (ofB (aft (unsg l))))), (23, Fact.eq (.bool true)), (6, Fact.eq (.string (ofB (bef (unsg l))))), (7, Fact.eq (.string (ofB (aft (unsg l))))), (8, Fact.eq (.bool true))] [] 9 (by kernel_rfl) (by kernel_rfl) (by kernel_rfl) (Nat.le_of_ble_eq_true rfl) (by kernel_rfl) rfl rfl ?_ ?_
  · refine fcs ⟨Ob.new_ (ob_copy 4 19 (.inl rfl) rfl (.inl rfl) (by kernel_rfl) rfl) (by kernel_rfl), ?_⟩
    refine fcs ⟨Ob.new_ (ob_call_tc 67 19 20 (.string ⟨#[47]⟩) _ rfl rfl (.inl rfl) (by kernel_rfl) (by kernel_rfl) (t_cutb (unsg l) h.unsg hsu true hsl)) (by kernel_rfl), ?_⟩
    refine fcs ⟨Ob.new_ (ob_copy 20 18 (.inl rfl) rfl (.inl rfl) (by kernel_rfl) rfl) (by kernel_rfl), ?_⟩
    refine fcs ⟨Ob.new_ (ob_3a 18 21 (Fact.eq (.string (ofB (bef (unsg l))))) (Fact.eq (.string (ofB (aft (unsg l))))) (Fact.eq (.bool true)) rfl rfl (.inl rfl) (by kernel_rfl) rfl rfl) (by kernel_rfl), ?_⟩
    refine fcs ⟨Ob.new_ (ob_3b 18 22 (Fact.eq (.string (ofB (bef (unsg l))))) (Fact.eq (.string (ofB (aft (unsg l))))) (Fact.eq (.bool true)) rfl rfl (.inl rfl) (by kernel_rfl) rfl rfl) (by kernel_rfl), ?_⟩
    refine fcs ⟨Ob.new_ (ob_3c 18 23 (Fact.eq (.string (ofB (bef (unsg l))))) (Fact.eq (.string (ofB (aft (unsg l))))) (Fact.eq (.bool true)) rfl rfl (.inl rfl) (by kernel_rfl) rfl rfl) (by kernel_rfl), ?_⟩
    refine fcs ⟨Ob.new_ (ob_copy 21 6 (.inr rfl) rfl (.inl rfl) (by kernel_rfl) rfl) (by kernel_rfl), ?_⟩
    refine fcs ⟨Ob.new_ (ob_copy 22 7 (.inr rfl) rfl (.inl rfl) (by kernel_rfl) rfl) (by kernel_rfl), ?_⟩
    refine fcs ⟨Ob.new_ (ob_copy 23 8 (.inr rfl) rfl (.inl rfl) (by kernel_rfl) rfl) (by kernel_rfl), ?_⟩
    exact fnl
  intro a3 w3 st3 hbr3 hfr
  have hs3 := hbr3.size
  have hb := up hb hbr3
  have st : St 60 [(2, Fact.cell b2 (Con.raw 3)), (3, Fact.eq (.int .i64 0)), (5, Fact.eq (.bool (neg45 l))), (6, Fact.eq (.string (ofB (bef (unsg l))))), (7, Fact.eq (.string (ofB (aft (unsg l))))), (8, Fact.eq (.bool true))] a3 w3 := st3.to (fcs ⟨st3.at_ 2, fcs ⟨st3.at_ 3, fcs ⟨st3.at_ 5, fcs ⟨st3.at_ 6, fcs ⟨st3.at_ 7, fcs ⟨st3.at_ 8, fnl⟩⟩⟩⟩⟩⟩)
  clear st3 hbr3 hfr
  refine wpList_nil ?_
  refine then_normal ?_
  refine wp_seq ?_
  refine sym_region st [(25, Fact.eq (.string (ofB (bef (unsg l))))), (26, Fact.two (Fact.agg (Con.nn 42 (pv (bef (unsg l))))) (Fact.eq (.int .i64 (Nm.chk (bef (unsg l)) : Int)))), (24, Fact.two (Fact.agg (Con.nn 42 (pv (bef (unsg l))))) (Fact.eq (.int .i64 (Nm.chk (bef (unsg l)) : Int)))), (27, Fact.agg (Con.nn 42 (pv (bef (unsg l))))), (28, Fact.eq (.int .i64 (Nm.chk (bef (unsg l)) : Int))), (9, Fact.var' (Con.raw 1))] [9] 6 (by kernel_rfl) (by kernel_rfl) (by kernel_rfl) (Nat.le_of_ble_eq_true rfl) (by kernel_rfl) rfl rfl ?_ ?_
  · refine fcs ⟨Ob.new_ (ob_copy 6 25 (.inl rfl) rfl (.inl rfl) (by kernel_rfl) rfl) (by kernel_rfl), ?_⟩
    refine fcs ⟨Ob.new_ (ob_call1 68 25 26 _ rfl rfl (.inl rfl) (by kernel_rfl) (by kernel_rfl) (n_parse (bef (unsg l)) h.unsg.bef hsb)) (by kernel_rfl), ?_⟩
    refine fcs ⟨Ob.new_ (ob_copy 26 24 (.inl rfl) rfl (.inl rfl) (by kernel_rfl) rfl) (by kernel_rfl), ?_⟩
    refine fcs ⟨Ob.new_ (ob_fst 24 27 (Fact.agg (Con.nn 42 (pv (bef (unsg l))))) (Fact.eq (.int .i64 (Nm.chk (bef (unsg l)) : Int))) rfl rfl (.inl rfl) (by kernel_rfl) rfl rfl) (by kernel_rfl), ?_⟩
    refine fcs ⟨Ob.new_ (ob_snd 24 28 (Fact.agg (Con.nn 42 (pv (bef (unsg l))))) (Fact.eq (.int .i64 (Nm.chk (bef (unsg l)) : Int))) rfl rfl (.inl rfl) (by kernel_rfl) rfl rfl) (by kernel_rfl), ?_⟩
    refine fcs ⟨obn_new 24 9 _ [.slice none 0 0] rfl rfl rfl rfl rfl alloc24, ?_⟩
    exact fnl
  intro a4 w4 st4 hbr4 hfr
  have hs4 := hbr4.size
  have hb := up hb hbr4
  obtain ⟨b9, c9⟩ := (show (Fact.var' (Con.raw 1)).holds _ _ from st4.at_ 9)
  have g9 := hfr.ge (s := 9) rfl c9.1
  have st : St 60 [(2, Fact.cell b2 (Con.raw 3)), (3, Fact.eq (.int .i64 0)), (5, Fact.eq (.bool (neg45 l))), (7, Fact.eq (.string (ofB (aft (unsg l))))), (8, Fact.eq (.bool true)), (27, Fact.agg (Con.nn 42 (pv (bef (unsg l))))), (28, Fact.eq (.int .i64 (Nm.chk (bef (unsg l)) : Int))), (9, Fact.cell b9 (Con.raw 1))] a4 w4 := st4.to (fcs ⟨st4.at_ 2, fcs ⟨st4.at_ 3, fcs ⟨st4.at_ 5, fcs ⟨st4.at_ 7, fcs ⟨st4.at_ 8, fcs ⟨st4.at_ 27, fcs ⟨st4.at_ 28, fcs ⟨c9, fnl⟩⟩⟩⟩⟩⟩⟩⟩)
  clear st4 hbr4 hfr c9
  refine sym_store st 24 9 27 b9 (Con.raw 1) (Con.nn 42 (pv (bef (unsg l)))) [(2, Fact.cell b2 (Con.raw 3)), (3, Fact.eq (.int .i64 0)), (5, Fact.eq (.bool (neg45 l))), (7, Fact.eq (.string (ofB (aft (unsg l))))), (8, Fact.eq (.bool true)), (28, Fact.eq (.int .i64 (Nm.chk (bef (unsg l)) : Int))), (9, Fact.cell b9 (Con.nn 42 (pv (bef (unsg l)))))] rfl rfl rfl rfl rfl rfl info24 ?_ ?_
  · exact fcs ⟨.inr ⟨rfl, safe_cell _ (by omega)⟩, fcs ⟨.inr ⟨rfl, safe_eq _ _⟩, fcs ⟨.inr ⟨rfl, safe_eq _ _⟩, fcs ⟨.inr ⟨rfl, safe_eq _ _⟩, fcs ⟨.inr ⟨rfl, safe_eq _ _⟩, fcs ⟨.inr ⟨rfl, safe_eq _ _⟩, fcs ⟨.inl rfl, fnl⟩⟩⟩⟩⟩⟩⟩
  clear st; intro w5 hB hsz5 st
  have hb := hB _ _ hb (by omega) (by omega)
  clear hB
  refine sym_op st 10 (Fact.eq (.int .i64 (Nm.chk (bef (unsg l)) : Int))) rfl (Nat.le_of_ble_eq_true rfl) rfl rfl (by kernel_rfl) (ob_copy 28 10 (.inr rfl) rfl (.inl rfl) (by kernel_rfl) rfl) ?_
  clear st; intro a6 w6 hbr st; have hs6 := hbr.size; have hb := up hb hbr; clear hbr
  refine wpList_nil ?_
  refine then_normal ?_
  refine wp_seq ?_
  refine wp_seq ?_
  refine sym_region st [(29, Fact.eq (.int .i64 (Nm.chk (bef (unsg l)) : Int))), (30, Fact.eq (.bool false))] [] 2 (by kernel_rfl) (by kernel_rfl) (by kernel_rfl) (Nat.le_of_ble_eq_true rfl) (by kernel_rfl) rfl rfl ?_ ?_
  · refine fcs ⟨Ob.new_ (ob_copy 10 29 (.inl rfl) rfl (.inl rfl) (by kernel_rfl) rfl) (by kernel_rfl), ?_⟩
    refine fcs ⟨Ob.new_ (ob_nec 29 30 .i64 33 _ (Nm.chk (bef (unsg l)) : Int) 0 false hcb rfl rfl (.inl rfl) (by kernel_rfl) rfl rfl) (by kernel_rfl), ?_⟩
    exact fnl
  intro a7 w7 st7 hbr7 hfr
  have hs7 := hbr7.size
  have hb := up hb hbr7
  have st : St 60 [(2, Fact.cell b2 (Con.raw 3)), (3, Fact.eq (.int .i64 0)), (5, Fact.eq (.bool (neg45 l))), (7, Fact.eq (.string (ofB (aft (unsg l))))), (8, Fact.eq (.bool true)), (9, Fact.cell b9 (Con.nn 42 (pv (bef (unsg l))))), (10, Fact.eq (.int .i64 (Nm.chk (bef (unsg l)) : Int))), (30, Fact.eq (.bool false))] a7 w7 := st7.to (fcs ⟨st7.at_ 2, fcs ⟨st7.at_ 3, fcs ⟨st7.at_ 5, fcs ⟨st7.at_ 7, fcs ⟨st7.at_ 8, fcs ⟨st7.at_ 9, fcs ⟨st7.at_ 10, fcs ⟨st7.at_ 30, fnl⟩⟩⟩⟩⟩⟩⟩⟩)
  clear st7 hbr7 hfr
  refine wpList_nil ?_
  refine then_normal ?_
  refine wp_cond_false (st.at_ 30) ?_
  refine wp_skip ?_
  refine then_normal ?_
  refine wp_seq ?_
  refine sym_region st [(33, Fact.agg (Con.nn 1 1)), (11, Fact.var' (Con.raw 1))] [11] 2 (by kernel_rfl) (by kernel_rfl) (by kernel_rfl) (Nat.le_of_ble_eq_true rfl) (by kernel_rfl) rfl rfl ?_ ?_
  · refine fcs ⟨Ob.new_ (ob_callc 61 _ 33 _ rfl rfl (.inl rfl) (by kernel_rfl) (n_of 1 1 (by decide) (by unfold Nm.Sz; decide) (by decide))) (by kernel_rfl), ?_⟩
    refine fcs ⟨obn_new 24 11 _ [.slice none 0 0] rfl rfl rfl rfl rfl alloc24, ?_⟩
    exact fnl
  intro a8 w8 st8 hbr8 hfr
  have hs8 := hbr8.size
  have hb := up hb hbr8
  obtain ⟨b11, c11⟩ := (show (Fact.var' (Con.raw 1)).holds _ _ from st8.at_ 11)
  have g11 := hfr.ge (s := 11) rfl c11.1
  have st : St 60 [(2, Fact.cell b2 (Con.raw 3)), (3, Fact.eq (.int .i64 0)), (5, Fact.eq (.bool (neg45 l))), (7, Fact.eq (.string (ofB (aft (unsg l))))), (8, Fact.eq (.bool true)), (9, Fact.cell b9 (Con.nn 42 (pv (bef (unsg l))))), (10, Fact.eq (.int .i64 (Nm.chk (bef (unsg l)) : Int))), (33, Fact.agg (Con.nn 1 1)), (11, Fact.cell b11 (Con.raw 1))] a8 w8 := st8.to (fcs ⟨st8.at_ 2, fcs ⟨st8.at_ 3, fcs ⟨st8.at_ 5, fcs ⟨st8.at_ 7, fcs ⟨st8.at_ 8, fcs ⟨st8.at_ 9, fcs ⟨st8.at_ 10, fcs ⟨st8.at_ 33, fcs ⟨c11, fnl⟩⟩⟩⟩⟩⟩⟩⟩⟩)
  clear st8 hbr8 hfr c11
  refine sym_store st 24 11 33 b11 (Con.raw 1) (Con.nn 1 1) [(2, Fact.cell b2 (Con.raw 3)), (3, Fact.eq (.int .i64 0)), (5, Fact.eq (.bool (neg45 l))), (7, Fact.eq (.string (ofB (aft (unsg l))))), (8, Fact.eq (.bool true)), (9, Fact.cell b9 (Con.nn 42 (pv (bef (unsg l))))), (10, Fact.eq (.int .i64 (Nm.chk (bef (unsg l)) : Int))), (11, Fact.cell b11 (Con.nn 1 1))] rfl rfl rfl rfl rfl rfl info24 ?_ ?_
  · exact fcs ⟨.inr ⟨rfl, safe_cell _ (by omega)⟩, fcs ⟨.inr ⟨rfl, safe_eq _ _⟩, fcs ⟨.inr ⟨rfl, safe_eq _ _⟩, fcs ⟨.inr ⟨rfl, safe_eq _ _⟩, fcs ⟨.inr ⟨rfl, safe_eq _ _⟩, fcs ⟨.inr ⟨rfl, safe_cell _ (by omega)⟩, fcs ⟨.inr ⟨rfl, safe_eq _ _⟩, fcs ⟨.inl rfl, fnl⟩⟩⟩⟩⟩⟩⟩⟩
  clear st; intro w9 hB hsz9 st
  have hb := hB _ _ hb (by omega) (by omega)
  clear hB
  refine wpList_nil ?_
  refine then_normal ?_
  refine wp_seq ?_
  refine wp_seq ?_
  refine sym_region st [(34, Fact.eq (.bool true))] [] 1 (by kernel_rfl) (by kernel_rfl) (by kernel_rfl) (Nat.le_of_ble_eq_true rfl) (by kernel_rfl) rfl rfl ?_ ?_
  · refine fcs ⟨Ob.new_ (ob_copy 8 34 (.inl rfl) rfl (.inl rfl) (by kernel_rfl) rfl) (by kernel_rfl), ?_⟩
    exact fnl
  intro a10 w10 st10 hbr10 hfr
  have hs10 := hbr10.size
  have hb := up hb hbr10
  have st : St 60 [(2, Fact.cell b2 (Con.raw 3)), (3, Fact.eq (.int .i64 0)), (5, Fact.eq (.bool (neg45 l))), (7, Fact.eq (.string (ofB (aft (unsg l))))), (8, Fact.eq (.bool true)), (9, Fact.cell b9 (Con.nn 42 (pv (bef (unsg l))))), (10, Fact.eq (.int .i64 (Nm.chk (bef (unsg l)) : Int))), (11, Fact.cell b11 (Con.nn 1 1)), (34, Fact.eq (.bool true))] a10 w10 := st10.to (fcs ⟨st10.at_ 2, fcs ⟨st10.at_ 3, fcs ⟨st10.at_ 5, fcs ⟨st10.at_ 7, fcs ⟨st10.at_ 8, fcs ⟨st10.at_ 9, fcs ⟨st10.at_ 10, fcs ⟨st10.at_ 11, fcs ⟨st10.at_ 34, fnl⟩⟩⟩⟩⟩⟩⟩⟩⟩)
  clear st10 hbr10 hfr
  refine wpList_nil ?_
  refine then_normal ?_
  refine wp_cond_true (st.at_ 34) ?_
  refine wp_seq ?_
  have st := st.to (ks' := [(2, Fact.cell b2 (Con.raw 3)), (3, Fact.eq (.int .i64 0)), (5, Fact.eq (.bool (neg45 l))), (7, Fact.eq (.string (ofB (aft (unsg l))))), (8, Fact.eq (.bool true)), (9, Fact.cell b9 (Con.nn 42 (pv (bef (unsg l))))), (11, Fact.cell b11 (Con.nn 1 1)), (34, Fact.eq (.bool true))]) (fcs ⟨st.at_ 2, fcs ⟨st.at_ 3, fcs ⟨st.at_ 5, fcs ⟨st.at_ 7, fcs ⟨st.at_ 8, fcs ⟨st.at_ 9, fcs ⟨st.at_ 11, fcs ⟨st.at_ 34, fnl⟩⟩⟩⟩⟩⟩⟩⟩)
  refine sym_region st [(36, Fact.eq (.string (ofB (aft (unsg l))))), (37, Fact.two (Fact.agg (Con.nn 42 (pv (aft (unsg l))))) (Fact.eq (.int .i64 (Nm.chk (aft (unsg l)) : Int)))), (35, Fact.two (Fact.agg (Con.nn 42 (pv (aft (unsg l))))) (Fact.eq (.int .i64 (Nm.chk (aft (unsg l)) : Int)))), (38, Fact.agg (Con.nn 42 (pv (aft (unsg l))))), (39, Fact.eq (.int .i64 (Nm.chk (aft (unsg l)) : Int)))] [] 5 (by kernel_rfl) (by kernel_rfl) (by kernel_rfl) (Nat.le_of_ble_eq_true rfl) (by kernel_rfl) rfl rfl ?_ ?_
  · refine fcs ⟨Ob.new_ (ob_copy 7 36 (.inl rfl) rfl (.inl rfl) (by kernel_rfl) rfl) (by kernel_rfl), ?_⟩
    refine fcs ⟨Ob.new_ (ob_call1 68 36 37 _ rfl rfl (.inl rfl) (by kernel_rfl) (by kernel_rfl) (n_parse (aft (unsg l)) h.unsg.aft hsa)) (by kernel_rfl), ?_⟩
    refine fcs ⟨Ob.new_ (ob_copy 37 35 (.inl rfl) rfl (.inl rfl) (by kernel_rfl) rfl) (by kernel_rfl), ?_⟩
    refine fcs ⟨Ob.new_ (ob_fst 35 38 (Fact.agg (Con.nn 42 (pv (aft (unsg l))))) (Fact.eq (.int .i64 (Nm.chk (aft (unsg l)) : Int))) rfl rfl (.inl rfl) (by kernel_rfl) rfl rfl) (by kernel_rfl), ?_⟩
    refine fcs ⟨Ob.new_ (ob_snd 35 39 (Fact.agg (Con.nn 42 (pv (aft (unsg l))))) (Fact.eq (.int .i64 (Nm.chk (aft (unsg l)) : Int))) rfl rfl (.inl rfl) (by kernel_rfl) rfl rfl) (by kernel_rfl), ?_⟩
    exact fnl
  intro a11 w11 st11 hbr11 hfr
  have hs11 := hbr11.size
  have hb := up hb hbr11
  have st : St 60 [(2, Fact.cell b2 (Con.raw 3)), (3, Fact.eq (.int .i64 0)), (5, Fact.eq (.bool (neg45 l))), (8, Fact.eq (.bool true)), (9, Fact.cell b9 (Con.nn 42 (pv (bef (unsg l))))), (11, Fact.cell b11 (Con.nn 1 1)), (38, Fact.agg (Con.nn 42 (pv (aft (unsg l))))), (39, Fact.eq (.int .i64 (Nm.chk (aft (unsg l)) : Int)))] a11 w11 := st11.to (fcs ⟨st11.at_ 2, fcs ⟨st11.at_ 3, fcs ⟨st11.at_ 5, fcs ⟨st11.at_ 8, fcs ⟨st11.at_ 9, fcs ⟨st11.at_ 11, fcs ⟨st11.at_ 38, fcs ⟨st11.at_ 39, fnl⟩⟩⟩⟩⟩⟩⟩⟩)
  clear st11 hbr11 hfr
  refine sym_store st 24 11 38 b11 (Con.nn 1 1) (Con.nn 42 (pv (aft (unsg l)))) [(2, Fact.cell b2 (Con.raw 3)), (3, Fact.eq (.int .i64 0)), (5, Fact.eq (.bool (neg45 l))), (8, Fact.eq (.bool true)), (9, Fact.cell b9 (Con.nn 42 (pv (bef (unsg l))))), (11, Fact.cell b11 (Con.nn 42 (pv (aft (unsg l))))), (39, Fact.eq (.int .i64 (Nm.chk (aft (unsg l)) : Int)))] rfl rfl rfl rfl rfl rfl info24 ?_ ?_
  · exact fcs ⟨.inr ⟨rfl, safe_cell _ (by omega)⟩, fcs ⟨.inr ⟨rfl, safe_eq _ _⟩, fcs ⟨.inr ⟨rfl, safe_eq _ _⟩, fcs ⟨.inr ⟨rfl, safe_eq _ _⟩, fcs ⟨.inr ⟨rfl, safe_cell _ (by omega)⟩, fcs ⟨.inl rfl, fcs ⟨.inr ⟨rfl, safe_eq _ _⟩, fnl⟩⟩⟩⟩⟩⟩⟩
  clear st; intro w12 hB hsz12 st
  have hb := hB _ _ hb (by omega) (by omega)
  clear hB
  refine sym_op st 10 (Fact.eq (.int .i64 (Nm.chk (aft (unsg l)) : Int))) rfl (Nat.le_of_ble_eq_true rfl) rfl rfl (by kernel_rfl) (ob_copy 39 10 (.inr rfl) rfl (.inl rfl) (by kernel_rfl) rfl) ?_
  clear st; intro a13 w13 hbr st; have hs13 := hbr.size; have hb := up hb hbr; clear hbr
  refine wpList_nil ?_
  refine then_normal ?_
  refine wp_seq ?_
  refine sym_region st [(40, Fact.eq (.int .i64 (Nm.chk (aft (unsg l)) : Int))), (41, Fact.eq (.bool false))] [] 2 (by kernel_rfl) (by kernel_rfl) (by kernel_rfl) (Nat.le_of_ble_eq_true rfl) (by kernel_rfl) rfl rfl ?_ ?_
  · refine fcs ⟨Ob.new_ (ob_copy 10 40 (.inl rfl) rfl (.inl rfl) (by kernel_rfl) rfl) (by kernel_rfl), ?_⟩
    refine fcs ⟨Ob.new_ (ob_nec 40 41 .i64 33 _ (Nm.chk (aft (unsg l)) : Int) 0 false hca rfl rfl (.inl rfl) (by kernel_rfl) rfl rfl) (by kernel_rfl), ?_⟩
    exact fnl
  intro a14 w14 st14 hbr14 hfr
  have hs14 := hbr14.size
  have hb := up hb hbr14
  have st : St 60 [(2, Fact.cell b2 (Con.raw 3)), (3, Fact.eq (.int .i64 0)), (5, Fact.eq (.bool (neg45 l))), (8, Fact.eq (.bool true)), (9, Fact.cell b9 (Con.nn 42 (pv (bef (unsg l))))), (11, Fact.cell b11 (Con.nn 42 (pv (aft (unsg l))))), (10, Fact.eq (.int .i64 (Nm.chk (aft (unsg l)) : Int))), (41, Fact.eq (.bool false))] a14 w14 := st14.to (fcs ⟨st14.at_ 2, fcs ⟨st14.at_ 3, fcs ⟨st14.at_ 5, fcs ⟨st14.at_ 8, fcs ⟨st14.at_ 9, fcs ⟨st14.at_ 11, fcs ⟨st14.at_ 10, fcs ⟨st14.at_ 41, fnl⟩⟩⟩⟩⟩⟩⟩⟩)
  clear st14 hbr14 hfr
  refine wpList_nil ?_
  refine then_normal ?_
  refine wp_cond_false (st.at_ 41) ?_
  refine wp_skip ?_
  refine then_normal ?_
  refine wp_seq ?_
  refine sym_region st [(44, Fact.eq (.bool (neg45 l))), (45, Fact.agg (Con.nn 42 (pv (bef (unsg l))))), (46, Fact.agg (Con.nn 42 (pv (aft (unsg l))))), (47, Fact.agg (Con.tri 42 42 (neg45 l) (pv (bef (unsg l))) (pv (aft (unsg l))))), (12, Fact.var' (Con.raw 3))] [12] 5 (by kernel_rfl) (by kernel_rfl) (by kernel_rfl) (Nat.le_of_ble_eq_true rfl) (by kernel_rfl) rfl rfl ?_ ?_
  · refine fcs ⟨Ob.new_ (ob_copy 5 44 (.inl rfl) rfl (.inl rfl) (by kernel_rfl) rfl) (by kernel_rfl), ?_⟩
    refine fcs ⟨Ob.new_ (ob_read 24 9 45 (Con.nn 42 (pv (bef (unsg l)))) rfl rfl (.inl rfl) (by kernel_rfl) points_cell rfl row24 info24) (by kernel_rfl), ?_⟩
    refine fcs ⟨Ob.new_ (ob_read 24 11 46 (Con.nn 42 (pv (aft (unsg l)))) rfl rfl (.inl rfl) (by kernel_rfl) points_cell rfl row24 info24) (by kernel_rfl), ?_⟩
    refine fcs ⟨Ob.new_ (ob_buildtri 44 45 46 47 42 42 (pv (bef (unsg l))) (pv (aft (unsg l))) (neg45 l) rfl rfl (.inl rfl) (by kernel_rfl) (by kernel_rfl) (by kernel_rfl) rfl rfl rfl rfl) (by kernel_rfl), ?_⟩
    refine fcs ⟨obn_new 26 12 _ [.bool false, .slice none 0 0, .slice none 0 0] rfl rfl rfl rfl rfl alloc26, ?_⟩
    exact fnl
  intro a15 w15 st15 hbr15 hfr
  have hs15 := hbr15.size
  have hb := up hb hbr15
  obtain ⟨b12, c12⟩ := (show (Fact.var' (Con.raw 3)).holds _ _ from st15.at_ 12)
  have g12 := hfr.ge (s := 12) rfl c12.1
  have st : St 60 [(2, Fact.cell b2 (Con.raw 3)), (3, Fact.eq (.int .i64 0)), (8, Fact.eq (.bool true)), (11, Fact.cell b11 (Con.nn 42 (pv (aft (unsg l))))), (47, Fact.agg (Con.tri 42 42 (neg45 l) (pv (bef (unsg l))) (pv (aft (unsg l))))), (12, Fact.cell b12 (Con.raw 3))] a15 w15 := st15.to (fcs ⟨st15.at_ 2, fcs ⟨st15.at_ 3, fcs ⟨st15.at_ 8, fcs ⟨st15.at_ 11, fcs ⟨st15.at_ 47, fcs ⟨c12, fnl⟩⟩⟩⟩⟩⟩)
  clear st15 hbr15 hfr c12
  refine sym_store st 26 12 47 b12 (Con.raw 3) (Con.tri 42 42 (neg45 l) (pv (bef (unsg l))) (pv (aft (unsg l)))) [(2, Fact.cell b2 (Con.raw 3)), (3, Fact.eq (.int .i64 0)), (8, Fact.eq (.bool true)), (11, Fact.cell b11 (Con.nn 42 (pv (aft (unsg l))))), (12, Fact.cell b12 (Con.tri 42 42 (neg45 l) (pv (bef (unsg l))) (pv (aft (unsg l)))))] rfl rfl rfl rfl rfl rfl info26 ?_ ?_
  · exact fcs ⟨.inr ⟨rfl, safe_cell _ (by omega)⟩, fcs ⟨.inr ⟨rfl, safe_eq _ _⟩, fcs ⟨.inr ⟨rfl, safe_eq _ _⟩, fcs ⟨.inr ⟨rfl, safe_cell _ (by omega)⟩, fcs ⟨.inl rfl, fnl⟩⟩⟩⟩⟩
  clear st; intro w16 hB hsz16 st
  have hb := hB _ _ hb (by omega) (by omega)
  clear hB
  refine wpList_nil ?_
  refine then_normal ?_
  refine wp_seq ?_
  refine wp_seq ?_
  refine sym_region st [(48, Fact.eq (.bool true)), (49, Fact.eq (.bool true)), (50, Fact.agg (Con.nn 42 (pv (aft (unsg l))))), (51, Fact.eq (.bool false)), (52, Fact.eq (.bool false)), (53, Fact.eq (.bool false)), (54, Fact.agg (Con.tri 42 42 (neg45 l) (pv (bef (unsg l))) (pv (aft (unsg l))))), (55, Fact.eq (.bool false)), (56, Fact.eq (.bool true)), (57, Fact.eq (.bool true))] [] 10 (by kernel_rfl) (by kernel_rfl) (by kernel_rfl) (Nat.le_of_ble_eq_true rfl) (by kernel_rfl) rfl rfl ?_ ?_
  · refine fcs ⟨Ob.new_ (ob_copy 8 48 (.inl rfl) rfl (.inl rfl) (by kernel_rfl) rfl) (by kernel_rfl), ?_⟩
    refine fcs ⟨Ob.new_ (ob_copy 48 49 (.inl rfl) rfl (.inl rfl) (by kernel_rfl) rfl) (by kernel_rfl), ?_⟩
    refine fcs ⟨Ob.new_ (ob_read 24 11 50 (Con.nn 42 (pv (aft (unsg l)))) rfl rfl (.inr ⟨_, _, _, rfl, rfl, by kernel_rfl, by decide, rfl⟩) (by kernel_rfl) points_cell rfl row24 info24) (by kernel_rfl), ?_⟩
    refine fcs ⟨Ob.new_ (ob_call1 69 50 51 _ rfl rfl (.inr ⟨_, _, _, rfl, rfl, by kernel_rfl, by decide, rfl⟩) (by kernel_rfl) (by kernel_rfl) (q_isOne 42 (pv (aft (unsg l))) false hone)) (by kernel_rfl), ?_⟩
    refine fcs ⟨Ob.new_ (ob_pick 49 51 52 _ rfl rfl (.inl rfl) (by kernel_rfl) (by kernel_rfl) rfl rfl) (by kernel_rfl), ?_⟩
    refine fcs ⟨Ob.new_ (ob_copy 52 53 (.inl rfl) rfl (.inl rfl) (by kernel_rfl) rfl) (by kernel_rfl), ?_⟩
    refine fcs ⟨Ob.new_ (ob_read 26 12 54 (Con.tri 42 42 (neg45 l) (pv (bef (unsg l))) (pv (aft (unsg l)))) rfl rfl (.inr ⟨_, _, _, rfl, rfl, by kernel_rfl, by decide, rfl⟩) (by kernel_rfl) points_cell rfl row26 info26) (by kernel_rfl), ?_⟩
    refine fcs ⟨Ob.new_ (ob_call1 70 54 55 _ rfl rfl (.inr ⟨_, _, _, rfl, rfl, by kernel_rfl, by decide, rfl⟩) (by kernel_rfl) (by kernel_rfl) (q_valid_tri 42 42 (neg45 l) (pv (bef (unsg l))) (pv (aft (unsg l))) (by omega) (by omega) false hvl)) (by kernel_rfl), ?_⟩
    refine fcs ⟨Ob.new_ (ob_not 55 56 false true rfl rfl rfl (.inr ⟨_, _, _, rfl, rfl, by kernel_rfl, by decide, rfl⟩) (by kernel_rfl) rfl rfl) (by kernel_rfl), ?_⟩
    refine fcs ⟨Ob.new_ (ob_pick_else 53 56 57 (.bool true) rfl rfl (.inl rfl) (by kernel_rfl) (by kernel_rfl) rfl rfl) (by kernel_rfl), ?_⟩
    exact fnl
  intro a17 w17 st17 hbr17 hfr
  have hs17 := hbr17.size
  have hb := up hb hbr17
  have st : St 60 [(2, Fact.cell b2 (Con.raw 3)), (3, Fact.eq (.int .i64 0)), (12, Fact.cell b12 (Con.tri 42 42 (neg45 l) (pv (bef (unsg l))) (pv (aft (unsg l))))), (57, Fact.eq (.bool true))] a17 w17 := st17.to (fcs ⟨st17.at_ 2, fcs ⟨st17.at_ 3, fcs ⟨st17.at_ 12, fcs ⟨st17.at_ 57, fnl⟩⟩⟩⟩)
  clear st17 hbr17 hfr
  refine wpList_nil ?_
  refine then_normal ?_
  refine wp_cond_true (st.at_ 57) ?_
  refine wp_seq ?_
  have st := st.to (ks' := [(2, Fact.cell b2 (Con.raw 3)), (12, Fact.cell b12 (Con.tri 42 42 (neg45 l) (pv (bef (unsg l))) (pv (aft (unsg l))))), (57, Fact.eq (.bool true))]) (fcs ⟨st.at_ 2, fcs ⟨st.at_ 12, fcs ⟨st.at_ 57, fnl⟩⟩⟩)
  refine sym_region st [(58, Fact.agg (Con.tri 1 1 false 0 0))] [] 1 (by kernel_rfl) (by kernel_rfl) (by kernel_rfl) (Nat.le_of_ble_eq_true rfl) (by kernel_rfl) rfl rfl ?_ ?_
  · refine fcs ⟨Ob.new_ (ob_buildzero 58 rfl rfl (.inl rfl) rfl) (by kernel_rfl), ?_⟩
    exact fnl
  intro a18 w18 st18 hbr18 hfr
  have hs18 := hbr18.size
  have hb := up hb hbr18
  have st : St 60 [(2, Fact.cell b2 (Con.raw 3)), (12, Fact.cell b12 (Con.tri 42 42 (neg45 l) (pv (bef (unsg l))) (pv (aft (unsg l))))), (58, Fact.agg (Con.tri 1 1 false 0 0))] a18 w18 := st18.to (fcs ⟨st18.at_ 2, fcs ⟨st18.at_ 12, fcs ⟨st18.at_ 58, fnl⟩⟩⟩)
  clear st18 hbr18 hfr
  refine sym_store st 26 2 58 b2 (Con.raw 3) (Con.tri 1 1 false 0 0) [(2, Fact.cell b2 (Con.tri 1 1 false 0 0)), (12, Fact.cell b12 (Con.tri 42 42 (neg45 l) (pv (bef (unsg l))) (pv (aft (unsg l)))))] rfl rfl rfl rfl rfl rfl info26 ?_ ?_
  · exact fcs ⟨.inl rfl, fcs ⟨.inr ⟨rfl, safe_cell _ (by omega)⟩, fnl⟩⟩
  clear st; intro w19 hB hsz19 st
  have hb := hB _ _ hb (by omega) (by omega)
  clear hB
  refine sym_op st 3 (Fact.eq (.int .i64 2)) rfl (Nat.le_of_ble_eq_true rfl) rfl rfl (by kernel_rfl) (ob_const (.int .i64 2) 3 (.inr rfl) rfl (.inl rfl) rfl) ?_
  clear st; intro a20 w20 hbr st; have hs20 := hbr.size; have hb := up hb hbr; clear hbr
  refine wpList_nil ?_
  refine then_normal ?_
  refine wp_ret ?_
  exact sym_ret2 rfl st.defers (resAt_cell st 2 b2 26 (Con.tri 1 1 false 0 0) rfl row26 info26) (resAt_tmp st 3) hb (fun v u h1 h2 => ⟨v, u, rfl, h1, h2⟩)
end Go.Proofs.YtjfehdkfogdpgaaGreatDoor
namespace Go.Proofs.YtjfehdkfogdpgaaGreatDoor
open Go.RowKit
theorem dec_sz {k p : Nat} (hk : k ≤ 41) (h : Nm.Sz k p) : (Nm.dec p).length ≤ 400 := by
  have h1 : (4294967296 : Nat) ^ 41 < 10 ^ 400 := by decide +kernel
  have h2 : 4294967296 ^ k ≤ 4294967296 ^ 41 := Nat.pow_le_pow_right (by decide) hk
  exact Nat.le_of_not_lt (Nm.dec_short (Nat.lt_of_lt_of_le h (Nat.le_trans h2 (Nat.le_of_lt h1))))
theorem q_formatk (k : Nat) (x : Rat) (hk : k ≤ 41) (l : List Nat) (hl : fmt x = l) : ∀ v w, (Fact.agg (Con.fr k x)).holds v w → Calls Tryz.prog 35 #[v] w (Ret (Fact.eq (.string (ofB l))) w) := by
  intro v w hv
  have z := Fact.fr_sz hv
  have h1 := dec_sz hk z.1
  have h2 := dec_sz hk z.2
  subst hl
  exact q_format k x (by omega) (by omega) v w hv
theorem q_floorb (k : Nat) (x : Rat) (hk : k + 1 ≤ 400) (n : Int) (b : Bool) (hn : asI x.floor = n) (hb : fitsI x.floor = b) : ∀ v w, (Fact.agg (Con.fr k x)).holds v w → Calls Tryz.prog 28 #[v] w (Ret (Fact.two (Fact.eq (.int .i64 n)) (Fact.eq (.bool b))) w) := by
  subst hn hb; exact q_floor k x hk
theorem q_ratio_c (n m : Int) (h : -9223372036854775808 ≤ n ∧ n ≤ 9223372036854775807) (h2 : -9223372036854775808 ≤ m ∧ m ≤ 9223372036854775807) (hm : Int.natAbs m ≠ 0) (x : Rat) (hx : Rt.of ((decide (n < 0)) != (decide (m < 0))) (Int.natAbs n) (Int.natAbs m) = x) : ∀ w, Calls Tryz.prog 37 #[.int .i64 n, .int .i64 m] w (Ret (Fact.two (Fact.fr 2 x) (Fact.eq (.int .i64 0))) w) := by
  subst hx; exact fun w => q_ratio_of n m h h2 hm _ _ w rfl rfl
theorem q_ratio_c0 (n m : Int) (h : -9223372036854775808 ≤ n ∧ n ≤ 9223372036854775807) (h2 : -9223372036854775808 ≤ m ∧ m ≤ 9223372036854775807) (hm : Int.natAbs m = 0) : ∀ w, Calls Tryz.prog 37 #[.int .i64 n, .int .i64 m] w (Ret (Fact.two (Fact.agg (Con.tri 1 1 false 0 0)) (Fact.eq (.int .i64 8))) w) := fun w => q_ratio0 n m h h2 hm _ _ w rfl rfl
theorem byt_lit {l : List Nat} (h : l.all (fun c => decide (c < 256)) = true) : Byt l := fun c hc => of_decide_eq_true (List.all_eq_true.1 h c hc)
set_option maxRecDepth 100000 in
theorem w_awake  : ∀ w, Calls Tryz.prog 9 #[] w (Ret (Fact.eq (.bool true)) w) := by
  intro w
  refine sym_calls 77 [] Tryz.func9 rfl rfl (Nat.le_of_ble_eq_true rfl) (fnl) fun a st => ?_
  have hb := Below.refl w.heap.size w
  refine wp_seq ?_
  refine sym_region st [(0, Fact.eq (.bool false))] [] 1 (by kernel_rfl) (by kernel_rfl) (by kernel_rfl) (Nat.le_of_ble_eq_true rfl) (by kernel_rfl) rfl rfl ?_ ?_
  · refine fcs ⟨Ob.new_ (ob_const (.bool false) 0 (.inr rfl) rfl (.inl rfl) rfl) (by kernel_rfl), ?_⟩
    exact fnl
  intro a1 w1 st1 hbr1 hfr
  have hs1 := hbr1.size
  have hb := up hb hbr1
  have st : St 77 [(0, Fact.eq (.bool false))] a1 w1 := st1.to (fcs ⟨st1.at_ 0, fnl⟩)
  clear st1 hbr1 hfr
  refine wpList_nil ?_
  refine then_normal ?_
  refine wp_seq ?_
  refine sym_region st [(14, Fact.two (Fact.agg (Con.fr 2 (1 / 3 : Rat))) (Fact.eq (.int .i64 0))), (13, Fact.two (Fact.agg (Con.fr 2 (1 / 3 : Rat))) (Fact.eq (.int .i64 0))), (15, Fact.agg (Con.fr 2 (1 / 3 : Rat))), (16, Fact.eq (.int .i64 0)), (1, Fact.var' (Con.raw 3))] [1] 5 (by kernel_rfl) (by kernel_rfl) (by kernel_rfl) (Nat.le_of_ble_eq_true rfl) (by kernel_rfl) rfl rfl ?_ ?_
  · refine fcs ⟨Ob.new_ (ob_call_cc 37 14 (.int .i64 1) (.int .i64 3) _ rfl rfl (.inl rfl) (by kernel_rfl) (q_ratio_c (1) (3) (by decide) (by decide) (by decide) (1 / 3 : Rat) (by kernel_rfl))) (by kernel_rfl), ?_⟩
    refine fcs ⟨Ob.new_ (ob_copy 14 13 (.inl rfl) rfl (.inl rfl) (by kernel_rfl) rfl) (by kernel_rfl), ?_⟩
    refine fcs ⟨Ob.new_ (ob_fst 13 15 (Fact.agg (Con.fr 2 (1 / 3 : Rat))) (Fact.eq (.int .i64 0)) rfl rfl (.inl rfl) (by kernel_rfl) rfl rfl) (by kernel_rfl), ?_⟩
    refine fcs ⟨Ob.new_ (ob_snd 13 16 (Fact.agg (Con.fr 2 (1 / 3 : Rat))) (Fact.eq (.int .i64 0)) rfl rfl (.inl rfl) (by kernel_rfl) rfl rfl) (by kernel_rfl), ?_⟩
    refine fcs ⟨obn_new 26 1 _ [.bool false, .slice none 0 0, .slice none 0 0] rfl rfl rfl rfl rfl alloc26, ?_⟩
    exact fnl
  intro a2 w2 st2 hbr2 hfr
  have hs2 := hbr2.size
  have hb := up hb hbr2
  obtain ⟨b1, c1⟩ := (show (Fact.var' (Con.raw 3)).holds _ _ from st2.at_ 1)
  have g1 := hfr.ge (s := 1) rfl c1.1
  have st : St 77 [(0, Fact.eq (.bool false)), (15, Fact.agg (Con.fr 2 (1 / 3 : Rat))), (16, Fact.eq (.int .i64 0)), (1, Fact.cell b1 (Con.raw 3))] a2 w2 := st2.to (fcs ⟨st2.at_ 0, fcs ⟨st2.at_ 15, fcs ⟨st2.at_ 16, fcs ⟨c1, fnl⟩⟩⟩⟩)
  clear st2 hbr2 hfr c1
  refine sym_store st 26 1 15 b1 (Con.raw 3) (Con.fr 2 (1 / 3 : Rat)) [(0, Fact.eq (.bool false)), (16, Fact.eq (.int .i64 0)), (1, Fact.cell b1 (Con.fr 2 (1 / 3 : Rat)))] rfl rfl rfl rfl rfl rfl info26 ?_ ?_
  · exact fcs ⟨.inr ⟨rfl, safe_eq _ _⟩, fcs ⟨.inr ⟨rfl, safe_eq _ _⟩, fcs ⟨.inl rfl, fnl⟩⟩⟩
  clear st; intro w3 hB hsz3 st
  have hb := hB _ _ hb (by omega) (by omega)
  clear hB
  refine sym_op st 2 (Fact.eq (.int .i64 0)) rfl (Nat.le_of_ble_eq_true rfl) rfl rfl (by kernel_rfl) (ob_copy 16 2 (.inr rfl) rfl (.inl rfl) (by kernel_rfl) rfl) ?_
  clear st; intro a4 w4 hbr st; have hs4 := hbr.size; have hb := up hb hbr; clear hbr
  refine wpList_nil ?_
  refine then_normal ?_
  refine wp_seq ?_
  refine sym_region st [(18, Fact.two (Fact.agg (Con.fr 2 (1 / 6 : Rat))) (Fact.eq (.int .i64 0))), (17, Fact.two (Fact.agg (Con.fr 2 (1 / 6 : Rat))) (Fact.eq (.int .i64 0))), (19, Fact.agg (Con.fr 2 (1 / 6 : Rat))), (20, Fact.eq (.int .i64 0)), (3, Fact.var' (Con.raw 3))] [3] 5 (by kernel_rfl) (by kernel_rfl) (by kernel_rfl) (Nat.le_of_ble_eq_true rfl) (by kernel_rfl) rfl rfl ?_ ?_
  · refine fcs ⟨Ob.new_ (ob_call_cc 37 18 (.int .i64 1) (.int .i64 6) _ rfl rfl (.inl rfl) (by kernel_rfl) (q_ratio_c (1) (6) (by decide) (by decide) (by decide) (1 / 6 : Rat) (by kernel_rfl))) (by kernel_rfl), ?_⟩
    refine fcs ⟨Ob.new_ (ob_copy 18 17 (.inl rfl) rfl (.inl rfl) (by kernel_rfl) rfl) (by kernel_rfl), ?_⟩
    refine fcs ⟨Ob.new_ (ob_fst 17 19 (Fact.agg (Con.fr 2 (1 / 6 : Rat))) (Fact.eq (.int .i64 0)) rfl rfl (.inl rfl) (by kernel_rfl) rfl rfl) (by kernel_rfl), ?_⟩
    refine fcs ⟨Ob.new_ (ob_snd 17 20 (Fact.agg (Con.fr 2 (1 / 6 : Rat))) (Fact.eq (.int .i64 0)) rfl rfl (.inl rfl) (by kernel_rfl) rfl rfl) (by kernel_rfl), ?_⟩
    refine fcs ⟨obn_new 26 3 _ [.bool false, .slice none 0 0, .slice none 0 0] rfl rfl rfl rfl rfl alloc26, ?_⟩
    exact fnl
  intro a5 w5 st5 hbr5 hfr
  have hs5 := hbr5.size
  have hb := up hb hbr5
  obtain ⟨b3, c3⟩ := (show (Fact.var' (Con.raw 3)).holds _ _ from st5.at_ 3)
  have g3 := hfr.ge (s := 3) rfl c3.1
  have st : St 77 [(0, Fact.eq (.bool false)), (1, Fact.cell b1 (Con.fr 2 (1 / 3 : Rat))), (2, Fact.eq (.int .i64 0)), (19, Fact.agg (Con.fr 2 (1 / 6 : Rat))), (20, Fact.eq (.int .i64 0)), (3, Fact.cell b3 (Con.raw 3))] a5 w5 := st5.to (fcs ⟨st5.at_ 0, fcs ⟨st5.at_ 1, fcs ⟨st5.at_ 2, fcs ⟨st5.at_ 19, fcs ⟨st5.at_ 20, fcs ⟨c3, fnl⟩⟩⟩⟩⟩⟩)
  clear st5 hbr5 hfr c3
  refine sym_store st 26 3 19 b3 (Con.raw 3) (Con.fr 2 (1 / 6 : Rat)) [(0, Fact.eq (.bool false)), (1, Fact.cell b1 (Con.fr 2 (1 / 3 : Rat))), (2, Fact.eq (.int .i64 0)), (20, Fact.eq (.int .i64 0)), (3, Fact.cell b3 (Con.fr 2 (1 / 6 : Rat)))] rfl rfl rfl rfl rfl rfl info26 ?_ ?_
  · exact fcs ⟨.inr ⟨rfl, safe_eq _ _⟩, fcs ⟨.inr ⟨rfl, safe_cell _ (by omega)⟩, fcs ⟨.inr ⟨rfl, safe_eq _ _⟩, fcs ⟨.inr ⟨rfl, safe_eq _ _⟩, fcs ⟨.inl rfl, fnl⟩⟩⟩⟩⟩
  clear st; intro w6 hB hsz6 st
  have hb := hB _ _ hb (by omega) (by omega)
  clear hB
  refine sym_op st 4 (Fact.eq (.int .i64 0)) rfl (Nat.le_of_ble_eq_true rfl) rfl rfl (by kernel_rfl) (ob_copy 20 4 (.inr rfl) rfl (.inl rfl) (by kernel_rfl) rfl) ?_
  clear st; intro a7 w7 hbr st; have hs7 := hbr.size; have hb := up hb hbr; clear hbr
  refine wpList_nil ?_
  refine then_normal ?_
  refine wp_seq ?_
  refine sym_region st [(22, Fact.two (Fact.agg (Con.fr 2 (1 / 2 : Rat))) (Fact.eq (.int .i64 0))), (21, Fact.two (Fact.agg (Con.fr 2 (1 / 2 : Rat))) (Fact.eq (.int .i64 0))), (23, Fact.agg (Con.fr 2 (1 / 2 : Rat))), (24, Fact.eq (.int .i64 0)), (5, Fact.var' (Con.raw 3))] [5] 5 (by kernel_rfl) (by kernel_rfl) (by kernel_rfl) (Nat.le_of_ble_eq_true rfl) (by kernel_rfl) rfl rfl ?_ ?_
  · refine fcs ⟨Ob.new_ (ob_call_cc 37 22 (.int .i64 (-1)) (.int .i64 (-2)) _ rfl rfl (.inl rfl) (by kernel_rfl) (q_ratio_c (-1) (-2) (by decide) (by decide) (by decide) (1 / 2 : Rat) (by kernel_rfl))) (by kernel_rfl), ?_⟩
    refine fcs ⟨Ob.new_ (ob_copy 22 21 (.inl rfl) rfl (.inl rfl) (by kernel_rfl) rfl) (by kernel_rfl), ?_⟩
    refine fcs ⟨Ob.new_ (ob_fst 21 23 (Fact.agg (Con.fr 2 (1 / 2 : Rat))) (Fact.eq (.int .i64 0)) rfl rfl (.inl rfl) (by kernel_rfl) rfl rfl) (by kernel_rfl), ?_⟩
    refine fcs ⟨Ob.new_ (ob_snd 21 24 (Fact.agg (Con.fr 2 (1 / 2 : Rat))) (Fact.eq (.int .i64 0)) rfl rfl (.inl rfl) (by kernel_rfl) rfl rfl) (by kernel_rfl), ?_⟩
    refine fcs ⟨obn_new 26 5 _ [.bool false, .slice none 0 0, .slice none 0 0] rfl rfl rfl rfl rfl alloc26, ?_⟩
    exact fnl
  intro a8 w8 st8 hbr8 hfr
  have hs8 := hbr8.size
  have hb := up hb hbr8
  obtain ⟨b5, c5⟩ := (show (Fact.var' (Con.raw 3)).holds _ _ from st8.at_ 5)
  have g5 := hfr.ge (s := 5) rfl c5.1
  have st : St 77 [(0, Fact.eq (.bool false)), (1, Fact.cell b1 (Con.fr 2 (1 / 3 : Rat))), (2, Fact.eq (.int .i64 0)), (3, Fact.cell b3 (Con.fr 2 (1 / 6 : Rat))), (4, Fact.eq (.int .i64 0)), (23, Fact.agg (Con.fr 2 (1 / 2 : Rat))), (24, Fact.eq (.int .i64 0)), (5, Fact.cell b5 (Con.raw 3))] a8 w8 := st8.to (fcs ⟨st8.at_ 0, fcs ⟨st8.at_ 1, fcs ⟨st8.at_ 2, fcs ⟨st8.at_ 3, fcs ⟨st8.at_ 4, fcs ⟨st8.at_ 23, fcs ⟨st8.at_ 24, fcs ⟨c5, fnl⟩⟩⟩⟩⟩⟩⟩⟩)
  clear st8 hbr8 hfr c5
  refine sym_store st 26 5 23 b5 (Con.raw 3) (Con.fr 2 (1 / 2 : Rat)) [(0, Fact.eq (.bool false)), (1, Fact.cell b1 (Con.fr 2 (1 / 3 : Rat))), (2, Fact.eq (.int .i64 0)), (3, Fact.cell b3 (Con.fr 2 (1 / 6 : Rat))), (4, Fact.eq (.int .i64 0)), (24, Fact.eq (.int .i64 0)), (5, Fact.cell b5 (Con.fr 2 (1 / 2 : Rat)))] rfl rfl rfl rfl rfl rfl info26 ?_ ?_
  · exact fcs ⟨.inr ⟨rfl, safe_eq _ _⟩, fcs ⟨.inr ⟨rfl, safe_cell _ (by omega)⟩, fcs ⟨.inr ⟨rfl, safe_eq _ _⟩, fcs ⟨.inr ⟨rfl, safe_cell _ (by omega)⟩, fcs ⟨.inr ⟨rfl, safe_eq _ _⟩, fcs ⟨.inr ⟨rfl, safe_eq _ _⟩, fcs ⟨.inl rfl, fnl⟩⟩⟩⟩⟩⟩⟩
  clear st; intro w9 hB hsz9 st
  have hb := hB _ _ hb (by omega) (by omega)
  clear hB
  refine sym_op st 6 (Fact.eq (.int .i64 0)) rfl (Nat.le_of_ble_eq_true rfl) rfl rfl (by kernel_rfl) (ob_copy 24 6 (.inr rfl) rfl (.inl rfl) (by kernel_rfl) rfl) ?_
  clear st; intro a10 w10 hbr st; have hs10 := hbr.size; have hb := up hb hbr; clear hbr
  refine wpList_nil ?_
  refine then_normal ?_
  refine wp_seq ?_
  refine sym_region st [(26, Fact.two (Fact.agg (Con.tri 1 1 false 0 0)) (Fact.eq (.int .i64 8))), (25, Fact.two (Fact.agg (Con.tri 1 1 false 0 0)) (Fact.eq (.int .i64 8))), (27, Fact.agg (Con.tri 1 1 false 0 0)), (28, Fact.eq (.int .i64 8)), (7, Fact.var' (Con.raw 3))] [7] 5 (by kernel_rfl) (by kernel_rfl) (by kernel_rfl) (Nat.le_of_ble_eq_true rfl) (by kernel_rfl) rfl rfl ?_ ?_
  · refine fcs ⟨Ob.new_ (ob_call_cc 37 26 (.int .i64 1) (.int .i64 0) _ rfl rfl (.inl rfl) (by kernel_rfl) (q_ratio_c0 (1) (0) (by decide) (by decide) (by decide))) (by kernel_rfl), ?_⟩
    refine fcs ⟨Ob.new_ (ob_copy 26 25 (.inl rfl) rfl (.inl rfl) (by kernel_rfl) rfl) (by kernel_rfl), ?_⟩
    refine fcs ⟨Ob.new_ (ob_fst 25 27 (Fact.agg (Con.tri 1 1 false 0 0)) (Fact.eq (.int .i64 8)) rfl rfl (.inl rfl) (by kernel_rfl) rfl rfl) (by kernel_rfl), ?_⟩
    refine fcs ⟨Ob.new_ (ob_snd 25 28 (Fact.agg (Con.tri 1 1 false 0 0)) (Fact.eq (.int .i64 8)) rfl rfl (.inl rfl) (by kernel_rfl) rfl rfl) (by kernel_rfl), ?_⟩
    refine fcs ⟨obn_new 26 7 _ [.bool false, .slice none 0 0, .slice none 0 0] rfl rfl rfl rfl rfl alloc26, ?_⟩
    exact fnl
  intro a11 w11 st11 hbr11 hfr
  have hs11 := hbr11.size
  have hb := up hb hbr11
  obtain ⟨b7, c7⟩ := (show (Fact.var' (Con.raw 3)).holds _ _ from st11.at_ 7)
  have g7 := hfr.ge (s := 7) rfl c7.1
  have st : St 77 [(0, Fact.eq (.bool false)), (1, Fact.cell b1 (Con.fr 2 (1 / 3 : Rat))), (2, Fact.eq (.int .i64 0)), (3, Fact.cell b3 (Con.fr 2 (1 / 6 : Rat))), (4, Fact.eq (.int .i64 0)), (5, Fact.cell b5 (Con.fr 2 (1 / 2 : Rat))), (6, Fact.eq (.int .i64 0)), (27, Fact.agg (Con.tri 1 1 false 0 0)), (28, Fact.eq (.int .i64 8)), (7, Fact.cell b7 (Con.raw 3))] a11 w11 := st11.to (fcs ⟨st11.at_ 0, fcs ⟨st11.at_ 1, fcs ⟨st11.at_ 2, fcs ⟨st11.at_ 3, fcs ⟨st11.at_ 4, fcs ⟨st11.at_ 5, fcs ⟨st11.at_ 6, fcs ⟨st11.at_ 27, fcs ⟨st11.at_ 28, fcs ⟨c7, fnl⟩⟩⟩⟩⟩⟩⟩⟩⟩⟩)
  clear st11 hbr11 hfr c7
  refine sym_store st 26 7 27 b7 (Con.raw 3) (Con.tri 1 1 false 0 0) [(0, Fact.eq (.bool false)), (1, Fact.cell b1 (Con.fr 2 (1 / 3 : Rat))), (2, Fact.eq (.int .i64 0)), (3, Fact.cell b3 (Con.fr 2 (1 / 6 : Rat))), (4, Fact.eq (.int .i64 0)), (5, Fact.cell b5 (Con.fr 2 (1 / 2 : Rat))), (6, Fact.eq (.int .i64 0)), (28, Fact.eq (.int .i64 8)), (7, Fact.cell b7 (Con.tri 1 1 false 0 0))] rfl rfl rfl rfl rfl rfl info26 ?_ ?_
  · exact fcs ⟨.inr ⟨rfl, safe_eq _ _⟩, fcs ⟨.inr ⟨rfl, safe_cell _ (by omega)⟩, fcs ⟨.inr ⟨rfl, safe_eq _ _⟩, fcs ⟨.inr ⟨rfl, safe_cell _ (by omega)⟩, fcs ⟨.inr ⟨rfl, safe_eq _ _⟩, fcs ⟨.inr ⟨rfl, safe_cell _ (by omega)⟩, fcs ⟨.inr ⟨rfl, safe_eq _ _⟩, fcs ⟨.inr ⟨rfl, safe_eq _ _⟩, fcs ⟨.inl rfl, fnl⟩⟩⟩⟩⟩⟩⟩⟩⟩
  clear st; intro w12 hB hsz12 st
  have hb := hB _ _ hb (by omega) (by omega)
  clear hB
  refine sym_op st 8 (Fact.eq (.int .i64 8)) rfl (Nat.le_of_ble_eq_true rfl) rfl rfl (by kernel_rfl) (ob_copy 28 8 (.inr rfl) rfl (.inl rfl) (by kernel_rfl) rfl) ?_
  clear st; intro a13 w13 hbr st; have hs13 := hbr.size; have hb := up hb hbr; clear hbr
  refine wpList_nil ?_
  refine then_normal ?_
  refine wp_seq ?_
  refine sym_region st [(30, Fact.two (Fact.agg (Con.tri 1 1 false 0 0)) (Fact.eq (.int .i64 2))), (29, Fact.two (Fact.agg (Con.tri 1 1 false 0 0)) (Fact.eq (.int .i64 2))), (31, Fact.agg (Con.tri 1 1 false 0 0)), (32, Fact.eq (.int .i64 2)), (9, Fact.var' (Con.raw 3))] [9] 5 (by kernel_rfl) (by kernel_rfl) (by kernel_rfl) (Nat.le_of_ble_eq_true rfl) (by kernel_rfl) rfl rfl ?_ ?_
  · refine fcs ⟨Ob.new_ (ob_callc 33 _ 30 _ rfl rfl (.inl rfl) (by kernel_rfl) (fun w => q_parse_b2 [50, 47, 52] (byt_lit rfl) (Nat.le_of_ble_eq_true rfl) (by kernel_rfl) (by kernel_rfl) (by kernel_rfl) (by kernel_rfl) (by kernel_rfl) _ w rfl)) (by kernel_rfl), ?_⟩
    refine fcs ⟨Ob.new_ (ob_copy 30 29 (.inl rfl) rfl (.inl rfl) (by kernel_rfl) rfl) (by kernel_rfl), ?_⟩
    refine fcs ⟨Ob.new_ (ob_fst 29 31 (Fact.agg (Con.tri 1 1 false 0 0)) (Fact.eq (.int .i64 2)) rfl rfl (.inl rfl) (by kernel_rfl) rfl rfl) (by kernel_rfl), ?_⟩
    refine fcs ⟨Ob.new_ (ob_snd 29 32 (Fact.agg (Con.tri 1 1 false 0 0)) (Fact.eq (.int .i64 2)) rfl rfl (.inl rfl) (by kernel_rfl) rfl rfl) (by kernel_rfl), ?_⟩
    refine fcs ⟨obn_new 26 9 _ [.bool false, .slice none 0 0, .slice none 0 0] rfl rfl rfl rfl rfl alloc26, ?_⟩
    exact fnl
  intro a14 w14 st14 hbr14 hfr
  have hs14 := hbr14.size
  have hb := up hb hbr14
  obtain ⟨b9, c9⟩ := (show (Fact.var' (Con.raw 3)).holds _ _ from st14.at_ 9)
  have g9 := hfr.ge (s := 9) rfl c9.1
  have st : St 77 [(0, Fact.eq (.bool false)), (1, Fact.cell b1 (Con.fr 2 (1 / 3 : Rat))), (2, Fact.eq (.int .i64 0)), (3, Fact.cell b3 (Con.fr 2 (1 / 6 : Rat))), (4, Fact.eq (.int .i64 0)), (5, Fact.cell b5 (Con.fr 2 (1 / 2 : Rat))), (6, Fact.eq (.int .i64 0)), (8, Fact.eq (.int .i64 8)), (31, Fact.agg (Con.tri 1 1 false 0 0)), (32, Fact.eq (.int .i64 2)), (9, Fact.cell b9 (Con.raw 3))] a14 w14 := st14.to (fcs ⟨st14.at_ 0, fcs ⟨st14.at_ 1, fcs ⟨st14.at_ 2, fcs ⟨st14.at_ 3, fcs ⟨st14.at_ 4, fcs ⟨st14.at_ 5, fcs ⟨st14.at_ 6, fcs ⟨st14.at_ 8, fcs ⟨st14.at_ 31, fcs ⟨st14.at_ 32, fcs ⟨c9, fnl⟩⟩⟩⟩⟩⟩⟩⟩⟩⟩⟩)
  clear st14 hbr14 hfr c9
  refine sym_store st 26 9 31 b9 (Con.raw 3) (Con.tri 1 1 false 0 0) [(0, Fact.eq (.bool false)), (1, Fact.cell b1 (Con.fr 2 (1 / 3 : Rat))), (2, Fact.eq (.int .i64 0)), (3, Fact.cell b3 (Con.fr 2 (1 / 6 : Rat))), (4, Fact.eq (.int .i64 0)), (5, Fact.cell b5 (Con.fr 2 (1 / 2 : Rat))), (6, Fact.eq (.int .i64 0)), (8, Fact.eq (.int .i64 8)), (32, Fact.eq (.int .i64 2)), (9, Fact.cell b9 (Con.tri 1 1 false 0 0))] rfl rfl rfl rfl rfl rfl info26 ?_ ?_
  · exact fcs ⟨.inr ⟨rfl, safe_eq _ _⟩, fcs ⟨.inr ⟨rfl, safe_cell _ (by omega)⟩, fcs ⟨.inr ⟨rfl, safe_eq _ _⟩, fcs ⟨.inr ⟨rfl, safe_cell _ (by omega)⟩, fcs ⟨.inr ⟨rfl, safe_eq _ _⟩, fcs ⟨.inr ⟨rfl, safe_cell _ (by omega)⟩, fcs ⟨.inr ⟨rfl, safe_eq _ _⟩, fcs ⟨.inr ⟨rfl, safe_eq _ _⟩, fcs ⟨.inr ⟨rfl, safe_eq _ _⟩, fcs ⟨.inl rfl, fnl⟩⟩⟩⟩⟩⟩⟩⟩⟩⟩
  clear st; intro w15 hB hsz15 st
  have hb := hB _ _ hb (by omega) (by omega)
  clear hB
  refine sym_op st 10 (Fact.eq (.int .i64 2)) rfl (Nat.le_of_ble_eq_true rfl) rfl rfl (by kernel_rfl) (ob_copy 32 10 (.inr rfl) rfl (.inl rfl) (by kernel_rfl) rfl) ?_
  clear st; intro a16 w16 hbr st; have hs16 := hbr.size; have hb := up hb hbr; clear hbr
  refine wpList_nil ?_
  refine then_normal ?_
  refine wp_seq ?_
  refine sym_region st [(34, Fact.agg (Con.fr 2 (1 / 2 : Rat))), (35, Fact.agg (Con.fr 2 (-(1 / 2 : Rat)))), (36, Fact.two (Fact.eq (.int .i64 (-1))) (Fact.eq (.bool true))), (33, Fact.two (Fact.eq (.int .i64 (-1))) (Fact.eq (.bool true))), (37, Fact.eq (.int .i64 (-1))), (38, Fact.eq (.bool true)), (11, Fact.eq (.int .i64 (-1))), (12, Fact.eq (.bool true))] [] 8 (by kernel_rfl) (by kernel_rfl) (by kernel_rfl) (Nat.le_of_ble_eq_true rfl) (by kernel_rfl) rfl rfl ?_ ?_
  · refine fcs ⟨Ob.new_ (ob_read 26 5 34 (Con.fr 2 (1 / 2 : Rat)) rfl rfl (.inl rfl) (by kernel_rfl) points_cell rfl row26 info26) (by kernel_rfl), ?_⟩
    refine fcs ⟨Ob.new_ (ob_call1 15 34 35 _ rfl rfl (.inl rfl) (by kernel_rfl) (by kernel_rfl) (q_neg 2 (1 / 2 : Rat))) (by kernel_rfl), ?_⟩
    refine fcs ⟨Ob.new_ (ob_call1 28 35 36 _ rfl rfl (.inl rfl) (by kernel_rfl) (by kernel_rfl) (q_floorb 2 (-(1 / 2 : Rat)) (by omega) (-1) true (by kernel_rfl) (by kernel_rfl))) (by kernel_rfl), ?_⟩
    refine fcs ⟨Ob.new_ (ob_copy 36 33 (.inl rfl) rfl (.inl rfl) (by kernel_rfl) rfl) (by kernel_rfl), ?_⟩
    refine fcs ⟨Ob.new_ (ob_fst 33 37 (Fact.eq (.int .i64 (-1))) (Fact.eq (.bool true)) rfl rfl (.inl rfl) (by kernel_rfl) rfl rfl) (by kernel_rfl), ?_⟩
    refine fcs ⟨Ob.new_ (ob_snd 33 38 (Fact.eq (.int .i64 (-1))) (Fact.eq (.bool true)) rfl rfl (.inl rfl) (by kernel_rfl) rfl rfl) (by kernel_rfl), ?_⟩
    refine fcs ⟨Ob.new_ (ob_copy 37 11 (.inr rfl) rfl (.inl rfl) (by kernel_rfl) rfl) (by kernel_rfl), ?_⟩
    refine fcs ⟨Ob.new_ (ob_copy 38 12 (.inr rfl) rfl (.inl rfl) (by kernel_rfl) rfl) (by kernel_rfl), ?_⟩
    exact fnl
  intro a17 w17 st17 hbr17 hfr
  have hs17 := hbr17.size
  have hb := up hb hbr17
  have st : St 77 [(0, Fact.eq (.bool false)), (1, Fact.cell b1 (Con.fr 2 (1 / 3 : Rat))), (2, Fact.eq (.int .i64 0)), (3, Fact.cell b3 (Con.fr 2 (1 / 6 : Rat))), (4, Fact.eq (.int .i64 0)), (5, Fact.cell b5 (Con.fr 2 (1 / 2 : Rat))), (6, Fact.eq (.int .i64 0)), (8, Fact.eq (.int .i64 8)), (10, Fact.eq (.int .i64 2)), (11, Fact.eq (.int .i64 (-1))), (12, Fact.eq (.bool true))] a17 w17 := st17.to (fcs ⟨st17.at_ 0, fcs ⟨st17.at_ 1, fcs ⟨st17.at_ 2, fcs ⟨st17.at_ 3, fcs ⟨st17.at_ 4, fcs ⟨st17.at_ 5, fcs ⟨st17.at_ 6, fcs ⟨st17.at_ 8, fcs ⟨st17.at_ 10, fcs ⟨st17.at_ 11, fcs ⟨st17.at_ 12, fnl⟩⟩⟩⟩⟩⟩⟩⟩⟩⟩⟩)
  clear st17 hbr17 hfr
  refine wpList_nil ?_
  refine then_normal ?_
  refine wp_seq ?_
  have st := st.to (ks' := [(1, Fact.cell b1 (Con.fr 2 (1 / 3 : Rat))), (2, Fact.eq (.int .i64 0)), (3, Fact.cell b3 (Con.fr 2 (1 / 6 : Rat))), (4, Fact.eq (.int .i64 0)), (5, Fact.cell b5 (Con.fr 2 (1 / 2 : Rat))), (6, Fact.eq (.int .i64 0)), (8, Fact.eq (.int .i64 8)), (10, Fact.eq (.int .i64 2)), (11, Fact.eq (.int .i64 (-1))), (12, Fact.eq (.bool true))]) (fcs ⟨st.at_ 1, fcs ⟨st.at_ 2, fcs ⟨st.at_ 3, fcs ⟨st.at_ 4, fcs ⟨st.at_ 5, fcs ⟨st.at_ 6, fcs ⟨st.at_ 8, fcs ⟨st.at_ 10, fcs ⟨st.at_ 11, fcs ⟨st.at_ 12, fnl⟩⟩⟩⟩⟩⟩⟩⟩⟩⟩)
  refine sym_region st [(39, Fact.eq (.int .i64 0)), (40, Fact.eq (.bool true)), (41, Fact.eq (.bool true)), (42, Fact.eq (.int .i64 0)), (43, Fact.eq (.bool true)), (44, Fact.eq (.bool true)), (45, Fact.eq (.bool true)), (46, Fact.eq (.int .i64 0)), (47, Fact.eq (.bool true)), (48, Fact.eq (.bool true)), (49, Fact.eq (.bool true)), (50, Fact.eq (.int .i64 8)), (51, Fact.eq (.bool true)), (52, Fact.eq (.bool true)), (53, Fact.eq (.bool true)), (54, Fact.eq (.int .i64 2)), (55, Fact.eq (.bool true)), (56, Fact.eq (.bool true)), (57, Fact.eq (.bool true)), (58, Fact.eq (.int .i64 (-1))), (59, Fact.eq (.bool true)), (60, Fact.eq (.bool true)), (61, Fact.eq (.bool true)), (62, Fact.eq (.bool true)), (63, Fact.eq (.bool true)), (64, Fact.eq (.bool true)), (65, Fact.agg (Con.fr 2 (1 / 3 : Rat))), (66, Fact.agg (Con.fr 2 (1 / 6 : Rat))), (67, Fact.agg (Con.fr 5 ((1 / 3 : Rat) + (1 / 6 : Rat)))), (68, Fact.agg (Con.fr 2 (1 / 2 : Rat))), (69, Fact.eq (.bool true)), (70, Fact.eq (.bool true)), (71, Fact.eq (.bool true)), (72, Fact.agg (Con.fr 2 (1 / 2 : Rat))), (73, Fact.agg (Con.fr 2 (-(1 / 2 : Rat)))), (74, Fact.eq (.string (ofB ([45, 49, 47, 50])))), (75, Fact.eq (.bool true)), (76, Fact.eq (.bool true)), (0, Fact.eq (.bool true))] [] 39 (by kernel_rfl) (by kernel_rfl) (by kernel_rfl) (Nat.le_of_ble_eq_true rfl) (by kernel_rfl) rfl rfl ?_ ?_
  · refine fcs ⟨Ob.new_ (ob_copy 2 39 (.inl rfl) rfl (.inl rfl) (by kernel_rfl) rfl) (by kernel_rfl), ?_⟩
    refine fcs ⟨Ob.new_ (ob_eqc 39 40 .i64 33 _ 0 0 true rfl rfl rfl (.inl rfl) (by kernel_rfl) rfl rfl) (by kernel_rfl), ?_⟩
    refine fcs ⟨Ob.new_ (ob_copy 40 41 (.inl rfl) rfl (.inl rfl) (by kernel_rfl) rfl) (by kernel_rfl), ?_⟩
    refine fcs ⟨Ob.new_ (ob_copy 4 42 (.inl rfl) rfl (.inr ⟨_, _, _, rfl, rfl, by kernel_rfl, by decide, rfl⟩) (by kernel_rfl) rfl) (by kernel_rfl), ?_⟩
    refine fcs ⟨Ob.new_ (ob_eqc 42 43 .i64 33 _ 0 0 true rfl rfl rfl (.inr ⟨_, _, _, rfl, rfl, by kernel_rfl, by decide, rfl⟩) (by kernel_rfl) rfl rfl) (by kernel_rfl), ?_⟩
    refine fcs ⟨Ob.new_ (ob_pick 41 43 44 _ rfl rfl (.inl rfl) (by kernel_rfl) (by kernel_rfl) rfl rfl) (by kernel_rfl), ?_⟩
    refine fcs ⟨Ob.new_ (ob_copy 44 45 (.inl rfl) rfl (.inl rfl) (by kernel_rfl) rfl) (by kernel_rfl), ?_⟩
    refine fcs ⟨Ob.new_ (ob_copy 6 46 (.inl rfl) rfl (.inr ⟨_, _, _, rfl, rfl, by kernel_rfl, by decide, rfl⟩) (by kernel_rfl) rfl) (by kernel_rfl), ?_⟩
    refine fcs ⟨Ob.new_ (ob_eqc 46 47 .i64 33 _ 0 0 true rfl rfl rfl (.inr ⟨_, _, _, rfl, rfl, by kernel_rfl, by decide, rfl⟩) (by kernel_rfl) rfl rfl) (by kernel_rfl), ?_⟩
    refine fcs ⟨Ob.new_ (ob_pick 45 47 48 _ rfl rfl (.inl rfl) (by kernel_rfl) (by kernel_rfl) rfl rfl) (by kernel_rfl), ?_⟩
    refine fcs ⟨Ob.new_ (ob_copy 48 49 (.inl rfl) rfl (.inl rfl) (by kernel_rfl) rfl) (by kernel_rfl), ?_⟩
    refine fcs ⟨Ob.new_ (ob_copy 8 50 (.inl rfl) rfl (.inr ⟨_, _, _, rfl, rfl, by kernel_rfl, by decide, rfl⟩) (by kernel_rfl) rfl) (by kernel_rfl), ?_⟩
    refine fcs ⟨Ob.new_ (ob_eqc 50 51 .i64 33 _ 8 8 true rfl rfl rfl (.inr ⟨_, _, _, rfl, rfl, by kernel_rfl, by decide, rfl⟩) (by kernel_rfl) rfl rfl) (by kernel_rfl), ?_⟩
    refine fcs ⟨Ob.new_ (ob_pick 49 51 52 _ rfl rfl (.inl rfl) (by kernel_rfl) (by kernel_rfl) rfl rfl) (by kernel_rfl), ?_⟩
    refine fcs ⟨Ob.new_ (ob_copy 52 53 (.inl rfl) rfl (.inl rfl) (by kernel_rfl) rfl) (by kernel_rfl), ?_⟩
    refine fcs ⟨Ob.new_ (ob_copy 10 54 (.inl rfl) rfl (.inr ⟨_, _, _, rfl, rfl, by kernel_rfl, by decide, rfl⟩) (by kernel_rfl) rfl) (by kernel_rfl), ?_⟩
    refine fcs ⟨Ob.new_ (ob_eqc 54 55 .i64 33 _ 2 2 true rfl rfl rfl (.inr ⟨_, _, _, rfl, rfl, by kernel_rfl, by decide, rfl⟩) (by kernel_rfl) rfl rfl) (by kernel_rfl), ?_⟩
    refine fcs ⟨Ob.new_ (ob_pick 53 55 56 _ rfl rfl (.inl rfl) (by kernel_rfl) (by kernel_rfl) rfl rfl) (by kernel_rfl), ?_⟩
    refine fcs ⟨Ob.new_ (ob_copy 56 57 (.inl rfl) rfl (.inl rfl) (by kernel_rfl) rfl) (by kernel_rfl), ?_⟩
    refine fcs ⟨Ob.new_ (ob_copy 11 58 (.inl rfl) rfl (.inr ⟨_, _, _, rfl, rfl, by kernel_rfl, by decide, rfl⟩) (by kernel_rfl) rfl) (by kernel_rfl), ?_⟩
    refine fcs ⟨Ob.new_ (ob_eqc 58 59 .i64 2 _ (-1) (-1) true rfl rfl rfl (.inr ⟨_, _, _, rfl, rfl, by kernel_rfl, by decide, rfl⟩) (by kernel_rfl) rfl rfl) (by kernel_rfl), ?_⟩
    refine fcs ⟨Ob.new_ (ob_pick 57 59 60 _ rfl rfl (.inl rfl) (by kernel_rfl) (by kernel_rfl) rfl rfl) (by kernel_rfl), ?_⟩
    refine fcs ⟨Ob.new_ (ob_copy 60 61 (.inl rfl) rfl (.inl rfl) (by kernel_rfl) rfl) (by kernel_rfl), ?_⟩
    refine fcs ⟨Ob.new_ (ob_copy 12 62 (.inl rfl) rfl (.inr ⟨_, _, _, rfl, rfl, by kernel_rfl, by decide, rfl⟩) (by kernel_rfl) rfl) (by kernel_rfl), ?_⟩
    refine fcs ⟨Ob.new_ (ob_pick 61 62 63 _ rfl rfl (.inl rfl) (by kernel_rfl) (by kernel_rfl) rfl rfl) (by kernel_rfl), ?_⟩
    refine fcs ⟨Ob.new_ (ob_copy 63 64 (.inl rfl) rfl (.inl rfl) (by kernel_rfl) rfl) (by kernel_rfl), ?_⟩
    refine fcs ⟨Ob.new_ (ob_read 26 1 65 (Con.fr 2 (1 / 3 : Rat)) rfl rfl (.inr ⟨_, _, _, rfl, rfl, by kernel_rfl, by decide, rfl⟩) (by kernel_rfl) points_cell rfl row26 info26) (by kernel_rfl), ?_⟩
    refine fcs ⟨Ob.new_ (ob_read 26 3 66 (Con.fr 2 (1 / 6 : Rat)) rfl rfl (.inr ⟨_, _, _, rfl, rfl, by kernel_rfl, by decide, rfl⟩) (by kernel_rfl) points_cell rfl row26 info26) (by kernel_rfl), ?_⟩
    refine fcs ⟨Ob.new_ (ob_call2 10 65 66 67 _ rfl rfl (.inr ⟨_, _, _, rfl, rfl, by kernel_rfl, by decide, rfl⟩) (by kernel_rfl) (by kernel_rfl) (by kernel_rfl) (q_add 2 2 (1 / 3 : Rat) (1 / 6 : Rat) (by omega))) (by kernel_rfl), ?_⟩
    refine fcs ⟨Ob.new_ (ob_read 26 5 68 (Con.fr 2 (1 / 2 : Rat)) rfl rfl (.inr ⟨_, _, _, rfl, rfl, by kernel_rfl, by decide, rfl⟩) (by kernel_rfl) points_cell rfl row26 info26) (by kernel_rfl), ?_⟩
    refine fcs ⟨Ob.new_ (ob_call2 13 67 68 69 _ rfl rfl (.inr ⟨_, _, _, rfl, rfl, by kernel_rfl, by decide, rfl⟩) (by kernel_rfl) (by kernel_rfl) (by kernel_rfl) (z_same 5 2 ((1 / 3 : Rat) + (1 / 6 : Rat)) (1 / 2 : Rat) true (by kernel_rfl))) (by kernel_rfl), ?_⟩
    refine fcs ⟨Ob.new_ (ob_pick 64 69 70 _ rfl rfl (.inl rfl) (by kernel_rfl) (by kernel_rfl) rfl rfl) (by kernel_rfl), ?_⟩
    refine fcs ⟨Ob.new_ (ob_copy 70 71 (.inl rfl) rfl (.inl rfl) (by kernel_rfl) rfl) (by kernel_rfl), ?_⟩
    refine fcs ⟨Ob.new_ (ob_read 26 5 72 (Con.fr 2 (1 / 2 : Rat)) rfl rfl (.inr ⟨_, _, _, rfl, rfl, by kernel_rfl, by decide, rfl⟩) (by kernel_rfl) points_cell rfl row26 info26) (by kernel_rfl), ?_⟩
    refine fcs ⟨Ob.new_ (ob_call1 15 72 73 _ rfl rfl (.inr ⟨_, _, _, rfl, rfl, by kernel_rfl, by decide, rfl⟩) (by kernel_rfl) (by kernel_rfl) (q_neg 2 (1 / 2 : Rat))) (by kernel_rfl), ?_⟩
    refine fcs ⟨Ob.new_ (ob_call1 35 73 74 _ rfl rfl (.inr ⟨_, _, _, rfl, rfl, by kernel_rfl, by decide, rfl⟩) (by kernel_rfl) (by kernel_rfl) (q_formatk 2 (-(1 / 2 : Rat)) (by decide) [45, 49, 47, 50] (by kernel_rfl))) (by kernel_rfl), ?_⟩
    refine fcs ⟨Ob.new_ (ob_eql_str ⟨#[45, 49, 47, 50]⟩ 74 75 _ rfl rfl (.inr ⟨_, _, _, rfl, rfl, by kernel_rfl, by decide, rfl⟩) (by kernel_rfl) rfl rfl) (by kernel_rfl), ?_⟩
    refine fcs ⟨Ob.new_ (ob_pick 71 75 76 _ rfl rfl (.inl rfl) (by kernel_rfl) (by kernel_rfl) rfl rfl) (by kernel_rfl), ?_⟩
    refine fcs ⟨Ob.new_ (ob_copy 76 0 (.inr rfl) rfl (.inl rfl) (by kernel_rfl) rfl) (by kernel_rfl), ?_⟩
    exact fnl
  intro a18 w18 st18 hbr18 hfr
  have hs18 := hbr18.size
  have hb := up hb hbr18
  have st : St 77 [(0, Fact.eq (.bool true))] a18 w18 := st18.to (fcs ⟨st18.at_ 0, fnl⟩)
  clear st18 hbr18 hfr
  refine wpList_nil ?_
  refine then_normal ?_
  refine wp_ret ?_
  exact sym_ret1 rfl st.defers (resAt_tmp st 0) hb (fun _ h => h)
end Go.Proofs.YtjfehdkfogdpgaaGreatDoor
namespace Go.Proofs.YtjfehdkfogdpgaaGreatDoor
open Go.RowKit
set_option maxRecDepth 100000 in
theorem law_computes_fr (x y : Rat) : ∀ v0 v1 w, (Fact.agg (Con.fr 12 x)).holds v0 w → (Fact.agg (Con.fr 12 y)).holds v1 w → Calls Tryz.prog 4 #[v0, v1] w (Ret (Fact.eq (.bool true)) w) := by
  intro v0 v1 w hv0 hv1
  by_cases h0 : y = 0
  · refine sym_calls 108 [(0, Fact.agg (Con.fr 12 x)), (1, Fact.agg (Con.fr 12 y))] Tryz.func4 rfl rfl (Nat.le_of_ble_eq_true rfl) (fcs ⟨⟨Nat.le_of_ble_eq_true rfl, hv0⟩, fcs ⟨⟨Nat.le_of_ble_eq_true rfl, hv1⟩, fnl⟩⟩) fun a st => ?_
    have hb := Below.refl w.heap.size w
    refine wp_seq ?_
    refine sym_region st [(2, Fact.var' (Con.fr 12 x)), (3, Fact.var' (Con.fr 12 y)), (4, Fact.eq (.bool false))] [2, 3] 3 (by kernel_rfl) (by kernel_rfl) (by kernel_rfl) (Nat.le_of_ble_eq_true rfl) (by kernel_rfl) rfl rfl ?_ ?_
    · refine fcs ⟨obn_box 26 0 2 _ (Con.fr 12 x) rfl rfl rfl (by kernel_rfl) rfl rfl, ?_⟩
      refine fcs ⟨obn_box 26 1 3 _ (Con.fr 12 y) rfl rfl rfl (by kernel_rfl) rfl rfl, ?_⟩
      refine fcs ⟨Ob.new_ (ob_const (.bool false) 4 (.inr rfl) rfl (.inl rfl) rfl) (by kernel_rfl), ?_⟩
      exact fnl
    intro a1 w1 st1 hbr1 hfr
    have hs1 := hbr1.size
    have hb := up hb hbr1
    obtain ⟨b2, c2⟩ := (show (Fact.var' (Con.fr 12 x)).holds _ _ from st1.at_ 2)
    have g2 := hfr.ge (s := 2) rfl c2.1
    obtain ⟨b3, c3⟩ := (show (Fact.var' (Con.fr 12 y)).holds _ _ from st1.at_ 3)
    have g3 := hfr.ge (s := 3) rfl c3.1
    have ne2_3 := hfr.apart (s := 2) (t := 3) rfl rfl (by decide) c2.1 c3.1
    have st : St 108 [(2, Fact.cell b2 (Con.fr 12 x)), (3, Fact.cell b3 (Con.fr 12 y)), (4, Fact.eq (.bool false))] a1 w1 := st1.to (fcs ⟨c2, fcs ⟨c3, fcs ⟨st1.at_ 4, fnl⟩⟩⟩)
    clear st1 hbr1 hfr c2 c3
    refine wpList_nil ?_
    refine then_normal ?_
    refine wp_seq ?_
    refine wp_seq ?_
    refine sym_region st [(11, Fact.agg (Con.fr 12 x)), (12, Fact.eq (.bool true)), (13, Fact.eq (.bool false)), (14, Fact.eq (.bool false)), (15, Fact.agg (Con.fr 12 y)), (16, Fact.eq (.bool true)), (17, Fact.eq (.bool false)), (18, Fact.eq (.bool false))] [] 8 (by kernel_rfl) (by kernel_rfl) (by kernel_rfl) (Nat.le_of_ble_eq_true rfl) (by kernel_rfl) rfl rfl ?_ ?_
    · refine fcs ⟨Ob.new_ (ob_read 26 2 11 (Con.fr 12 x) rfl rfl (.inl rfl) (by kernel_rfl) points_cell rfl row26 info26) (by kernel_rfl), ?_⟩
      refine fcs ⟨Ob.new_ (ob_call1 8 11 12 _ rfl rfl (.inl rfl) (by kernel_rfl) (by kernel_rfl) (w_fit_yes x)) (by kernel_rfl), ?_⟩
      refine fcs ⟨Ob.new_ (ob_not 12 13 true false rfl rfl rfl (.inl rfl) (by kernel_rfl) rfl rfl) (by kernel_rfl), ?_⟩
      refine fcs ⟨Ob.new_ (ob_copy 13 14 (.inl rfl) rfl (.inl rfl) (by kernel_rfl) rfl) (by kernel_rfl), ?_⟩
      refine fcs ⟨Ob.new_ (ob_read 26 3 15 (Con.fr 12 y) rfl rfl (.inr ⟨_, _, _, rfl, rfl, by kernel_rfl, by decide, rfl⟩) (by kernel_rfl) points_cell rfl row26 info26) (by kernel_rfl), ?_⟩
      refine fcs ⟨Ob.new_ (ob_call1 8 15 16 _ rfl rfl (.inr ⟨_, _, _, rfl, rfl, by kernel_rfl, by decide, rfl⟩) (by kernel_rfl) (by kernel_rfl) (w_fit_yes y)) (by kernel_rfl), ?_⟩
      refine fcs ⟨Ob.new_ (ob_not 16 17 true false rfl rfl rfl (.inr ⟨_, _, _, rfl, rfl, by kernel_rfl, by decide, rfl⟩) (by kernel_rfl) rfl rfl) (by kernel_rfl), ?_⟩
      refine fcs ⟨Ob.new_ (ob_pick_else 14 17 18 (.bool true) rfl rfl (.inl rfl) (by kernel_rfl) (by kernel_rfl) rfl rfl) (by kernel_rfl), ?_⟩
      exact fnl
    intro a2 w2 st2 hbr2 hfr
    have hs2 := hbr2.size
    have hb := up hb hbr2
    have st : St 108 [(2, Fact.cell b2 (Con.fr 12 x)), (3, Fact.cell b3 (Con.fr 12 y)), (4, Fact.eq (.bool false)), (18, Fact.eq (.bool false))] a2 w2 := st2.to (fcs ⟨st2.at_ 2, fcs ⟨st2.at_ 3, fcs ⟨st2.at_ 4, fcs ⟨st2.at_ 18, fnl⟩⟩⟩⟩)
    clear st2 hbr2 hfr
    refine wpList_nil ?_
    refine then_normal ?_
    refine wp_cond_false (st.at_ 18) ?_
    refine wp_skip ?_
    refine then_normal ?_
    refine wp_seq ?_
    refine sym_region st [(20, Fact.agg (Con.fr 12 x)), (21, Fact.agg (Con.fr 12 x)), (22, Fact.agg (Con.fr 12 y)), (23, Fact.agg (Con.fr 12 y)), (5, Fact.var' (Con.raw 3)), (6, Fact.var' (Con.raw 3))] [5, 6] 6 (by kernel_rfl) (by kernel_rfl) (by kernel_rfl) (Nat.le_of_ble_eq_true rfl) (by kernel_rfl) rfl rfl ?_ ?_
    · refine fcs ⟨Ob.new_ (ob_read 26 2 20 (Con.fr 12 x) rfl rfl (.inl rfl) (by kernel_rfl) points_cell rfl row26 info26) (by kernel_rfl), ?_⟩
      refine fcs ⟨Ob.new_ (ob_call1 19 20 21 _ rfl rfl (.inl rfl) (by kernel_rfl) (by kernel_rfl) (w_copied 12 x)) (by kernel_rfl), ?_⟩
      refine fcs ⟨Ob.new_ (ob_read 26 3 22 (Con.fr 12 y) rfl rfl (.inl rfl) (by kernel_rfl) points_cell rfl row26 info26) (by kernel_rfl), ?_⟩
      refine fcs ⟨Ob.new_ (ob_call1 19 22 23 _ rfl rfl (.inl rfl) (by kernel_rfl) (by kernel_rfl) (w_copied 12 y)) (by kernel_rfl), ?_⟩
      refine fcs ⟨obn_new 26 5 _ [.bool false, .slice none 0 0, .slice none 0 0] rfl rfl rfl rfl rfl alloc26, ?_⟩
      refine fcs ⟨obn_new 26 6 _ [.bool false, .slice none 0 0, .slice none 0 0] rfl rfl rfl rfl rfl alloc26, ?_⟩
      exact fnl
    intro a3 w3 st3 hbr3 hfr
    have hs3 := hbr3.size
    have hb := up hb hbr3
    obtain ⟨b5, c5⟩ := (show (Fact.var' (Con.raw 3)).holds _ _ from st3.at_ 5)
    have g5 := hfr.ge (s := 5) rfl c5.1
    obtain ⟨b6, c6⟩ := (show (Fact.var' (Con.raw 3)).holds _ _ from st3.at_ 6)
    have g6 := hfr.ge (s := 6) rfl c6.1
    have ne5_6 := hfr.apart (s := 5) (t := 6) rfl rfl (by decide) c5.1 c6.1
    have st : St 108 [(2, Fact.cell b2 (Con.fr 12 x)), (3, Fact.cell b3 (Con.fr 12 y)), (4, Fact.eq (.bool false)), (21, Fact.agg (Con.fr 12 x)), (23, Fact.agg (Con.fr 12 y)), (5, Fact.cell b5 (Con.raw 3)), (6, Fact.cell b6 (Con.raw 3))] a3 w3 := st3.to (fcs ⟨st3.at_ 2, fcs ⟨st3.at_ 3, fcs ⟨st3.at_ 4, fcs ⟨st3.at_ 21, fcs ⟨st3.at_ 23, fcs ⟨c5, fcs ⟨c6, fnl⟩⟩⟩⟩⟩⟩⟩)
    clear st3 hbr3 hfr c5 c6
    refine sym_store st 26 5 21 b5 (Con.raw 3) (Con.fr 12 x) [(2, Fact.cell b2 (Con.fr 12 x)), (3, Fact.cell b3 (Con.fr 12 y)), (4, Fact.eq (.bool false)), (23, Fact.agg (Con.fr 12 y)), (5, Fact.cell b5 (Con.fr 12 x)), (6, Fact.cell b6 (Con.raw 3))] rfl rfl rfl rfl rfl rfl info26 ?_ ?_
    · exact fcs ⟨.inr ⟨rfl, safe_cell _ (by omega)⟩, fcs ⟨.inr ⟨rfl, safe_cell _ (by omega)⟩, fcs ⟨.inr ⟨rfl, safe_eq _ _⟩, fcs ⟨.inr ⟨rfl, safe_agg _ _⟩, fcs ⟨.inl rfl, fcs ⟨.inr ⟨rfl, safe_cell _ (by omega)⟩, fnl⟩⟩⟩⟩⟩⟩
    clear st; intro w4 hB hsz4 st
    have hb := hB _ _ hb (by omega) (by omega)
    clear hB
    refine sym_store st 26 6 23 b6 (Con.raw 3) (Con.fr 12 y) [(2, Fact.cell b2 (Con.fr 12 x)), (3, Fact.cell b3 (Con.fr 12 y)), (4, Fact.eq (.bool false)), (5, Fact.cell b5 (Con.fr 12 x)), (6, Fact.cell b6 (Con.fr 12 y))] rfl rfl rfl rfl rfl rfl info26 ?_ ?_
    · exact fcs ⟨.inr ⟨rfl, safe_cell _ (by omega)⟩, fcs ⟨.inr ⟨rfl, safe_cell _ (by omega)⟩, fcs ⟨.inr ⟨rfl, safe_eq _ _⟩, fcs ⟨.inr ⟨rfl, safe_cell _ (by omega)⟩, fcs ⟨.inl rfl, fnl⟩⟩⟩⟩⟩
    clear st; intro w5 hB hsz5 st
    have hb := hB _ _ hb (by omega) (by omega)
    clear hB
    refine wpList_nil ?_
    refine then_normal ?_
    refine wp_seq ?_
    refine sym_region st [(25, Fact.agg (Con.fr 12 x)), (26, Fact.agg (Con.fr 12 y)), (27, Fact.two (Fact.agg (Con.tri 1 1 false 0 0)) (Fact.eq (.int .i64 8))), (24, Fact.two (Fact.agg (Con.tri 1 1 false 0 0)) (Fact.eq (.int .i64 8))), (28, Fact.agg (Con.tri 1 1 false 0 0)), (29, Fact.eq (.int .i64 8)), (7, Fact.var' (Con.raw 3))] [7] 7 (by kernel_rfl) (by kernel_rfl) (by kernel_rfl) (Nat.le_of_ble_eq_true rfl) (by kernel_rfl) rfl rfl ?_ ?_
    · refine fcs ⟨Ob.new_ (ob_read 26 5 25 (Con.fr 12 x) rfl rfl (.inl rfl) (by kernel_rfl) points_cell rfl row26 info26) (by kernel_rfl), ?_⟩
      refine fcs ⟨Ob.new_ (ob_read 26 6 26 (Con.fr 12 y) rfl rfl (.inl rfl) (by kernel_rfl) points_cell rfl row26 info26) (by kernel_rfl), ?_⟩
      refine fcs ⟨Ob.new_ (ob_call2 17 25 26 27 _ rfl rfl (.inl rfl) (by kernel_rfl) (by kernel_rfl) (by kernel_rfl) (q_div0 12 12 x y h0 (by omega))) (by kernel_rfl), ?_⟩
      refine fcs ⟨Ob.new_ (ob_copy 27 24 (.inl rfl) rfl (.inl rfl) (by kernel_rfl) rfl) (by kernel_rfl), ?_⟩
      refine fcs ⟨Ob.new_ (ob_fst 24 28 (Fact.agg (Con.tri 1 1 false 0 0)) (Fact.eq (.int .i64 8)) rfl rfl (.inl rfl) (by kernel_rfl) rfl rfl) (by kernel_rfl), ?_⟩
      refine fcs ⟨Ob.new_ (ob_snd 24 29 (Fact.agg (Con.tri 1 1 false 0 0)) (Fact.eq (.int .i64 8)) rfl rfl (.inl rfl) (by kernel_rfl) rfl rfl) (by kernel_rfl), ?_⟩
      refine fcs ⟨obn_new 26 7 _ [.bool false, .slice none 0 0, .slice none 0 0] rfl rfl rfl rfl rfl alloc26, ?_⟩
      exact fnl
    intro a6 w6 st6 hbr6 hfr
    have hs6 := hbr6.size
    have hb := up hb hbr6
    obtain ⟨b7, c7⟩ := (show (Fact.var' (Con.raw 3)).holds _ _ from st6.at_ 7)
    have g7 := hfr.ge (s := 7) rfl c7.1
    have st : St 108 [(2, Fact.cell b2 (Con.fr 12 x)), (3, Fact.cell b3 (Con.fr 12 y)), (4, Fact.eq (.bool false)), (5, Fact.cell b5 (Con.fr 12 x)), (6, Fact.cell b6 (Con.fr 12 y)), (28, Fact.agg (Con.tri 1 1 false 0 0)), (29, Fact.eq (.int .i64 8)), (7, Fact.cell b7 (Con.raw 3))] a6 w6 := st6.to (fcs ⟨st6.at_ 2, fcs ⟨st6.at_ 3, fcs ⟨st6.at_ 4, fcs ⟨st6.at_ 5, fcs ⟨st6.at_ 6, fcs ⟨st6.at_ 28, fcs ⟨st6.at_ 29, fcs ⟨c7, fnl⟩⟩⟩⟩⟩⟩⟩⟩)
    clear st6 hbr6 hfr c7
    refine sym_store st 26 7 28 b7 (Con.raw 3) (Con.tri 1 1 false 0 0) [(2, Fact.cell b2 (Con.fr 12 x)), (3, Fact.cell b3 (Con.fr 12 y)), (4, Fact.eq (.bool false)), (5, Fact.cell b5 (Con.fr 12 x)), (6, Fact.cell b6 (Con.fr 12 y)), (29, Fact.eq (.int .i64 8)), (7, Fact.cell b7 (Con.tri 1 1 false 0 0))] rfl rfl rfl rfl rfl rfl info26 ?_ ?_
    · exact fcs ⟨.inr ⟨rfl, safe_cell _ (by omega)⟩, fcs ⟨.inr ⟨rfl, safe_cell _ (by omega)⟩, fcs ⟨.inr ⟨rfl, safe_eq _ _⟩, fcs ⟨.inr ⟨rfl, safe_cell _ (by omega)⟩, fcs ⟨.inr ⟨rfl, safe_cell _ (by omega)⟩, fcs ⟨.inr ⟨rfl, safe_eq _ _⟩, fcs ⟨.inl rfl, fnl⟩⟩⟩⟩⟩⟩⟩
    clear st; intro w7 hB hsz7 st
    have hb := hB _ _ hb (by omega) (by omega)
    clear hB
    refine sym_op st 8 (Fact.eq (.int .i64 8)) rfl (Nat.le_of_ble_eq_true rfl) rfl rfl (by kernel_rfl) (ob_copy 29 8 (.inr rfl) rfl (.inl rfl) (by kernel_rfl) rfl) ?_
    clear st; intro a8 w8 hbr st; have hs8 := hbr.size; have hb := up hb hbr; clear hbr
    refine wpList_nil ?_
    refine then_normal ?_
    refine wp_seq ?_
    refine sym_region st [(31, Fact.agg (Con.fr 12 x)), (32, Fact.agg (Con.fr 12 y)), (33, Fact.two (Fact.agg (Con.tri 1 1 false 0 0)) (Fact.eq (.int .i64 8))), (30, Fact.two (Fact.agg (Con.tri 1 1 false 0 0)) (Fact.eq (.int .i64 8))), (34, Fact.agg (Con.tri 1 1 false 0 0)), (35, Fact.eq (.int .i64 8)), (9, Fact.var' (Con.raw 3))] [9] 7 (by kernel_rfl) (by kernel_rfl) (by kernel_rfl) (Nat.le_of_ble_eq_true rfl) (by kernel_rfl) rfl rfl ?_ ?_
    · refine fcs ⟨Ob.new_ (ob_read 26 2 31 (Con.fr 12 x) rfl rfl (.inl rfl) (by kernel_rfl) points_cell rfl row26 info26) (by kernel_rfl), ?_⟩
      refine fcs ⟨Ob.new_ (ob_read 26 3 32 (Con.fr 12 y) rfl rfl (.inl rfl) (by kernel_rfl) points_cell rfl row26 info26) (by kernel_rfl), ?_⟩
      refine fcs ⟨Ob.new_ (ob_call2 20 31 32 33 _ rfl rfl (.inl rfl) (by kernel_rfl) (by kernel_rfl) (by kernel_rfl) (z_div0 12 12 x y h0 (by omega))) (by kernel_rfl), ?_⟩
      refine fcs ⟨Ob.new_ (ob_copy 33 30 (.inl rfl) rfl (.inl rfl) (by kernel_rfl) rfl) (by kernel_rfl), ?_⟩
      refine fcs ⟨Ob.new_ (ob_fst 30 34 (Fact.agg (Con.tri 1 1 false 0 0)) (Fact.eq (.int .i64 8)) rfl rfl (.inl rfl) (by kernel_rfl) rfl rfl) (by kernel_rfl), ?_⟩
      refine fcs ⟨Ob.new_ (ob_snd 30 35 (Fact.agg (Con.tri 1 1 false 0 0)) (Fact.eq (.int .i64 8)) rfl rfl (.inl rfl) (by kernel_rfl) rfl rfl) (by kernel_rfl), ?_⟩
      refine fcs ⟨obn_new 26 9 _ [.bool false, .slice none 0 0, .slice none 0 0] rfl rfl rfl rfl rfl alloc26, ?_⟩
      exact fnl
    intro a9 w9 st9 hbr9 hfr
    have hs9 := hbr9.size
    have hb := up hb hbr9
    obtain ⟨b9, c9⟩ := (show (Fact.var' (Con.raw 3)).holds _ _ from st9.at_ 9)
    have g9 := hfr.ge (s := 9) rfl c9.1
    have st : St 108 [(2, Fact.cell b2 (Con.fr 12 x)), (3, Fact.cell b3 (Con.fr 12 y)), (4, Fact.eq (.bool false)), (5, Fact.cell b5 (Con.fr 12 x)), (6, Fact.cell b6 (Con.fr 12 y)), (7, Fact.cell b7 (Con.tri 1 1 false 0 0)), (8, Fact.eq (.int .i64 8)), (34, Fact.agg (Con.tri 1 1 false 0 0)), (35, Fact.eq (.int .i64 8)), (9, Fact.cell b9 (Con.raw 3))] a9 w9 := st9.to (fcs ⟨st9.at_ 2, fcs ⟨st9.at_ 3, fcs ⟨st9.at_ 4, fcs ⟨st9.at_ 5, fcs ⟨st9.at_ 6, fcs ⟨st9.at_ 7, fcs ⟨st9.at_ 8, fcs ⟨st9.at_ 34, fcs ⟨st9.at_ 35, fcs ⟨c9, fnl⟩⟩⟩⟩⟩⟩⟩⟩⟩⟩)
    clear st9 hbr9 hfr c9
    refine sym_store st 26 9 34 b9 (Con.raw 3) (Con.tri 1 1 false 0 0) [(2, Fact.cell b2 (Con.fr 12 x)), (3, Fact.cell b3 (Con.fr 12 y)), (4, Fact.eq (.bool false)), (5, Fact.cell b5 (Con.fr 12 x)), (6, Fact.cell b6 (Con.fr 12 y)), (7, Fact.cell b7 (Con.tri 1 1 false 0 0)), (8, Fact.eq (.int .i64 8)), (35, Fact.eq (.int .i64 8)), (9, Fact.cell b9 (Con.tri 1 1 false 0 0))] rfl rfl rfl rfl rfl rfl info26 ?_ ?_
    · exact fcs ⟨.inr ⟨rfl, safe_cell _ (by omega)⟩, fcs ⟨.inr ⟨rfl, safe_cell _ (by omega)⟩, fcs ⟨.inr ⟨rfl, safe_eq _ _⟩, fcs ⟨.inr ⟨rfl, safe_cell _ (by omega)⟩, fcs ⟨.inr ⟨rfl, safe_cell _ (by omega)⟩, fcs ⟨.inr ⟨rfl, safe_cell _ (by omega)⟩, fcs ⟨.inr ⟨rfl, safe_eq _ _⟩, fcs ⟨.inr ⟨rfl, safe_eq _ _⟩, fcs ⟨.inl rfl, fnl⟩⟩⟩⟩⟩⟩⟩⟩⟩
    clear st; intro w10 hB hsz10 st
    have hb := hB _ _ hb (by omega) (by omega)
    clear hB
    refine sym_op st 10 (Fact.eq (.int .i64 8)) rfl (Nat.le_of_ble_eq_true rfl) rfl rfl (by kernel_rfl) (ob_copy 35 10 (.inr rfl) rfl (.inl rfl) (by kernel_rfl) rfl) ?_
    clear st; intro a11 w11 hbr st; have hs11 := hbr.size; have hb := up hb hbr; clear hbr
    refine wpList_nil ?_
    refine then_normal ?_
    refine wp_seq ?_
    refine wp_seq ?_
    refine sym_region st [(36, Fact.eq (.int .i64 8)), (37, Fact.eq (.int .i64 8)), (38, Fact.eq (.bool false)), (39, Fact.eq (.bool false)), (40, Fact.agg (Con.tri 1 1 false 0 0)), (41, Fact.agg (Con.tri 1 1 false 0 0)), (42, Fact.eq (.bool true)), (43, Fact.eq (.bool false)), (44, Fact.eq (.bool false))] [] 9 (by kernel_rfl) (by kernel_rfl) (by kernel_rfl) (Nat.le_of_ble_eq_true rfl) (by kernel_rfl) rfl rfl ?_ ?_
    · refine fcs ⟨Ob.new_ (ob_copy 8 36 (.inl rfl) rfl (.inl rfl) (by kernel_rfl) rfl) (by kernel_rfl), ?_⟩
      refine fcs ⟨Ob.new_ (ob_copy 10 37 (.inl rfl) rfl (.inl rfl) (by kernel_rfl) rfl) (by kernel_rfl), ?_⟩
      refine fcs ⟨Ob.new_ (ob_nei 36 37 38 .i64 33 _ 8 8 false rfl rfl rfl (.inl rfl) (by kernel_rfl) (by kernel_rfl) rfl rfl rfl) (by kernel_rfl), ?_⟩
      refine fcs ⟨Ob.new_ (ob_copy 38 39 (.inl rfl) rfl (.inl rfl) (by kernel_rfl) rfl) (by kernel_rfl), ?_⟩
      refine fcs ⟨Ob.new_ (ob_read 26 7 40 (Con.tri 1 1 false 0 0) rfl rfl (.inr ⟨_, _, _, rfl, rfl, by kernel_rfl, by decide, rfl⟩) (by kernel_rfl) points_cell rfl row26 info26) (by kernel_rfl), ?_⟩
      refine fcs ⟨Ob.new_ (ob_read 26 9 41 (Con.tri 1 1 false 0 0) rfl rfl (.inr ⟨_, _, _, rfl, rfl, by kernel_rfl, by decide, rfl⟩) (by kernel_rfl) points_cell rfl row26 info26) (by kernel_rfl), ?_⟩
      refine fcs ⟨Ob.new_ (ob_call2 13 40 41 42 _ rfl rfl (.inr ⟨_, _, _, rfl, rfl, by kernel_rfl, by decide, rfl⟩) (by kernel_rfl) (by kernel_rfl) (by kernel_rfl) (z_same3 1 1 1 1 false 0 0)) (by kernel_rfl), ?_⟩
      refine fcs ⟨Ob.new_ (ob_not 42 43 true false rfl rfl rfl (.inr ⟨_, _, _, rfl, rfl, by kernel_rfl, by decide, rfl⟩) (by kernel_rfl) rfl rfl) (by kernel_rfl), ?_⟩
      refine fcs ⟨Ob.new_ (ob_pick_else 39 43 44 (.bool true) rfl rfl (.inl rfl) (by kernel_rfl) (by kernel_rfl) rfl rfl) (by kernel_rfl), ?_⟩
      exact fnl
    intro a12 w12 st12 hbr12 hfr
    have hs12 := hbr12.size
    have hb := up hb hbr12
    have st : St 108 [(2, Fact.cell b2 (Con.fr 12 x)), (3, Fact.cell b3 (Con.fr 12 y)), (4, Fact.eq (.bool false)), (5, Fact.cell b5 (Con.fr 12 x)), (6, Fact.cell b6 (Con.fr 12 y)), (44, Fact.eq (.bool false))] a12 w12 := st12.to (fcs ⟨st12.at_ 2, fcs ⟨st12.at_ 3, fcs ⟨st12.at_ 4, fcs ⟨st12.at_ 5, fcs ⟨st12.at_ 6, fcs ⟨st12.at_ 44, fnl⟩⟩⟩⟩⟩⟩)
    clear st12 hbr12 hfr
    refine wpList_nil ?_
    refine then_normal ?_
    refine wp_cond_false (st.at_ 44) ?_
    refine wp_skip ?_
    refine then_normal ?_
    refine wp_seq ?_
    refine wp_seq ?_
    refine sym_region st [(45, Fact.agg (Con.fr 12 x)), (46, Fact.agg (Con.fr 12 y)), (47, Fact.agg (Con.fr 25 (x + y))), (48, Fact.agg (Con.fr 12 x)), (49, Fact.agg (Con.fr 12 y)), (50, Fact.agg (Con.fr 25 (x + y))), (51, Fact.eq (.bool true)), (52, Fact.eq (.bool false)), (53, Fact.eq (.bool false)), (54, Fact.agg (Con.fr 12 x)), (55, Fact.agg (Con.fr 12 y)), (56, Fact.agg (Con.fr 25 (x - y))), (57, Fact.agg (Con.fr 12 x)), (58, Fact.agg (Con.fr 12 y)), (59, Fact.agg (Con.fr 25 (x - y))), (60, Fact.eq (.bool true)), (61, Fact.eq (.bool false)), (62, Fact.eq (.bool false)), (63, Fact.eq (.bool false)), (64, Fact.agg (Con.fr 12 x)), (65, Fact.agg (Con.fr 12 y)), (66, Fact.agg (Con.fr 24 (x * y))), (67, Fact.agg (Con.fr 12 x)), (68, Fact.agg (Con.fr 12 y)), (69, Fact.agg (Con.fr 24 (x * y))), (70, Fact.eq (.bool true)), (71, Fact.eq (.bool false)), (72, Fact.eq (.bool false)), (73, Fact.eq (.bool false)), (74, Fact.agg (Con.fr 12 x)), (75, Fact.agg (Con.fr 12 (-x))), (76, Fact.agg (Con.fr 12 x)), (77, Fact.agg (Con.fr 12 (-x))), (78, Fact.eq (.bool true)), (79, Fact.eq (.bool false)), (80, Fact.eq (.bool false))] [] 36 (by kernel_rfl) (by kernel_rfl) (by kernel_rfl) (Nat.le_of_ble_eq_true rfl) (by kernel_rfl) rfl rfl ?_ ?_
    · refine fcs ⟨Ob.new_ (ob_read 26 5 45 (Con.fr 12 x) rfl rfl (.inl rfl) (by kernel_rfl) points_cell rfl row26 info26) (by kernel_rfl), ?_⟩
      refine fcs ⟨Ob.new_ (ob_read 26 6 46 (Con.fr 12 y) rfl rfl (.inl rfl) (by kernel_rfl) points_cell rfl row26 info26) (by kernel_rfl), ?_⟩
      refine fcs ⟨Ob.new_ (ob_call2 10 45 46 47 _ rfl rfl (.inl rfl) (by kernel_rfl) (by kernel_rfl) (by kernel_rfl) (q_add 12 12 x y (by omega))) (by kernel_rfl), ?_⟩
      refine fcs ⟨Ob.new_ (ob_read 26 2 48 (Con.fr 12 x) rfl rfl (.inl rfl) (by kernel_rfl) points_cell rfl row26 info26) (by kernel_rfl), ?_⟩
      refine fcs ⟨Ob.new_ (ob_read 26 3 49 (Con.fr 12 y) rfl rfl (.inl rfl) (by kernel_rfl) points_cell rfl row26 info26) (by kernel_rfl), ?_⟩
      refine fcs ⟨Ob.new_ (ob_call2 21 48 49 50 _ rfl rfl (.inl rfl) (by kernel_rfl) (by kernel_rfl) (by kernel_rfl) (z_add 12 12 x y (by omega))) (by kernel_rfl), ?_⟩
      refine fcs ⟨Ob.new_ (ob_call2 13 47 50 51 _ rfl rfl (.inl rfl) (by kernel_rfl) (by kernel_rfl) (by kernel_rfl) (z_same 25 25 (x + y) (x + y) true (decide_eq_true rfl))) (by kernel_rfl), ?_⟩
      refine fcs ⟨Ob.new_ (ob_not 51 52 true false rfl rfl rfl (.inl rfl) (by kernel_rfl) rfl rfl) (by kernel_rfl), ?_⟩
      refine fcs ⟨Ob.new_ (ob_copy 52 53 (.inl rfl) rfl (.inl rfl) (by kernel_rfl) rfl) (by kernel_rfl), ?_⟩
      refine fcs ⟨Ob.new_ (ob_read 26 5 54 (Con.fr 12 x) rfl rfl (.inr ⟨_, _, _, rfl, rfl, by kernel_rfl, by decide, rfl⟩) (by kernel_rfl) points_cell rfl row26 info26) (by kernel_rfl), ?_⟩
      refine fcs ⟨Ob.new_ (ob_read 26 6 55 (Con.fr 12 y) rfl rfl (.inr ⟨_, _, _, rfl, rfl, by kernel_rfl, by decide, rfl⟩) (by kernel_rfl) points_cell rfl row26 info26) (by kernel_rfl), ?_⟩
      refine fcs ⟨Ob.new_ (ob_call2 14 54 55 56 _ rfl rfl (.inr ⟨_, _, _, rfl, rfl, by kernel_rfl, by decide, rfl⟩) (by kernel_rfl) (by kernel_rfl) (by kernel_rfl) (q_sub 12 12 x y (by omega))) (by kernel_rfl), ?_⟩
      refine fcs ⟨Ob.new_ (ob_read 26 2 57 (Con.fr 12 x) rfl rfl (.inr ⟨_, _, _, rfl, rfl, by kernel_rfl, by decide, rfl⟩) (by kernel_rfl) points_cell rfl row26 info26) (by kernel_rfl), ?_⟩
      refine fcs ⟨Ob.new_ (ob_read 26 3 58 (Con.fr 12 y) rfl rfl (.inr ⟨_, _, _, rfl, rfl, by kernel_rfl, by decide, rfl⟩) (by kernel_rfl) points_cell rfl row26 info26) (by kernel_rfl), ?_⟩
      refine fcs ⟨Ob.new_ (ob_call2 22 57 58 59 _ rfl rfl (.inr ⟨_, _, _, rfl, rfl, by kernel_rfl, by decide, rfl⟩) (by kernel_rfl) (by kernel_rfl) (by kernel_rfl) (z_sub 12 12 x y (by omega))) (by kernel_rfl), ?_⟩
      refine fcs ⟨Ob.new_ (ob_call2 13 56 59 60 _ rfl rfl (.inr ⟨_, _, _, rfl, rfl, by kernel_rfl, by decide, rfl⟩) (by kernel_rfl) (by kernel_rfl) (by kernel_rfl) (z_same 25 25 (x - y) (x - y) true (decide_eq_true rfl))) (by kernel_rfl), ?_⟩
      refine fcs ⟨Ob.new_ (ob_not 60 61 true false rfl rfl rfl (.inr ⟨_, _, _, rfl, rfl, by kernel_rfl, by decide, rfl⟩) (by kernel_rfl) rfl rfl) (by kernel_rfl), ?_⟩
      refine fcs ⟨Ob.new_ (ob_pick_else 53 61 62 (.bool true) rfl rfl (.inl rfl) (by kernel_rfl) (by kernel_rfl) rfl rfl) (by kernel_rfl), ?_⟩
      refine fcs ⟨Ob.new_ (ob_copy 62 63 (.inl rfl) rfl (.inl rfl) (by kernel_rfl) rfl) (by kernel_rfl), ?_⟩
      refine fcs ⟨Ob.new_ (ob_read 26 5 64 (Con.fr 12 x) rfl rfl (.inr ⟨_, _, _, rfl, rfl, by kernel_rfl, by decide, rfl⟩) (by kernel_rfl) points_cell rfl row26 info26) (by kernel_rfl), ?_⟩
      refine fcs ⟨Ob.new_ (ob_read 26 6 65 (Con.fr 12 y) rfl rfl (.inr ⟨_, _, _, rfl, rfl, by kernel_rfl, by decide, rfl⟩) (by kernel_rfl) points_cell rfl row26 info26) (by kernel_rfl), ?_⟩
      refine fcs ⟨Ob.new_ (ob_call2 11 64 65 66 _ rfl rfl (.inr ⟨_, _, _, rfl, rfl, by kernel_rfl, by decide, rfl⟩) (by kernel_rfl) (by kernel_rfl) (by kernel_rfl) (q_mul 12 12 x y (by omega))) (by kernel_rfl), ?_⟩
      refine fcs ⟨Ob.new_ (ob_read 26 2 67 (Con.fr 12 x) rfl rfl (.inr ⟨_, _, _, rfl, rfl, by kernel_rfl, by decide, rfl⟩) (by kernel_rfl) points_cell rfl row26 info26) (by kernel_rfl), ?_⟩
      refine fcs ⟨Ob.new_ (ob_read 26 3 68 (Con.fr 12 y) rfl rfl (.inr ⟨_, _, _, rfl, rfl, by kernel_rfl, by decide, rfl⟩) (by kernel_rfl) points_cell rfl row26 info26) (by kernel_rfl), ?_⟩
      refine fcs ⟨Ob.new_ (ob_call2 23 67 68 69 _ rfl rfl (.inr ⟨_, _, _, rfl, rfl, by kernel_rfl, by decide, rfl⟩) (by kernel_rfl) (by kernel_rfl) (by kernel_rfl) (z_mul 12 12 x y (by omega))) (by kernel_rfl), ?_⟩
      refine fcs ⟨Ob.new_ (ob_call2 13 66 69 70 _ rfl rfl (.inr ⟨_, _, _, rfl, rfl, by kernel_rfl, by decide, rfl⟩) (by kernel_rfl) (by kernel_rfl) (by kernel_rfl) (z_same 24 24 (x * y) (x * y) true (decide_eq_true rfl))) (by kernel_rfl), ?_⟩
      refine fcs ⟨Ob.new_ (ob_not 70 71 true false rfl rfl rfl (.inr ⟨_, _, _, rfl, rfl, by kernel_rfl, by decide, rfl⟩) (by kernel_rfl) rfl rfl) (by kernel_rfl), ?_⟩
      refine fcs ⟨Ob.new_ (ob_pick_else 63 71 72 (.bool true) rfl rfl (.inl rfl) (by kernel_rfl) (by kernel_rfl) rfl rfl) (by kernel_rfl), ?_⟩
      refine fcs ⟨Ob.new_ (ob_copy 72 73 (.inl rfl) rfl (.inl rfl) (by kernel_rfl) rfl) (by kernel_rfl), ?_⟩
      refine fcs ⟨Ob.new_ (ob_read 26 5 74 (Con.fr 12 x) rfl rfl (.inr ⟨_, _, _, rfl, rfl, by kernel_rfl, by decide, rfl⟩) (by kernel_rfl) points_cell rfl row26 info26) (by kernel_rfl), ?_⟩
      refine fcs ⟨Ob.new_ (ob_call1 15 74 75 _ rfl rfl (.inr ⟨_, _, _, rfl, rfl, by kernel_rfl, by decide, rfl⟩) (by kernel_rfl) (by kernel_rfl) (q_neg 12 x)) (by kernel_rfl), ?_⟩
      refine fcs ⟨Ob.new_ (ob_read 26 2 76 (Con.fr 12 x) rfl rfl (.inr ⟨_, _, _, rfl, rfl, by kernel_rfl, by decide, rfl⟩) (by kernel_rfl) points_cell rfl row26 info26) (by kernel_rfl), ?_⟩
      refine fcs ⟨Ob.new_ (ob_call1 24 76 77 _ rfl rfl (.inr ⟨_, _, _, rfl, rfl, by kernel_rfl, by decide, rfl⟩) (by kernel_rfl) (by kernel_rfl) (z_neg 12 x)) (by kernel_rfl), ?_⟩
      refine fcs ⟨Ob.new_ (ob_call2 13 75 77 78 _ rfl rfl (.inr ⟨_, _, _, rfl, rfl, by kernel_rfl, by decide, rfl⟩) (by kernel_rfl) (by kernel_rfl) (by kernel_rfl) (z_same 12 12 (-x) (-x) true (decide_eq_true rfl))) (by kernel_rfl), ?_⟩
      refine fcs ⟨Ob.new_ (ob_not 78 79 true false rfl rfl rfl (.inr ⟨_, _, _, rfl, rfl, by kernel_rfl, by decide, rfl⟩) (by kernel_rfl) rfl rfl) (by kernel_rfl), ?_⟩
      refine fcs ⟨Ob.new_ (ob_pick_else 73 79 80 (.bool true) rfl rfl (.inl rfl) (by kernel_rfl) (by kernel_rfl) rfl rfl) (by kernel_rfl), ?_⟩
      exact fnl
    intro a13 w13 st13 hbr13 hfr
    have hs13 := hbr13.size
    have hb := up hb hbr13
    have st : St 108 [(2, Fact.cell b2 (Con.fr 12 x)), (3, Fact.cell b3 (Con.fr 12 y)), (4, Fact.eq (.bool false)), (5, Fact.cell b5 (Con.fr 12 x)), (6, Fact.cell b6 (Con.fr 12 y)), (80, Fact.eq (.bool false))] a13 w13 := st13.to (fcs ⟨st13.at_ 2, fcs ⟨st13.at_ 3, fcs ⟨st13.at_ 4, fcs ⟨st13.at_ 5, fcs ⟨st13.at_ 6, fcs ⟨st13.at_ 80, fnl⟩⟩⟩⟩⟩⟩)
    clear st13 hbr13 hfr
    refine wpList_nil ?_
    refine then_normal ?_
    refine wp_cond_false (st.at_ 80) ?_
    refine wp_skip ?_
    refine then_normal ?_
    refine wp_seq ?_
    have st := st.to (ks' := [(2, Fact.cell b2 (Con.fr 12 x)), (3, Fact.cell b3 (Con.fr 12 y)), (5, Fact.cell b5 (Con.fr 12 x)), (6, Fact.cell b6 (Con.fr 12 y)), (80, Fact.eq (.bool false))]) (fcs ⟨st.at_ 2, fcs ⟨st.at_ 3, fcs ⟨st.at_ 5, fcs ⟨st.at_ 6, fcs ⟨st.at_ 80, fnl⟩⟩⟩⟩⟩)
    refine sym_region st [(81, Fact.agg (Con.fr 12 x)), (82, Fact.agg (Con.fr 12 y)), (83, Fact.eq (.int .i64 (Rt.cp x y))), (84, Fact.agg (Con.fr 12 x)), (85, Fact.agg (Con.fr 12 y)), (86, Fact.eq (.int .i64 (Rt.cp x y))), (87, Fact.eq (.bool true)), (88, Fact.eq (.bool true)), (89, Fact.agg (Con.fr 12 x)), (90, Fact.eq (.int .i64 (Rt.sn x))), (91, Fact.agg (Con.fr 12 x)), (92, Fact.eq (.int .i64 (Rt.sn x))), (93, Fact.eq (.bool true)), (94, Fact.eq (.bool true)), (95, Fact.eq (.bool true)), (96, Fact.agg (Con.fr 12 x)), (97, Fact.agg (Con.fr 12 x)), (98, Fact.eq (.bool true)), (99, Fact.eq (.bool true)), (100, Fact.eq (.bool true)), (101, Fact.agg (Con.fr 12 y)), (102, Fact.agg (Con.fr 12 y)), (103, Fact.eq (.bool true)), (104, Fact.eq (.bool true)), (105, Fact.eq (.bool true)), (106, Fact.eq (.bool true)), (107, Fact.eq (.bool true)), (4, Fact.eq (.bool true))] [] 28 (by kernel_rfl) (by kernel_rfl) (by kernel_rfl) (Nat.le_of_ble_eq_true rfl) (by kernel_rfl) rfl rfl ?_ ?_
    · refine fcs ⟨Ob.new_ (ob_read 26 5 81 (Con.fr 12 x) rfl rfl (.inl rfl) (by kernel_rfl) points_cell rfl row26 info26) (by kernel_rfl), ?_⟩
      refine fcs ⟨Ob.new_ (ob_read 26 6 82 (Con.fr 12 y) rfl rfl (.inl rfl) (by kernel_rfl) points_cell rfl row26 info26) (by kernel_rfl), ?_⟩
      refine fcs ⟨Ob.new_ (ob_call2 25 81 82 83 _ rfl rfl (.inl rfl) (by kernel_rfl) (by kernel_rfl) (by kernel_rfl) (q_cmp 12 12 x y (by omega))) (by kernel_rfl), ?_⟩
      refine fcs ⟨Ob.new_ (ob_read 26 2 84 (Con.fr 12 x) rfl rfl (.inl rfl) (by kernel_rfl) points_cell rfl row26 info26) (by kernel_rfl), ?_⟩
      refine fcs ⟨Ob.new_ (ob_read 26 3 85 (Con.fr 12 y) rfl rfl (.inl rfl) (by kernel_rfl) points_cell rfl row26 info26) (by kernel_rfl), ?_⟩
      refine fcs ⟨Ob.new_ (ob_call2 26 84 85 86 _ rfl rfl (.inl rfl) (by kernel_rfl) (by kernel_rfl) (by kernel_rfl) (z_cmp 12 12 x y (by omega))) (by kernel_rfl), ?_⟩
      refine fcs ⟨Ob.new_ (ob_eqi 83 86 87 .i64 3 _ (Rt.cp x y) (Rt.cp x y) true (beq_self_eq_true _) rfl rfl (.inl rfl) (by kernel_rfl) (by kernel_rfl) rfl rfl rfl) (by kernel_rfl), ?_⟩
      refine fcs ⟨Ob.new_ (ob_copy 87 88 (.inl rfl) rfl (.inl rfl) (by kernel_rfl) rfl) (by kernel_rfl), ?_⟩
      refine fcs ⟨Ob.new_ (ob_read 26 5 89 (Con.fr 12 x) rfl rfl (.inr ⟨_, _, _, rfl, rfl, by kernel_rfl, by decide, rfl⟩) (by kernel_rfl) points_cell rfl row26 info26) (by kernel_rfl), ?_⟩
      refine fcs ⟨Ob.new_ (ob_call1 18 89 90 _ rfl rfl (.inr ⟨_, _, _, rfl, rfl, by kernel_rfl, by decide, rfl⟩) (by kernel_rfl) (by kernel_rfl) (q_sign 12 x)) (by kernel_rfl), ?_⟩
      refine fcs ⟨Ob.new_ (ob_read 26 2 91 (Con.fr 12 x) rfl rfl (.inr ⟨_, _, _, rfl, rfl, by kernel_rfl, by decide, rfl⟩) (by kernel_rfl) points_cell rfl row26 info26) (by kernel_rfl), ?_⟩
      refine fcs ⟨Ob.new_ (ob_call1 27 91 92 _ rfl rfl (.inr ⟨_, _, _, rfl, rfl, by kernel_rfl, by decide, rfl⟩) (by kernel_rfl) (by kernel_rfl) (z_sign 12 x)) (by kernel_rfl), ?_⟩
      refine fcs ⟨Ob.new_ (ob_eqi 90 92 93 .i64 3 _ (Rt.sn x) (Rt.sn x) true (beq_self_eq_true _) rfl rfl (.inr ⟨_, _, _, rfl, rfl, by kernel_rfl, by decide, rfl⟩) (by kernel_rfl) (by kernel_rfl) rfl rfl rfl) (by kernel_rfl), ?_⟩
      refine fcs ⟨Ob.new_ (ob_pick 88 93 94 _ rfl rfl (.inl rfl) (by kernel_rfl) (by kernel_rfl) rfl rfl) (by kernel_rfl), ?_⟩
      refine fcs ⟨Ob.new_ (ob_copy 94 95 (.inl rfl) rfl (.inl rfl) (by kernel_rfl) rfl) (by kernel_rfl), ?_⟩
      refine fcs ⟨Ob.new_ (ob_read 26 5 96 (Con.fr 12 x) rfl rfl (.inr ⟨_, _, _, rfl, rfl, by kernel_rfl, by decide, rfl⟩) (by kernel_rfl) points_cell rfl row26 info26) (by kernel_rfl), ?_⟩
      refine fcs ⟨Ob.new_ (ob_read 26 2 97 (Con.fr 12 x) rfl rfl (.inr ⟨_, _, _, rfl, rfl, by kernel_rfl, by decide, rfl⟩) (by kernel_rfl) points_cell rfl row26 info26) (by kernel_rfl), ?_⟩
      refine fcs ⟨Ob.new_ (ob_call2 13 96 97 98 _ rfl rfl (.inr ⟨_, _, _, rfl, rfl, by kernel_rfl, by decide, rfl⟩) (by kernel_rfl) (by kernel_rfl) (by kernel_rfl) (z_same 12 12 x x true (decide_eq_true rfl))) (by kernel_rfl), ?_⟩
      refine fcs ⟨Ob.new_ (ob_pick 95 98 99 _ rfl rfl (.inl rfl) (by kernel_rfl) (by kernel_rfl) rfl rfl) (by kernel_rfl), ?_⟩
      refine fcs ⟨Ob.new_ (ob_copy 99 100 (.inl rfl) rfl (.inl rfl) (by kernel_rfl) rfl) (by kernel_rfl), ?_⟩
      refine fcs ⟨Ob.new_ (ob_read 26 6 101 (Con.fr 12 y) rfl rfl (.inr ⟨_, _, _, rfl, rfl, by kernel_rfl, by decide, rfl⟩) (by kernel_rfl) points_cell rfl row26 info26) (by kernel_rfl), ?_⟩
      refine fcs ⟨Ob.new_ (ob_read 26 3 102 (Con.fr 12 y) rfl rfl (.inr ⟨_, _, _, rfl, rfl, by kernel_rfl, by decide, rfl⟩) (by kernel_rfl) points_cell rfl row26 info26) (by kernel_rfl), ?_⟩
      refine fcs ⟨Ob.new_ (ob_call2 13 101 102 103 _ rfl rfl (.inr ⟨_, _, _, rfl, rfl, by kernel_rfl, by decide, rfl⟩) (by kernel_rfl) (by kernel_rfl) (by kernel_rfl) (z_same 12 12 y y true (decide_eq_true rfl))) (by kernel_rfl), ?_⟩
      refine fcs ⟨Ob.new_ (ob_pick 100 103 104 _ rfl rfl (.inl rfl) (by kernel_rfl) (by kernel_rfl) rfl rfl) (by kernel_rfl), ?_⟩
      refine fcs ⟨Ob.new_ (ob_copy 104 105 (.inl rfl) rfl (.inl rfl) (by kernel_rfl) rfl) (by kernel_rfl), ?_⟩
      refine fcs ⟨Ob.new_ (ob_call0 9 106 _ rfl rfl (.inr ⟨_, _, _, rfl, rfl, by kernel_rfl, by decide, rfl⟩) (by kernel_rfl) w_awake) (by kernel_rfl), ?_⟩
      refine fcs ⟨Ob.new_ (ob_pick 105 106 107 _ rfl rfl (.inl rfl) (by kernel_rfl) (by kernel_rfl) rfl rfl) (by kernel_rfl), ?_⟩
      refine fcs ⟨Ob.new_ (ob_copy 107 4 (.inr rfl) rfl (.inl rfl) (by kernel_rfl) rfl) (by kernel_rfl), ?_⟩
      exact fnl
    intro a14 w14 st14 hbr14 hfr
    have hs14 := hbr14.size
    have hb := up hb hbr14
    have st : St 108 [(4, Fact.eq (.bool true))] a14 w14 := st14.to (fcs ⟨st14.at_ 4, fnl⟩)
    clear st14 hbr14 hfr
    refine wpList_nil ?_
    refine then_normal ?_
    refine wp_ret ?_
    exact sym_ret1 rfl st.defers (resAt_tmp st 4) hb (fun _ h => h)
  · refine sym_calls 108 [(0, Fact.agg (Con.fr 12 x)), (1, Fact.agg (Con.fr 12 y))] Tryz.func4 rfl rfl (Nat.le_of_ble_eq_true rfl) (fcs ⟨⟨Nat.le_of_ble_eq_true rfl, hv0⟩, fcs ⟨⟨Nat.le_of_ble_eq_true rfl, hv1⟩, fnl⟩⟩) fun a st => ?_
    have hb := Below.refl w.heap.size w
    refine wp_seq ?_
    refine sym_region st [(2, Fact.var' (Con.fr 12 x)), (3, Fact.var' (Con.fr 12 y)), (4, Fact.eq (.bool false))] [2, 3] 3 (by kernel_rfl) (by kernel_rfl) (by kernel_rfl) (Nat.le_of_ble_eq_true rfl) (by kernel_rfl) rfl rfl ?_ ?_
    · refine fcs ⟨obn_box 26 0 2 _ (Con.fr 12 x) rfl rfl rfl (by kernel_rfl) rfl rfl, ?_⟩
      refine fcs ⟨obn_box 26 1 3 _ (Con.fr 12 y) rfl rfl rfl (by kernel_rfl) rfl rfl, ?_⟩
      refine fcs ⟨Ob.new_ (ob_const (.bool false) 4 (.inr rfl) rfl (.inl rfl) rfl) (by kernel_rfl), ?_⟩
      exact fnl
    intro a1 w1 st1 hbr1 hfr
    have hs1 := hbr1.size
    have hb := up hb hbr1
    obtain ⟨b2, c2⟩ := (show (Fact.var' (Con.fr 12 x)).holds _ _ from st1.at_ 2)
    have g2 := hfr.ge (s := 2) rfl c2.1
    obtain ⟨b3, c3⟩ := (show (Fact.var' (Con.fr 12 y)).holds _ _ from st1.at_ 3)
    have g3 := hfr.ge (s := 3) rfl c3.1
    have ne2_3 := hfr.apart (s := 2) (t := 3) rfl rfl (by decide) c2.1 c3.1
    have st : St 108 [(2, Fact.cell b2 (Con.fr 12 x)), (3, Fact.cell b3 (Con.fr 12 y)), (4, Fact.eq (.bool false))] a1 w1 := st1.to (fcs ⟨c2, fcs ⟨c3, fcs ⟨st1.at_ 4, fnl⟩⟩⟩)
    clear st1 hbr1 hfr c2 c3
    refine wpList_nil ?_
    refine then_normal ?_
    refine wp_seq ?_
    refine wp_seq ?_
    refine sym_region st [(11, Fact.agg (Con.fr 12 x)), (12, Fact.eq (.bool true)), (13, Fact.eq (.bool false)), (14, Fact.eq (.bool false)), (15, Fact.agg (Con.fr 12 y)), (16, Fact.eq (.bool true)), (17, Fact.eq (.bool false)), (18, Fact.eq (.bool false))] [] 8 (by kernel_rfl) (by kernel_rfl) (by kernel_rfl) (Nat.le_of_ble_eq_true rfl) (by kernel_rfl) rfl rfl ?_ ?_
    · refine fcs ⟨Ob.new_ (ob_read 26 2 11 (Con.fr 12 x) rfl rfl (.inl rfl) (by kernel_rfl) points_cell rfl row26 info26) (by kernel_rfl), ?_⟩
      refine fcs ⟨Ob.new_ (ob_call1 8 11 12 _ rfl rfl (.inl rfl) (by kernel_rfl) (by kernel_rfl) (w_fit_yes x)) (by kernel_rfl), ?_⟩
      refine fcs ⟨Ob.new_ (ob_not 12 13 true false rfl rfl rfl (.inl rfl) (by kernel_rfl) rfl rfl) (by kernel_rfl), ?_⟩
      refine fcs ⟨Ob.new_ (ob_copy 13 14 (.inl rfl) rfl (.inl rfl) (by kernel_rfl) rfl) (by kernel_rfl), ?_⟩
      refine fcs ⟨Ob.new_ (ob_read 26 3 15 (Con.fr 12 y) rfl rfl (.inr ⟨_, _, _, rfl, rfl, by kernel_rfl, by decide, rfl⟩) (by kernel_rfl) points_cell rfl row26 info26) (by kernel_rfl), ?_⟩
      refine fcs ⟨Ob.new_ (ob_call1 8 15 16 _ rfl rfl (.inr ⟨_, _, _, rfl, rfl, by kernel_rfl, by decide, rfl⟩) (by kernel_rfl) (by kernel_rfl) (w_fit_yes y)) (by kernel_rfl), ?_⟩
      refine fcs ⟨Ob.new_ (ob_not 16 17 true false rfl rfl rfl (.inr ⟨_, _, _, rfl, rfl, by kernel_rfl, by decide, rfl⟩) (by kernel_rfl) rfl rfl) (by kernel_rfl), ?_⟩
      refine fcs ⟨Ob.new_ (ob_pick_else 14 17 18 (.bool true) rfl rfl (.inl rfl) (by kernel_rfl) (by kernel_rfl) rfl rfl) (by kernel_rfl), ?_⟩
      exact fnl
    intro a2 w2 st2 hbr2 hfr
    have hs2 := hbr2.size
    have hb := up hb hbr2
    have st : St 108 [(2, Fact.cell b2 (Con.fr 12 x)), (3, Fact.cell b3 (Con.fr 12 y)), (4, Fact.eq (.bool false)), (18, Fact.eq (.bool false))] a2 w2 := st2.to (fcs ⟨st2.at_ 2, fcs ⟨st2.at_ 3, fcs ⟨st2.at_ 4, fcs ⟨st2.at_ 18, fnl⟩⟩⟩⟩)
    clear st2 hbr2 hfr
    refine wpList_nil ?_
    refine then_normal ?_
    refine wp_cond_false (st.at_ 18) ?_
    refine wp_skip ?_
    refine then_normal ?_
    refine wp_seq ?_
    refine sym_region st [(20, Fact.agg (Con.fr 12 x)), (21, Fact.agg (Con.fr 12 x)), (22, Fact.agg (Con.fr 12 y)), (23, Fact.agg (Con.fr 12 y)), (5, Fact.var' (Con.raw 3)), (6, Fact.var' (Con.raw 3))] [5, 6] 6 (by kernel_rfl) (by kernel_rfl) (by kernel_rfl) (Nat.le_of_ble_eq_true rfl) (by kernel_rfl) rfl rfl ?_ ?_
    · refine fcs ⟨Ob.new_ (ob_read 26 2 20 (Con.fr 12 x) rfl rfl (.inl rfl) (by kernel_rfl) points_cell rfl row26 info26) (by kernel_rfl), ?_⟩
      refine fcs ⟨Ob.new_ (ob_call1 19 20 21 _ rfl rfl (.inl rfl) (by kernel_rfl) (by kernel_rfl) (w_copied 12 x)) (by kernel_rfl), ?_⟩
      refine fcs ⟨Ob.new_ (ob_read 26 3 22 (Con.fr 12 y) rfl rfl (.inl rfl) (by kernel_rfl) points_cell rfl row26 info26) (by kernel_rfl), ?_⟩
      refine fcs ⟨Ob.new_ (ob_call1 19 22 23 _ rfl rfl (.inl rfl) (by kernel_rfl) (by kernel_rfl) (w_copied 12 y)) (by kernel_rfl), ?_⟩
      refine fcs ⟨obn_new 26 5 _ [.bool false, .slice none 0 0, .slice none 0 0] rfl rfl rfl rfl rfl alloc26, ?_⟩
      refine fcs ⟨obn_new 26 6 _ [.bool false, .slice none 0 0, .slice none 0 0] rfl rfl rfl rfl rfl alloc26, ?_⟩
      exact fnl
    intro a3 w3 st3 hbr3 hfr
    have hs3 := hbr3.size
    have hb := up hb hbr3
    obtain ⟨b5, c5⟩ := (show (Fact.var' (Con.raw 3)).holds _ _ from st3.at_ 5)
    have g5 := hfr.ge (s := 5) rfl c5.1
    obtain ⟨b6, c6⟩ := (show (Fact.var' (Con.raw 3)).holds _ _ from st3.at_ 6)
    have g6 := hfr.ge (s := 6) rfl c6.1
    have ne5_6 := hfr.apart (s := 5) (t := 6) rfl rfl (by decide) c5.1 c6.1
    have st : St 108 [(2, Fact.cell b2 (Con.fr 12 x)), (3, Fact.cell b3 (Con.fr 12 y)), (4, Fact.eq (.bool false)), (21, Fact.agg (Con.fr 12 x)), (23, Fact.agg (Con.fr 12 y)), (5, Fact.cell b5 (Con.raw 3)), (6, Fact.cell b6 (Con.raw 3))] a3 w3 := st3.to (fcs ⟨st3.at_ 2, fcs ⟨st3.at_ 3, fcs ⟨st3.at_ 4, fcs ⟨st3.at_ 21, fcs ⟨st3.at_ 23, fcs ⟨c5, fcs ⟨c6, fnl⟩⟩⟩⟩⟩⟩⟩)
    clear st3 hbr3 hfr c5 c6
    refine sym_store st 26 5 21 b5 (Con.raw 3) (Con.fr 12 x) [(2, Fact.cell b2 (Con.fr 12 x)), (3, Fact.cell b3 (Con.fr 12 y)), (4, Fact.eq (.bool false)), (23, Fact.agg (Con.fr 12 y)), (5, Fact.cell b5 (Con.fr 12 x)), (6, Fact.cell b6 (Con.raw 3))] rfl rfl rfl rfl rfl rfl info26 ?_ ?_
    · exact fcs ⟨.inr ⟨rfl, safe_cell _ (by omega)⟩, fcs ⟨.inr ⟨rfl, safe_cell _ (by omega)⟩, fcs ⟨.inr ⟨rfl, safe_eq _ _⟩, fcs ⟨.inr ⟨rfl, safe_agg _ _⟩, fcs ⟨.inl rfl, fcs ⟨.inr ⟨rfl, safe_cell _ (by omega)⟩, fnl⟩⟩⟩⟩⟩⟩
    clear st; intro w4 hB hsz4 st
    have hb := hB _ _ hb (by omega) (by omega)
    clear hB
    refine sym_store st 26 6 23 b6 (Con.raw 3) (Con.fr 12 y) [(2, Fact.cell b2 (Con.fr 12 x)), (3, Fact.cell b3 (Con.fr 12 y)), (4, Fact.eq (.bool false)), (5, Fact.cell b5 (Con.fr 12 x)), (6, Fact.cell b6 (Con.fr 12 y))] rfl rfl rfl rfl rfl rfl info26 ?_ ?_
    · exact fcs ⟨.inr ⟨rfl, safe_cell _ (by omega)⟩, fcs ⟨.inr ⟨rfl, safe_cell _ (by omega)⟩, fcs ⟨.inr ⟨rfl, safe_eq _ _⟩, fcs ⟨.inr ⟨rfl, safe_cell _ (by omega)⟩, fcs ⟨.inl rfl, fnl⟩⟩⟩⟩⟩
    clear st; intro w5 hB hsz5 st
    have hb := hB _ _ hb (by omega) (by omega)
    clear hB
    refine wpList_nil ?_
    refine then_normal ?_
    refine wp_seq ?_
    refine sym_region st [(25, Fact.agg (Con.fr 12 x)), (26, Fact.agg (Con.fr 12 y)), (27, Fact.two (Fact.agg (Con.fr 24 (x / y))) (Fact.eq (.int .i64 0))), (24, Fact.two (Fact.agg (Con.fr 24 (x / y))) (Fact.eq (.int .i64 0))), (28, Fact.agg (Con.fr 24 (x / y))), (29, Fact.eq (.int .i64 0)), (7, Fact.var' (Con.raw 3))] [7] 7 (by kernel_rfl) (by kernel_rfl) (by kernel_rfl) (Nat.le_of_ble_eq_true rfl) (by kernel_rfl) rfl rfl ?_ ?_
    · refine fcs ⟨Ob.new_ (ob_read 26 5 25 (Con.fr 12 x) rfl rfl (.inl rfl) (by kernel_rfl) points_cell rfl row26 info26) (by kernel_rfl), ?_⟩
      refine fcs ⟨Ob.new_ (ob_read 26 6 26 (Con.fr 12 y) rfl rfl (.inl rfl) (by kernel_rfl) points_cell rfl row26 info26) (by kernel_rfl), ?_⟩
      refine fcs ⟨Ob.new_ (ob_call2 17 25 26 27 _ rfl rfl (.inl rfl) (by kernel_rfl) (by kernel_rfl) (by kernel_rfl) (q_div 12 12 x y h0 (by omega))) (by kernel_rfl), ?_⟩
      refine fcs ⟨Ob.new_ (ob_copy 27 24 (.inl rfl) rfl (.inl rfl) (by kernel_rfl) rfl) (by kernel_rfl), ?_⟩
      refine fcs ⟨Ob.new_ (ob_fst 24 28 (Fact.agg (Con.fr 24 (x / y))) (Fact.eq (.int .i64 0)) rfl rfl (.inl rfl) (by kernel_rfl) rfl rfl) (by kernel_rfl), ?_⟩
      refine fcs ⟨Ob.new_ (ob_snd 24 29 (Fact.agg (Con.fr 24 (x / y))) (Fact.eq (.int .i64 0)) rfl rfl (.inl rfl) (by kernel_rfl) rfl rfl) (by kernel_rfl), ?_⟩
      refine fcs ⟨obn_new 26 7 _ [.bool false, .slice none 0 0, .slice none 0 0] rfl rfl rfl rfl rfl alloc26, ?_⟩
      exact fnl
    intro a6 w6 st6 hbr6 hfr
    have hs6 := hbr6.size
    have hb := up hb hbr6
    obtain ⟨b7, c7⟩ := (show (Fact.var' (Con.raw 3)).holds _ _ from st6.at_ 7)
    have g7 := hfr.ge (s := 7) rfl c7.1
    have st : St 108 [(2, Fact.cell b2 (Con.fr 12 x)), (3, Fact.cell b3 (Con.fr 12 y)), (4, Fact.eq (.bool false)), (5, Fact.cell b5 (Con.fr 12 x)), (6, Fact.cell b6 (Con.fr 12 y)), (28, Fact.agg (Con.fr 24 (x / y))), (29, Fact.eq (.int .i64 0)), (7, Fact.cell b7 (Con.raw 3))] a6 w6 := st6.to (fcs ⟨st6.at_ 2, fcs ⟨st6.at_ 3, fcs ⟨st6.at_ 4, fcs ⟨st6.at_ 5, fcs ⟨st6.at_ 6, fcs ⟨st6.at_ 28, fcs ⟨st6.at_ 29, fcs ⟨c7, fnl⟩⟩⟩⟩⟩⟩⟩⟩)
    clear st6 hbr6 hfr c7
    refine sym_store st 26 7 28 b7 (Con.raw 3) (Con.fr 24 (x / y)) [(2, Fact.cell b2 (Con.fr 12 x)), (3, Fact.cell b3 (Con.fr 12 y)), (4, Fact.eq (.bool false)), (5, Fact.cell b5 (Con.fr 12 x)), (6, Fact.cell b6 (Con.fr 12 y)), (29, Fact.eq (.int .i64 0)), (7, Fact.cell b7 (Con.fr 24 (x / y)))] rfl rfl rfl rfl rfl rfl info26 ?_ ?_
    · exact fcs ⟨.inr ⟨rfl, safe_cell _ (by omega)⟩, fcs ⟨.inr ⟨rfl, safe_cell _ (by omega)⟩, fcs ⟨.inr ⟨rfl, safe_eq _ _⟩, fcs ⟨.inr ⟨rfl, safe_cell _ (by omega)⟩, fcs ⟨.inr ⟨rfl, safe_cell _ (by omega)⟩, fcs ⟨.inr ⟨rfl, safe_eq _ _⟩, fcs ⟨.inl rfl, fnl⟩⟩⟩⟩⟩⟩⟩
    clear st; intro w7 hB hsz7 st
    have hb := hB _ _ hb (by omega) (by omega)
    clear hB
    refine sym_op st 8 (Fact.eq (.int .i64 0)) rfl (Nat.le_of_ble_eq_true rfl) rfl rfl (by kernel_rfl) (ob_copy 29 8 (.inr rfl) rfl (.inl rfl) (by kernel_rfl) rfl) ?_
    clear st; intro a8 w8 hbr st; have hs8 := hbr.size; have hb := up hb hbr; clear hbr
    refine wpList_nil ?_
    refine then_normal ?_
    refine wp_seq ?_
    refine sym_region st [(31, Fact.agg (Con.fr 12 x)), (32, Fact.agg (Con.fr 12 y)), (33, Fact.two (Fact.agg (Con.fr 24 (x / y))) (Fact.eq (.int .i64 0))), (30, Fact.two (Fact.agg (Con.fr 24 (x / y))) (Fact.eq (.int .i64 0))), (34, Fact.agg (Con.fr 24 (x / y))), (35, Fact.eq (.int .i64 0)), (9, Fact.var' (Con.raw 3))] [9] 7 (by kernel_rfl) (by kernel_rfl) (by kernel_rfl) (Nat.le_of_ble_eq_true rfl) (by kernel_rfl) rfl rfl ?_ ?_
    · refine fcs ⟨Ob.new_ (ob_read 26 2 31 (Con.fr 12 x) rfl rfl (.inl rfl) (by kernel_rfl) points_cell rfl row26 info26) (by kernel_rfl), ?_⟩
      refine fcs ⟨Ob.new_ (ob_read 26 3 32 (Con.fr 12 y) rfl rfl (.inl rfl) (by kernel_rfl) points_cell rfl row26 info26) (by kernel_rfl), ?_⟩
      refine fcs ⟨Ob.new_ (ob_call2 20 31 32 33 _ rfl rfl (.inl rfl) (by kernel_rfl) (by kernel_rfl) (by kernel_rfl) (z_div 12 12 x y h0 (by omega))) (by kernel_rfl), ?_⟩
      refine fcs ⟨Ob.new_ (ob_copy 33 30 (.inl rfl) rfl (.inl rfl) (by kernel_rfl) rfl) (by kernel_rfl), ?_⟩
      refine fcs ⟨Ob.new_ (ob_fst 30 34 (Fact.agg (Con.fr 24 (x / y))) (Fact.eq (.int .i64 0)) rfl rfl (.inl rfl) (by kernel_rfl) rfl rfl) (by kernel_rfl), ?_⟩
      refine fcs ⟨Ob.new_ (ob_snd 30 35 (Fact.agg (Con.fr 24 (x / y))) (Fact.eq (.int .i64 0)) rfl rfl (.inl rfl) (by kernel_rfl) rfl rfl) (by kernel_rfl), ?_⟩
      refine fcs ⟨obn_new 26 9 _ [.bool false, .slice none 0 0, .slice none 0 0] rfl rfl rfl rfl rfl alloc26, ?_⟩
      exact fnl
    intro a9 w9 st9 hbr9 hfr
    have hs9 := hbr9.size
    have hb := up hb hbr9
    obtain ⟨b9, c9⟩ := (show (Fact.var' (Con.raw 3)).holds _ _ from st9.at_ 9)
    have g9 := hfr.ge (s := 9) rfl c9.1
    have st : St 108 [(2, Fact.cell b2 (Con.fr 12 x)), (3, Fact.cell b3 (Con.fr 12 y)), (4, Fact.eq (.bool false)), (5, Fact.cell b5 (Con.fr 12 x)), (6, Fact.cell b6 (Con.fr 12 y)), (7, Fact.cell b7 (Con.fr 24 (x / y))), (8, Fact.eq (.int .i64 0)), (34, Fact.agg (Con.fr 24 (x / y))), (35, Fact.eq (.int .i64 0)), (9, Fact.cell b9 (Con.raw 3))] a9 w9 := st9.to (fcs ⟨st9.at_ 2, fcs ⟨st9.at_ 3, fcs ⟨st9.at_ 4, fcs ⟨st9.at_ 5, fcs ⟨st9.at_ 6, fcs ⟨st9.at_ 7, fcs ⟨st9.at_ 8, fcs ⟨st9.at_ 34, fcs ⟨st9.at_ 35, fcs ⟨c9, fnl⟩⟩⟩⟩⟩⟩⟩⟩⟩⟩)
    clear st9 hbr9 hfr c9
    refine sym_store st 26 9 34 b9 (Con.raw 3) (Con.fr 24 (x / y)) [(2, Fact.cell b2 (Con.fr 12 x)), (3, Fact.cell b3 (Con.fr 12 y)), (4, Fact.eq (.bool false)), (5, Fact.cell b5 (Con.fr 12 x)), (6, Fact.cell b6 (Con.fr 12 y)), (7, Fact.cell b7 (Con.fr 24 (x / y))), (8, Fact.eq (.int .i64 0)), (35, Fact.eq (.int .i64 0)), (9, Fact.cell b9 (Con.fr 24 (x / y)))] rfl rfl rfl rfl rfl rfl info26 ?_ ?_
    · exact fcs ⟨.inr ⟨rfl, safe_cell _ (by omega)⟩, fcs ⟨.inr ⟨rfl, safe_cell _ (by omega)⟩, fcs ⟨.inr ⟨rfl, safe_eq _ _⟩, fcs ⟨.inr ⟨rfl, safe_cell _ (by omega)⟩, fcs ⟨.inr ⟨rfl, safe_cell _ (by omega)⟩, fcs ⟨.inr ⟨rfl, safe_cell _ (by omega)⟩, fcs ⟨.inr ⟨rfl, safe_eq _ _⟩, fcs ⟨.inr ⟨rfl, safe_eq _ _⟩, fcs ⟨.inl rfl, fnl⟩⟩⟩⟩⟩⟩⟩⟩⟩
    clear st; intro w10 hB hsz10 st
    have hb := hB _ _ hb (by omega) (by omega)
    clear hB
    refine sym_op st 10 (Fact.eq (.int .i64 0)) rfl (Nat.le_of_ble_eq_true rfl) rfl rfl (by kernel_rfl) (ob_copy 35 10 (.inr rfl) rfl (.inl rfl) (by kernel_rfl) rfl) ?_
    clear st; intro a11 w11 hbr st; have hs11 := hbr.size; have hb := up hb hbr; clear hbr
    refine wpList_nil ?_
    refine then_normal ?_
    refine wp_seq ?_
    refine wp_seq ?_
    refine sym_region st [(36, Fact.eq (.int .i64 0)), (37, Fact.eq (.int .i64 0)), (38, Fact.eq (.bool false)), (39, Fact.eq (.bool false)), (40, Fact.agg (Con.fr 24 (x / y))), (41, Fact.agg (Con.fr 24 (x / y))), (42, Fact.eq (.bool true)), (43, Fact.eq (.bool false)), (44, Fact.eq (.bool false))] [] 9 (by kernel_rfl) (by kernel_rfl) (by kernel_rfl) (Nat.le_of_ble_eq_true rfl) (by kernel_rfl) rfl rfl ?_ ?_
    · refine fcs ⟨Ob.new_ (ob_copy 8 36 (.inl rfl) rfl (.inl rfl) (by kernel_rfl) rfl) (by kernel_rfl), ?_⟩
      refine fcs ⟨Ob.new_ (ob_copy 10 37 (.inl rfl) rfl (.inl rfl) (by kernel_rfl) rfl) (by kernel_rfl), ?_⟩
      refine fcs ⟨Ob.new_ (ob_nei 36 37 38 .i64 33 _ 0 0 false rfl rfl rfl (.inl rfl) (by kernel_rfl) (by kernel_rfl) rfl rfl rfl) (by kernel_rfl), ?_⟩
      refine fcs ⟨Ob.new_ (ob_copy 38 39 (.inl rfl) rfl (.inl rfl) (by kernel_rfl) rfl) (by kernel_rfl), ?_⟩
      refine fcs ⟨Ob.new_ (ob_read 26 7 40 (Con.fr 24 (x / y)) rfl rfl (.inr ⟨_, _, _, rfl, rfl, by kernel_rfl, by decide, rfl⟩) (by kernel_rfl) points_cell rfl row26 info26) (by kernel_rfl), ?_⟩
      refine fcs ⟨Ob.new_ (ob_read 26 9 41 (Con.fr 24 (x / y)) rfl rfl (.inr ⟨_, _, _, rfl, rfl, by kernel_rfl, by decide, rfl⟩) (by kernel_rfl) points_cell rfl row26 info26) (by kernel_rfl), ?_⟩
      refine fcs ⟨Ob.new_ (ob_call2 13 40 41 42 _ rfl rfl (.inr ⟨_, _, _, rfl, rfl, by kernel_rfl, by decide, rfl⟩) (by kernel_rfl) (by kernel_rfl) (by kernel_rfl) (z_same 24 24 (x / y) (x / y) true (decide_eq_true rfl))) (by kernel_rfl), ?_⟩
      refine fcs ⟨Ob.new_ (ob_not 42 43 true false rfl rfl rfl (.inr ⟨_, _, _, rfl, rfl, by kernel_rfl, by decide, rfl⟩) (by kernel_rfl) rfl rfl) (by kernel_rfl), ?_⟩
      refine fcs ⟨Ob.new_ (ob_pick_else 39 43 44 (.bool true) rfl rfl (.inl rfl) (by kernel_rfl) (by kernel_rfl) rfl rfl) (by kernel_rfl), ?_⟩
      exact fnl
    intro a12 w12 st12 hbr12 hfr
    have hs12 := hbr12.size
    have hb := up hb hbr12
    have st : St 108 [(2, Fact.cell b2 (Con.fr 12 x)), (3, Fact.cell b3 (Con.fr 12 y)), (4, Fact.eq (.bool false)), (5, Fact.cell b5 (Con.fr 12 x)), (6, Fact.cell b6 (Con.fr 12 y)), (44, Fact.eq (.bool false))] a12 w12 := st12.to (fcs ⟨st12.at_ 2, fcs ⟨st12.at_ 3, fcs ⟨st12.at_ 4, fcs ⟨st12.at_ 5, fcs ⟨st12.at_ 6, fcs ⟨st12.at_ 44, fnl⟩⟩⟩⟩⟩⟩)
    clear st12 hbr12 hfr
    refine wpList_nil ?_
    refine then_normal ?_
    refine wp_cond_false (st.at_ 44) ?_
    refine wp_skip ?_
    refine then_normal ?_
    refine wp_seq ?_
    refine wp_seq ?_
    refine sym_region st [(45, Fact.agg (Con.fr 12 x)), (46, Fact.agg (Con.fr 12 y)), (47, Fact.agg (Con.fr 25 (x + y))), (48, Fact.agg (Con.fr 12 x)), (49, Fact.agg (Con.fr 12 y)), (50, Fact.agg (Con.fr 25 (x + y))), (51, Fact.eq (.bool true)), (52, Fact.eq (.bool false)), (53, Fact.eq (.bool false)), (54, Fact.agg (Con.fr 12 x)), (55, Fact.agg (Con.fr 12 y)), (56, Fact.agg (Con.fr 25 (x - y))), (57, Fact.agg (Con.fr 12 x)), (58, Fact.agg (Con.fr 12 y)), (59, Fact.agg (Con.fr 25 (x - y))), (60, Fact.eq (.bool true)), (61, Fact.eq (.bool false)), (62, Fact.eq (.bool false)), (63, Fact.eq (.bool false)), (64, Fact.agg (Con.fr 12 x)), (65, Fact.agg (Con.fr 12 y)), (66, Fact.agg (Con.fr 24 (x * y))), (67, Fact.agg (Con.fr 12 x)), (68, Fact.agg (Con.fr 12 y)), (69, Fact.agg (Con.fr 24 (x * y))), (70, Fact.eq (.bool true)), (71, Fact.eq (.bool false)), (72, Fact.eq (.bool false)), (73, Fact.eq (.bool false)), (74, Fact.agg (Con.fr 12 x)), (75, Fact.agg (Con.fr 12 (-x))), (76, Fact.agg (Con.fr 12 x)), (77, Fact.agg (Con.fr 12 (-x))), (78, Fact.eq (.bool true)), (79, Fact.eq (.bool false)), (80, Fact.eq (.bool false))] [] 36 (by kernel_rfl) (by kernel_rfl) (by kernel_rfl) (Nat.le_of_ble_eq_true rfl) (by kernel_rfl) rfl rfl ?_ ?_
    · refine fcs ⟨Ob.new_ (ob_read 26 5 45 (Con.fr 12 x) rfl rfl (.inl rfl) (by kernel_rfl) points_cell rfl row26 info26) (by kernel_rfl), ?_⟩
      refine fcs ⟨Ob.new_ (ob_read 26 6 46 (Con.fr 12 y) rfl rfl (.inl rfl) (by kernel_rfl) points_cell rfl row26 info26) (by kernel_rfl), ?_⟩
      refine fcs ⟨Ob.new_ (ob_call2 10 45 46 47 _ rfl rfl (.inl rfl) (by kernel_rfl) (by kernel_rfl) (by kernel_rfl) (q_add 12 12 x y (by omega))) (by kernel_rfl), ?_⟩
      refine fcs ⟨Ob.new_ (ob_read 26 2 48 (Con.fr 12 x) rfl rfl (.inl rfl) (by kernel_rfl) points_cell rfl row26 info26) (by kernel_rfl), ?_⟩
      refine fcs ⟨Ob.new_ (ob_read 26 3 49 (Con.fr 12 y) rfl rfl (.inl rfl) (by kernel_rfl) points_cell rfl row26 info26) (by kernel_rfl), ?_⟩
      refine fcs ⟨Ob.new_ (ob_call2 21 48 49 50 _ rfl rfl (.inl rfl) (by kernel_rfl) (by kernel_rfl) (by kernel_rfl) (z_add 12 12 x y (by omega))) (by kernel_rfl), ?_⟩
      refine fcs ⟨Ob.new_ (ob_call2 13 47 50 51 _ rfl rfl (.inl rfl) (by kernel_rfl) (by kernel_rfl) (by kernel_rfl) (z_same 25 25 (x + y) (x + y) true (decide_eq_true rfl))) (by kernel_rfl), ?_⟩
      refine fcs ⟨Ob.new_ (ob_not 51 52 true false rfl rfl rfl (.inl rfl) (by kernel_rfl) rfl rfl) (by kernel_rfl), ?_⟩
      refine fcs ⟨Ob.new_ (ob_copy 52 53 (.inl rfl) rfl (.inl rfl) (by kernel_rfl) rfl) (by kernel_rfl), ?_⟩
      refine fcs ⟨Ob.new_ (ob_read 26 5 54 (Con.fr 12 x) rfl rfl (.inr ⟨_, _, _, rfl, rfl, by kernel_rfl, by decide, rfl⟩) (by kernel_rfl) points_cell rfl row26 info26) (by kernel_rfl), ?_⟩
      refine fcs ⟨Ob.new_ (ob_read 26 6 55 (Con.fr 12 y) rfl rfl (.inr ⟨_, _, _, rfl, rfl, by kernel_rfl, by decide, rfl⟩) (by kernel_rfl) points_cell rfl row26 info26) (by kernel_rfl), ?_⟩
      refine fcs ⟨Ob.new_ (ob_call2 14 54 55 56 _ rfl rfl (.inr ⟨_, _, _, rfl, rfl, by kernel_rfl, by decide, rfl⟩) (by kernel_rfl) (by kernel_rfl) (by kernel_rfl) (q_sub 12 12 x y (by omega))) (by kernel_rfl), ?_⟩
      refine fcs ⟨Ob.new_ (ob_read 26 2 57 (Con.fr 12 x) rfl rfl (.inr ⟨_, _, _, rfl, rfl, by kernel_rfl, by decide, rfl⟩) (by kernel_rfl) points_cell rfl row26 info26) (by kernel_rfl), ?_⟩
      refine fcs ⟨Ob.new_ (ob_read 26 3 58 (Con.fr 12 y) rfl rfl (.inr ⟨_, _, _, rfl, rfl, by kernel_rfl, by decide, rfl⟩) (by kernel_rfl) points_cell rfl row26 info26) (by kernel_rfl), ?_⟩
      refine fcs ⟨Ob.new_ (ob_call2 22 57 58 59 _ rfl rfl (.inr ⟨_, _, _, rfl, rfl, by kernel_rfl, by decide, rfl⟩) (by kernel_rfl) (by kernel_rfl) (by kernel_rfl) (z_sub 12 12 x y (by omega))) (by kernel_rfl), ?_⟩
      refine fcs ⟨Ob.new_ (ob_call2 13 56 59 60 _ rfl rfl (.inr ⟨_, _, _, rfl, rfl, by kernel_rfl, by decide, rfl⟩) (by kernel_rfl) (by kernel_rfl) (by kernel_rfl) (z_same 25 25 (x - y) (x - y) true (decide_eq_true rfl))) (by kernel_rfl), ?_⟩
      refine fcs ⟨Ob.new_ (ob_not 60 61 true false rfl rfl rfl (.inr ⟨_, _, _, rfl, rfl, by kernel_rfl, by decide, rfl⟩) (by kernel_rfl) rfl rfl) (by kernel_rfl), ?_⟩
      refine fcs ⟨Ob.new_ (ob_pick_else 53 61 62 (.bool true) rfl rfl (.inl rfl) (by kernel_rfl) (by kernel_rfl) rfl rfl) (by kernel_rfl), ?_⟩
      refine fcs ⟨Ob.new_ (ob_copy 62 63 (.inl rfl) rfl (.inl rfl) (by kernel_rfl) rfl) (by kernel_rfl), ?_⟩
      refine fcs ⟨Ob.new_ (ob_read 26 5 64 (Con.fr 12 x) rfl rfl (.inr ⟨_, _, _, rfl, rfl, by kernel_rfl, by decide, rfl⟩) (by kernel_rfl) points_cell rfl row26 info26) (by kernel_rfl), ?_⟩
      refine fcs ⟨Ob.new_ (ob_read 26 6 65 (Con.fr 12 y) rfl rfl (.inr ⟨_, _, _, rfl, rfl, by kernel_rfl, by decide, rfl⟩) (by kernel_rfl) points_cell rfl row26 info26) (by kernel_rfl), ?_⟩
      refine fcs ⟨Ob.new_ (ob_call2 11 64 65 66 _ rfl rfl (.inr ⟨_, _, _, rfl, rfl, by kernel_rfl, by decide, rfl⟩) (by kernel_rfl) (by kernel_rfl) (by kernel_rfl) (q_mul 12 12 x y (by omega))) (by kernel_rfl), ?_⟩
      refine fcs ⟨Ob.new_ (ob_read 26 2 67 (Con.fr 12 x) rfl rfl (.inr ⟨_, _, _, rfl, rfl, by kernel_rfl, by decide, rfl⟩) (by kernel_rfl) points_cell rfl row26 info26) (by kernel_rfl), ?_⟩
      refine fcs ⟨Ob.new_ (ob_read 26 3 68 (Con.fr 12 y) rfl rfl (.inr ⟨_, _, _, rfl, rfl, by kernel_rfl, by decide, rfl⟩) (by kernel_rfl) points_cell rfl row26 info26) (by kernel_rfl), ?_⟩
      refine fcs ⟨Ob.new_ (ob_call2 23 67 68 69 _ rfl rfl (.inr ⟨_, _, _, rfl, rfl, by kernel_rfl, by decide, rfl⟩) (by kernel_rfl) (by kernel_rfl) (by kernel_rfl) (z_mul 12 12 x y (by omega))) (by kernel_rfl), ?_⟩
      refine fcs ⟨Ob.new_ (ob_call2 13 66 69 70 _ rfl rfl (.inr ⟨_, _, _, rfl, rfl, by kernel_rfl, by decide, rfl⟩) (by kernel_rfl) (by kernel_rfl) (by kernel_rfl) (z_same 24 24 (x * y) (x * y) true (decide_eq_true rfl))) (by kernel_rfl), ?_⟩
      refine fcs ⟨Ob.new_ (ob_not 70 71 true false rfl rfl rfl (.inr ⟨_, _, _, rfl, rfl, by kernel_rfl, by decide, rfl⟩) (by kernel_rfl) rfl rfl) (by kernel_rfl), ?_⟩
      refine fcs ⟨Ob.new_ (ob_pick_else 63 71 72 (.bool true) rfl rfl (.inl rfl) (by kernel_rfl) (by kernel_rfl) rfl rfl) (by kernel_rfl), ?_⟩
      refine fcs ⟨Ob.new_ (ob_copy 72 73 (.inl rfl) rfl (.inl rfl) (by kernel_rfl) rfl) (by kernel_rfl), ?_⟩
      refine fcs ⟨Ob.new_ (ob_read 26 5 74 (Con.fr 12 x) rfl rfl (.inr ⟨_, _, _, rfl, rfl, by kernel_rfl, by decide, rfl⟩) (by kernel_rfl) points_cell rfl row26 info26) (by kernel_rfl), ?_⟩
      refine fcs ⟨Ob.new_ (ob_call1 15 74 75 _ rfl rfl (.inr ⟨_, _, _, rfl, rfl, by kernel_rfl, by decide, rfl⟩) (by kernel_rfl) (by kernel_rfl) (q_neg 12 x)) (by kernel_rfl), ?_⟩
      refine fcs ⟨Ob.new_ (ob_read 26 2 76 (Con.fr 12 x) rfl rfl (.inr ⟨_, _, _, rfl, rfl, by kernel_rfl, by decide, rfl⟩) (by kernel_rfl) points_cell rfl row26 info26) (by kernel_rfl), ?_⟩
      refine fcs ⟨Ob.new_ (ob_call1 24 76 77 _ rfl rfl (.inr ⟨_, _, _, rfl, rfl, by kernel_rfl, by decide, rfl⟩) (by kernel_rfl) (by kernel_rfl) (z_neg 12 x)) (by kernel_rfl), ?_⟩
      refine fcs ⟨Ob.new_ (ob_call2 13 75 77 78 _ rfl rfl (.inr ⟨_, _, _, rfl, rfl, by kernel_rfl, by decide, rfl⟩) (by kernel_rfl) (by kernel_rfl) (by kernel_rfl) (z_same 12 12 (-x) (-x) true (decide_eq_true rfl))) (by kernel_rfl), ?_⟩
      refine fcs ⟨Ob.new_ (ob_not 78 79 true false rfl rfl rfl (.inr ⟨_, _, _, rfl, rfl, by kernel_rfl, by decide, rfl⟩) (by kernel_rfl) rfl rfl) (by kernel_rfl), ?_⟩
      refine fcs ⟨Ob.new_ (ob_pick_else 73 79 80 (.bool true) rfl rfl (.inl rfl) (by kernel_rfl) (by kernel_rfl) rfl rfl) (by kernel_rfl), ?_⟩
      exact fnl
    intro a13 w13 st13 hbr13 hfr
    have hs13 := hbr13.size
    have hb := up hb hbr13
    have st : St 108 [(2, Fact.cell b2 (Con.fr 12 x)), (3, Fact.cell b3 (Con.fr 12 y)), (4, Fact.eq (.bool false)), (5, Fact.cell b5 (Con.fr 12 x)), (6, Fact.cell b6 (Con.fr 12 y)), (80, Fact.eq (.bool false))] a13 w13 := st13.to (fcs ⟨st13.at_ 2, fcs ⟨st13.at_ 3, fcs ⟨st13.at_ 4, fcs ⟨st13.at_ 5, fcs ⟨st13.at_ 6, fcs ⟨st13.at_ 80, fnl⟩⟩⟩⟩⟩⟩)
    clear st13 hbr13 hfr
    refine wpList_nil ?_
    refine then_normal ?_
    refine wp_cond_false (st.at_ 80) ?_
    refine wp_skip ?_
    refine then_normal ?_
    refine wp_seq ?_
    have st := st.to (ks' := [(2, Fact.cell b2 (Con.fr 12 x)), (3, Fact.cell b3 (Con.fr 12 y)), (5, Fact.cell b5 (Con.fr 12 x)), (6, Fact.cell b6 (Con.fr 12 y)), (80, Fact.eq (.bool false))]) (fcs ⟨st.at_ 2, fcs ⟨st.at_ 3, fcs ⟨st.at_ 5, fcs ⟨st.at_ 6, fcs ⟨st.at_ 80, fnl⟩⟩⟩⟩⟩)
    refine sym_region st [(81, Fact.agg (Con.fr 12 x)), (82, Fact.agg (Con.fr 12 y)), (83, Fact.eq (.int .i64 (Rt.cp x y))), (84, Fact.agg (Con.fr 12 x)), (85, Fact.agg (Con.fr 12 y)), (86, Fact.eq (.int .i64 (Rt.cp x y))), (87, Fact.eq (.bool true)), (88, Fact.eq (.bool true)), (89, Fact.agg (Con.fr 12 x)), (90, Fact.eq (.int .i64 (Rt.sn x))), (91, Fact.agg (Con.fr 12 x)), (92, Fact.eq (.int .i64 (Rt.sn x))), (93, Fact.eq (.bool true)), (94, Fact.eq (.bool true)), (95, Fact.eq (.bool true)), (96, Fact.agg (Con.fr 12 x)), (97, Fact.agg (Con.fr 12 x)), (98, Fact.eq (.bool true)), (99, Fact.eq (.bool true)), (100, Fact.eq (.bool true)), (101, Fact.agg (Con.fr 12 y)), (102, Fact.agg (Con.fr 12 y)), (103, Fact.eq (.bool true)), (104, Fact.eq (.bool true)), (105, Fact.eq (.bool true)), (106, Fact.eq (.bool true)), (107, Fact.eq (.bool true)), (4, Fact.eq (.bool true))] [] 28 (by kernel_rfl) (by kernel_rfl) (by kernel_rfl) (Nat.le_of_ble_eq_true rfl) (by kernel_rfl) rfl rfl ?_ ?_
    · refine fcs ⟨Ob.new_ (ob_read 26 5 81 (Con.fr 12 x) rfl rfl (.inl rfl) (by kernel_rfl) points_cell rfl row26 info26) (by kernel_rfl), ?_⟩
      refine fcs ⟨Ob.new_ (ob_read 26 6 82 (Con.fr 12 y) rfl rfl (.inl rfl) (by kernel_rfl) points_cell rfl row26 info26) (by kernel_rfl), ?_⟩
      refine fcs ⟨Ob.new_ (ob_call2 25 81 82 83 _ rfl rfl (.inl rfl) (by kernel_rfl) (by kernel_rfl) (by kernel_rfl) (q_cmp 12 12 x y (by omega))) (by kernel_rfl), ?_⟩
      refine fcs ⟨Ob.new_ (ob_read 26 2 84 (Con.fr 12 x) rfl rfl (.inl rfl) (by kernel_rfl) points_cell rfl row26 info26) (by kernel_rfl), ?_⟩
      refine fcs ⟨Ob.new_ (ob_read 26 3 85 (Con.fr 12 y) rfl rfl (.inl rfl) (by kernel_rfl) points_cell rfl row26 info26) (by kernel_rfl), ?_⟩
      refine fcs ⟨Ob.new_ (ob_call2 26 84 85 86 _ rfl rfl (.inl rfl) (by kernel_rfl) (by kernel_rfl) (by kernel_rfl) (z_cmp 12 12 x y (by omega))) (by kernel_rfl), ?_⟩
      refine fcs ⟨Ob.new_ (ob_eqi 83 86 87 .i64 3 _ (Rt.cp x y) (Rt.cp x y) true (beq_self_eq_true _) rfl rfl (.inl rfl) (by kernel_rfl) (by kernel_rfl) rfl rfl rfl) (by kernel_rfl), ?_⟩
      refine fcs ⟨Ob.new_ (ob_copy 87 88 (.inl rfl) rfl (.inl rfl) (by kernel_rfl) rfl) (by kernel_rfl), ?_⟩
      refine fcs ⟨Ob.new_ (ob_read 26 5 89 (Con.fr 12 x) rfl rfl (.inr ⟨_, _, _, rfl, rfl, by kernel_rfl, by decide, rfl⟩) (by kernel_rfl) points_cell rfl row26 info26) (by kernel_rfl), ?_⟩
      refine fcs ⟨Ob.new_ (ob_call1 18 89 90 _ rfl rfl (.inr ⟨_, _, _, rfl, rfl, by kernel_rfl, by decide, rfl⟩) (by kernel_rfl) (by kernel_rfl) (q_sign 12 x)) (by kernel_rfl), ?_⟩
      refine fcs ⟨Ob.new_ (ob_read 26 2 91 (Con.fr 12 x) rfl rfl (.inr ⟨_, _, _, rfl, rfl, by kernel_rfl, by decide, rfl⟩) (by kernel_rfl) points_cell rfl row26 info26) (by kernel_rfl), ?_⟩
      refine fcs ⟨Ob.new_ (ob_call1 27 91 92 _ rfl rfl (.inr ⟨_, _, _, rfl, rfl, by kernel_rfl, by decide, rfl⟩) (by kernel_rfl) (by kernel_rfl) (z_sign 12 x)) (by kernel_rfl), ?_⟩
      refine fcs ⟨Ob.new_ (ob_eqi 90 92 93 .i64 3 _ (Rt.sn x) (Rt.sn x) true (beq_self_eq_true _) rfl rfl (.inr ⟨_, _, _, rfl, rfl, by kernel_rfl, by decide, rfl⟩) (by kernel_rfl) (by kernel_rfl) rfl rfl rfl) (by kernel_rfl), ?_⟩
      refine fcs ⟨Ob.new_ (ob_pick 88 93 94 _ rfl rfl (.inl rfl) (by kernel_rfl) (by kernel_rfl) rfl rfl) (by kernel_rfl), ?_⟩
      refine fcs ⟨Ob.new_ (ob_copy 94 95 (.inl rfl) rfl (.inl rfl) (by kernel_rfl) rfl) (by kernel_rfl), ?_⟩
      refine fcs ⟨Ob.new_ (ob_read 26 5 96 (Con.fr 12 x) rfl rfl (.inr ⟨_, _, _, rfl, rfl, by kernel_rfl, by decide, rfl⟩) (by kernel_rfl) points_cell rfl row26 info26) (by kernel_rfl), ?_⟩
      refine fcs ⟨Ob.new_ (ob_read 26 2 97 (Con.fr 12 x) rfl rfl (.inr ⟨_, _, _, rfl, rfl, by kernel_rfl, by decide, rfl⟩) (by kernel_rfl) points_cell rfl row26 info26) (by kernel_rfl), ?_⟩
      refine fcs ⟨Ob.new_ (ob_call2 13 96 97 98 _ rfl rfl (.inr ⟨_, _, _, rfl, rfl, by kernel_rfl, by decide, rfl⟩) (by kernel_rfl) (by kernel_rfl) (by kernel_rfl) (z_same 12 12 x x true (decide_eq_true rfl))) (by kernel_rfl), ?_⟩
      refine fcs ⟨Ob.new_ (ob_pick 95 98 99 _ rfl rfl (.inl rfl) (by kernel_rfl) (by kernel_rfl) rfl rfl) (by kernel_rfl), ?_⟩
      refine fcs ⟨Ob.new_ (ob_copy 99 100 (.inl rfl) rfl (.inl rfl) (by kernel_rfl) rfl) (by kernel_rfl), ?_⟩
      refine fcs ⟨Ob.new_ (ob_read 26 6 101 (Con.fr 12 y) rfl rfl (.inr ⟨_, _, _, rfl, rfl, by kernel_rfl, by decide, rfl⟩) (by kernel_rfl) points_cell rfl row26 info26) (by kernel_rfl), ?_⟩
      refine fcs ⟨Ob.new_ (ob_read 26 3 102 (Con.fr 12 y) rfl rfl (.inr ⟨_, _, _, rfl, rfl, by kernel_rfl, by decide, rfl⟩) (by kernel_rfl) points_cell rfl row26 info26) (by kernel_rfl), ?_⟩
      refine fcs ⟨Ob.new_ (ob_call2 13 101 102 103 _ rfl rfl (.inr ⟨_, _, _, rfl, rfl, by kernel_rfl, by decide, rfl⟩) (by kernel_rfl) (by kernel_rfl) (by kernel_rfl) (z_same 12 12 y y true (decide_eq_true rfl))) (by kernel_rfl), ?_⟩
      refine fcs ⟨Ob.new_ (ob_pick 100 103 104 _ rfl rfl (.inl rfl) (by kernel_rfl) (by kernel_rfl) rfl rfl) (by kernel_rfl), ?_⟩
      refine fcs ⟨Ob.new_ (ob_copy 104 105 (.inl rfl) rfl (.inl rfl) (by kernel_rfl) rfl) (by kernel_rfl), ?_⟩
      refine fcs ⟨Ob.new_ (ob_call0 9 106 _ rfl rfl (.inr ⟨_, _, _, rfl, rfl, by kernel_rfl, by decide, rfl⟩) (by kernel_rfl) w_awake) (by kernel_rfl), ?_⟩
      refine fcs ⟨Ob.new_ (ob_pick 105 106 107 _ rfl rfl (.inl rfl) (by kernel_rfl) (by kernel_rfl) rfl rfl) (by kernel_rfl), ?_⟩
      refine fcs ⟨Ob.new_ (ob_copy 107 4 (.inr rfl) rfl (.inl rfl) (by kernel_rfl) rfl) (by kernel_rfl), ?_⟩
      exact fnl
    intro a14 w14 st14 hbr14 hfr
    have hs14 := hbr14.size
    have hb := up hb hbr14
    have st : St 108 [(4, Fact.eq (.bool true))] a14 w14 := st14.to (fcs ⟨st14.at_ 4, fnl⟩)
    clear st14 hbr14 hfr
    refine wpList_nil ?_
    refine then_normal ?_
    refine wp_ret ?_
    exact sym_ret1 rfl st.defers (resAt_tmp st 4) hb (fun _ h => h)
set_option maxRecDepth 100000 in
theorem law_computes_no0 (s0 : Bool) (xs0 ys0 : List Nat) (s1 : Bool) (xs1 ys1 : List Nat) (hf : fitB s0 xs0 ys0 = false) : ∀ v0 v1 w, (Fact.agg (Con.pre s0 xs0 ys0)).holds v0 w → (Fact.agg (Con.pre s1 xs1 ys1)).holds v1 w → Calls Tryz.prog 4 #[v0, v1] w (Ret (Fact.eq (.bool true)) w) := by
  intro v0 v1 w hv0 hv1
  refine sym_calls 108 [(0, Fact.agg (Con.pre s0 xs0 ys0)), (1, Fact.agg (Con.pre s1 xs1 ys1))] Tryz.func4 rfl rfl (Nat.le_of_ble_eq_true rfl) (fcs ⟨⟨Nat.le_of_ble_eq_true rfl, hv0⟩, fcs ⟨⟨Nat.le_of_ble_eq_true rfl, hv1⟩, fnl⟩⟩) fun a st => ?_
  have hb := Below.refl w.heap.size w
  refine wp_seq ?_
  refine sym_region st [(2, Fact.var' (Con.pre s0 xs0 ys0)), (3, Fact.var' (Con.pre s1 xs1 ys1)), (4, Fact.eq (.bool false))] [2, 3] 3 (by kernel_rfl) (by kernel_rfl) (by kernel_rfl) (Nat.le_of_ble_eq_true rfl) (by kernel_rfl) rfl rfl ?_ ?_
  · refine fcs ⟨obn_box 26 0 2 _ (Con.pre s0 xs0 ys0) rfl rfl rfl (by kernel_rfl) rfl rfl, ?_⟩
    refine fcs ⟨obn_box 26 1 3 _ (Con.pre s1 xs1 ys1) rfl rfl rfl (by kernel_rfl) rfl rfl, ?_⟩
    refine fcs ⟨Ob.new_ (ob_const (.bool false) 4 (.inr rfl) rfl (.inl rfl) rfl) (by kernel_rfl), ?_⟩
    exact fnl
  intro a1 w1 st1 hbr1 hfr
  have hs1 := hbr1.size
  have hb := up hb hbr1
  obtain ⟨b2, c2⟩ := (show (Fact.var' (Con.pre s0 xs0 ys0)).holds _ _ from st1.at_ 2)
  have g2 := hfr.ge (s := 2) rfl c2.1
  obtain ⟨b3, c3⟩ := (show (Fact.var' (Con.pre s1 xs1 ys1)).holds _ _ from st1.at_ 3)
  have g3 := hfr.ge (s := 3) rfl c3.1
  have ne2_3 := hfr.apart (s := 2) (t := 3) rfl rfl (by decide) c2.1 c3.1
  have st : St 108 [(2, Fact.cell b2 (Con.pre s0 xs0 ys0)), (3, Fact.cell b3 (Con.pre s1 xs1 ys1)), (4, Fact.eq (.bool false))] a1 w1 := st1.to (fcs ⟨c2, fcs ⟨c3, fcs ⟨st1.at_ 4, fnl⟩⟩⟩)
  clear st1 hbr1 hfr c2 c3
  refine wpList_nil ?_
  refine then_normal ?_
  refine wp_seq ?_
  refine wp_seq ?_
  refine sym_region st [(11, Fact.agg (Con.pre s0 xs0 ys0)), (12, Fact.eq (.bool false)), (13, Fact.eq (.bool true)), (14, Fact.eq (.bool true)), (15, Fact.eq undef), (16, Fact.eq undef), (17, Fact.eq undef), (18, Fact.eq (.bool true))] [] 8 (by kernel_rfl) (by kernel_rfl) (by kernel_rfl) (Nat.le_of_ble_eq_true rfl) (by kernel_rfl) rfl rfl ?_ ?_
  · refine fcs ⟨Ob.new_ (ob_read 26 2 11 (Con.pre s0 xs0 ys0) rfl rfl (.inl rfl) (by kernel_rfl) points_cell rfl row26 info26) (by kernel_rfl), ?_⟩
    refine fcs ⟨Ob.new_ (ob_call1 8 11 12 _ rfl rfl (.inl rfl) (by kernel_rfl) (by kernel_rfl) (w_fit s0 xs0 ys0 false hf)) (by kernel_rfl), ?_⟩
    refine fcs ⟨Ob.new_ (ob_not 12 13 false true rfl rfl rfl (.inl rfl) (by kernel_rfl) rfl rfl) (by kernel_rfl), ?_⟩
    refine fcs ⟨Ob.new_ (ob_copy 13 14 (.inl rfl) rfl (.inl rfl) (by kernel_rfl) rfl) (by kernel_rfl), ?_⟩
    refine fcs ⟨Ob.new_ (ob_skip 3 14 15 false rfl rfl (by kernel_rfl) (by decide) rfl rfl rfl) (by kernel_rfl), ?_⟩
    refine fcs ⟨Ob.new_ (ob_skip 3 14 16 false rfl rfl (by kernel_rfl) (by decide) rfl rfl rfl) (by kernel_rfl), ?_⟩
    refine fcs ⟨Ob.new_ (ob_skip 3 14 17 false rfl rfl (by kernel_rfl) (by decide) rfl rfl rfl) (by kernel_rfl), ?_⟩
    refine fcs ⟨Ob.new_ (ob_pick_or 14 17 18 (.bool true) rfl rfl (.inl rfl) (by kernel_rfl) rfl rfl) (by kernel_rfl), ?_⟩
    exact fnl
  intro a2 w2 st2 hbr2 hfr
  have hs2 := hbr2.size
  have hb := up hb hbr2
  have st : St 108 [(2, Fact.cell b2 (Con.pre s0 xs0 ys0)), (3, Fact.cell b3 (Con.pre s1 xs1 ys1)), (4, Fact.eq (.bool false)), (18, Fact.eq (.bool true))] a2 w2 := st2.to (fcs ⟨st2.at_ 2, fcs ⟨st2.at_ 3, fcs ⟨st2.at_ 4, fcs ⟨st2.at_ 18, fnl⟩⟩⟩⟩)
  clear st2 hbr2 hfr
  refine wpList_nil ?_
  refine then_normal ?_
  refine wp_cond_true (st.at_ 18) ?_
  refine wp_seq ?_
  have st := st.to (ks' := [(2, Fact.cell b2 (Con.pre s0 xs0 ys0)), (3, Fact.cell b3 (Con.pre s1 xs1 ys1)), (18, Fact.eq (.bool true))]) (fcs ⟨st.at_ 2, fcs ⟨st.at_ 3, fcs ⟨st.at_ 18, fnl⟩⟩⟩)
  refine sym_region st [(19, Fact.eq (.bool true)), (4, Fact.eq (.bool true))] [] 2 (by kernel_rfl) (by kernel_rfl) (by kernel_rfl) (Nat.le_of_ble_eq_true rfl) (by kernel_rfl) rfl rfl ?_ ?_
  · refine fcs ⟨Ob.new_ (ob_call0 9 19 _ rfl rfl (.inl rfl) (by kernel_rfl) w_awake) (by kernel_rfl), ?_⟩
    refine fcs ⟨Ob.new_ (ob_copy 19 4 (.inr rfl) rfl (.inl rfl) (by kernel_rfl) rfl) (by kernel_rfl), ?_⟩
    exact fnl
  intro a3 w3 st3 hbr3 hfr
  have hs3 := hbr3.size
  have hb := up hb hbr3
  have st : St 108 [(2, Fact.cell b2 (Con.pre s0 xs0 ys0)), (3, Fact.cell b3 (Con.pre s1 xs1 ys1)), (4, Fact.eq (.bool true))] a3 w3 := st3.to (fcs ⟨st3.at_ 2, fcs ⟨st3.at_ 3, fcs ⟨st3.at_ 4, fnl⟩⟩⟩)
  clear st3 hbr3 hfr
  refine wpList_nil ?_
  refine then_normal ?_
  refine wp_ret ?_
  exact sym_ret1 rfl st.defers (resAt_tmp st 4) hb (fun _ h => h)
set_option maxRecDepth 100000 in
theorem law_computes_no1 (x : Rat) (s1 : Bool) (xs1 ys1 : List Nat) (hf : fitB s1 xs1 ys1 = false) : ∀ v0 v1 w, (Fact.agg (Con.fr 12 x)).holds v0 w → (Fact.agg (Con.pre s1 xs1 ys1)).holds v1 w → Calls Tryz.prog 4 #[v0, v1] w (Ret (Fact.eq (.bool true)) w) := by
  intro v0 v1 w hv0 hv1
  refine sym_calls 108 [(0, Fact.agg (Con.fr 12 x)), (1, Fact.agg (Con.pre s1 xs1 ys1))] Tryz.func4 rfl rfl (Nat.le_of_ble_eq_true rfl) (fcs ⟨⟨Nat.le_of_ble_eq_true rfl, hv0⟩, fcs ⟨⟨Nat.le_of_ble_eq_true rfl, hv1⟩, fnl⟩⟩) fun a st => ?_
  have hb := Below.refl w.heap.size w
  refine wp_seq ?_
  refine sym_region st [(2, Fact.var' (Con.fr 12 x)), (3, Fact.var' (Con.pre s1 xs1 ys1)), (4, Fact.eq (.bool false))] [2, 3] 3 (by kernel_rfl) (by kernel_rfl) (by kernel_rfl) (Nat.le_of_ble_eq_true rfl) (by kernel_rfl) rfl rfl ?_ ?_
  · refine fcs ⟨obn_box 26 0 2 _ (Con.fr 12 x) rfl rfl rfl (by kernel_rfl) rfl rfl, ?_⟩
    refine fcs ⟨obn_box 26 1 3 _ (Con.pre s1 xs1 ys1) rfl rfl rfl (by kernel_rfl) rfl rfl, ?_⟩
    refine fcs ⟨Ob.new_ (ob_const (.bool false) 4 (.inr rfl) rfl (.inl rfl) rfl) (by kernel_rfl), ?_⟩
    exact fnl
  intro a1 w1 st1 hbr1 hfr
  have hs1 := hbr1.size
  have hb := up hb hbr1
  obtain ⟨b2, c2⟩ := (show (Fact.var' (Con.fr 12 x)).holds _ _ from st1.at_ 2)
  have g2 := hfr.ge (s := 2) rfl c2.1
  obtain ⟨b3, c3⟩ := (show (Fact.var' (Con.pre s1 xs1 ys1)).holds _ _ from st1.at_ 3)
  have g3 := hfr.ge (s := 3) rfl c3.1
  have ne2_3 := hfr.apart (s := 2) (t := 3) rfl rfl (by decide) c2.1 c3.1
  have st : St 108 [(2, Fact.cell b2 (Con.fr 12 x)), (3, Fact.cell b3 (Con.pre s1 xs1 ys1)), (4, Fact.eq (.bool false))] a1 w1 := st1.to (fcs ⟨c2, fcs ⟨c3, fcs ⟨st1.at_ 4, fnl⟩⟩⟩)
  clear st1 hbr1 hfr c2 c3
  refine wpList_nil ?_
  refine then_normal ?_
  refine wp_seq ?_
  refine wp_seq ?_
  refine sym_region st [(11, Fact.agg (Con.fr 12 x)), (12, Fact.eq (.bool true)), (13, Fact.eq (.bool false)), (14, Fact.eq (.bool false)), (15, Fact.agg (Con.pre s1 xs1 ys1)), (16, Fact.eq (.bool false)), (17, Fact.eq (.bool true)), (18, Fact.eq (.bool true))] [] 8 (by kernel_rfl) (by kernel_rfl) (by kernel_rfl) (Nat.le_of_ble_eq_true rfl) (by kernel_rfl) rfl rfl ?_ ?_
  · refine fcs ⟨Ob.new_ (ob_read 26 2 11 (Con.fr 12 x) rfl rfl (.inl rfl) (by kernel_rfl) points_cell rfl row26 info26) (by kernel_rfl), ?_⟩
    refine fcs ⟨Ob.new_ (ob_call1 8 11 12 _ rfl rfl (.inl rfl) (by kernel_rfl) (by kernel_rfl) (w_fit_yes x)) (by kernel_rfl), ?_⟩
    refine fcs ⟨Ob.new_ (ob_not 12 13 true false rfl rfl rfl (.inl rfl) (by kernel_rfl) rfl rfl) (by kernel_rfl), ?_⟩
    refine fcs ⟨Ob.new_ (ob_copy 13 14 (.inl rfl) rfl (.inl rfl) (by kernel_rfl) rfl) (by kernel_rfl), ?_⟩
    refine fcs ⟨Ob.new_ (ob_read 26 3 15 (Con.pre s1 xs1 ys1) rfl rfl (.inr ⟨_, _, _, rfl, rfl, by kernel_rfl, by decide, rfl⟩) (by kernel_rfl) points_cell rfl row26 info26) (by kernel_rfl), ?_⟩
    refine fcs ⟨Ob.new_ (ob_call1 8 15 16 _ rfl rfl (.inr ⟨_, _, _, rfl, rfl, by kernel_rfl, by decide, rfl⟩) (by kernel_rfl) (by kernel_rfl) (w_fit s1 xs1 ys1 false hf)) (by kernel_rfl), ?_⟩
    refine fcs ⟨Ob.new_ (ob_not 16 17 false true rfl rfl rfl (.inr ⟨_, _, _, rfl, rfl, by kernel_rfl, by decide, rfl⟩) (by kernel_rfl) rfl rfl) (by kernel_rfl), ?_⟩
    refine fcs ⟨Ob.new_ (ob_pick_else 14 17 18 (.bool true) rfl rfl (.inl rfl) (by kernel_rfl) (by kernel_rfl) rfl rfl) (by kernel_rfl), ?_⟩
    exact fnl
  intro a2 w2 st2 hbr2 hfr
  have hs2 := hbr2.size
  have hb := up hb hbr2
  have st : St 108 [(2, Fact.cell b2 (Con.fr 12 x)), (3, Fact.cell b3 (Con.pre s1 xs1 ys1)), (4, Fact.eq (.bool false)), (18, Fact.eq (.bool true))] a2 w2 := st2.to (fcs ⟨st2.at_ 2, fcs ⟨st2.at_ 3, fcs ⟨st2.at_ 4, fcs ⟨st2.at_ 18, fnl⟩⟩⟩⟩)
  clear st2 hbr2 hfr
  refine wpList_nil ?_
  refine then_normal ?_
  refine wp_cond_true (st.at_ 18) ?_
  refine wp_seq ?_
  have st := st.to (ks' := [(2, Fact.cell b2 (Con.fr 12 x)), (3, Fact.cell b3 (Con.pre s1 xs1 ys1)), (18, Fact.eq (.bool true))]) (fcs ⟨st.at_ 2, fcs ⟨st.at_ 3, fcs ⟨st.at_ 18, fnl⟩⟩⟩)
  refine sym_region st [(19, Fact.eq (.bool true)), (4, Fact.eq (.bool true))] [] 2 (by kernel_rfl) (by kernel_rfl) (by kernel_rfl) (Nat.le_of_ble_eq_true rfl) (by kernel_rfl) rfl rfl ?_ ?_
  · refine fcs ⟨Ob.new_ (ob_call0 9 19 _ rfl rfl (.inl rfl) (by kernel_rfl) w_awake) (by kernel_rfl), ?_⟩
    refine fcs ⟨Ob.new_ (ob_copy 19 4 (.inr rfl) rfl (.inl rfl) (by kernel_rfl) rfl) (by kernel_rfl), ?_⟩
    exact fnl
  intro a3 w3 st3 hbr3 hfr
  have hs3 := hbr3.size
  have hb := up hb hbr3
  have st : St 108 [(2, Fact.cell b2 (Con.fr 12 x)), (3, Fact.cell b3 (Con.pre s1 xs1 ys1)), (4, Fact.eq (.bool true))] a3 w3 := st3.to (fcs ⟨st3.at_ 2, fcs ⟨st3.at_ 3, fcs ⟨st3.at_ 4, fnl⟩⟩⟩)
  clear st3 hbr3 hfr
  refine wpList_nil ?_
  refine then_normal ?_
  refine wp_ret ?_
  exact sym_ret1 rfl st.defers (resAt_tmp st 4) hb (fun _ h => h)
theorem law_computes (s0 : Bool) (xs0 ys0 : List Nat) (s1 : Bool) (xs1 ys1 : List Nat) : ∀ v0 v1 w, (Fact.agg (Con.pre s0 xs0 ys0)).holds v0 w → (Fact.agg (Con.pre s1 xs1 ys1)).holds v1 w → Calls Tryz.prog 4 #[v0, v1] w (Ret (Fact.eq (.bool true)) w) := by
  intro v0 v1 w hv0 hv1
  cases hf0 : fitB s0 xs0 ys0 with
  | false => exact law_computes_no0  s0 xs0 ys0 s1 xs1 ys1 hf0 v0 v1 w hv0 hv1
  | true =>
  cases hf1 : fitB s1 xs1 ys1 with
  | false => exact law_computes_no1 (Rt.of s0 (Nm.val xs0) (Nm.val ys0)) s1 xs1 ys1 hf1 v0 v1 w (Fact.pre_fr hv0 hf0) hv1
  | true =>
  exact law_computes_fr (Rt.of s0 (Nm.val xs0) (Nm.val ys0)) (Rt.of s1 (Nm.val xs1) (Nm.val ys1)) v0 v1 w (Fact.pre_fr hv0 hf0) (Fact.pre_fr hv1 hf1)
end Go.Proofs.YtjfehdkfogdpgaaGreatDoor
namespace Go.Proofs.YtjfehdkfogdpgaaGreatDoor
open Go.ChangeShapes Go.WideShapes Go.ChangeAt Go.RowKit Go.Deep
section
variable {H : Type} {enc : TypeId × Value → H}
set_option maxRecDepth 100000 in
theorem open_dig {W : World} {k : Nat} {c0 : Value} {y : DataW H × List MemPlace} (h2 : DataW.trod enc Tryz.prog W 0 (fun _ => true) true k 22 [c0] = some y) :
    ∃ A n c xs, c0 = .slice A n c ∧ Rd W A xs ∧ xs.length = n ∧ n ≤ c ∧ Nm.Dig xs := by
  rcases open_ints Tryz.underlying22 Tryz.underlying59 cells35 h2 with ⟨hc, _⟩ | ⟨a, len, cap, zs, hc, _, hl, _, hz, _, hcell, hwf⟩
  · injection hc with hc _
    subst hc
    exact ⟨none, 0, 0, [], rfl, .inl rfl, rfl, Nat.le_refl _, Nm.Dig.nil⟩
  · injection hc with hc _
    subst hc
    have hzl : zs.length = cap := by simpa using hz
    have hb : ∀ z ∈ zs, 0 ≤ z ∧ z < 4294967296 := fun z hm => by
      have := hwf z hm
      simp [Lit.wf, IntKind.min, IntKind.max, IntKind.signed, IntKind.bits] at this
      omega
    refine ⟨some a, len, cap, (zs.take len).map Int.toNat, rfl, ?_, by simp; omega, hl, ?_⟩
    · rcases Nat.eq_zero_or_pos len with h0 | h0
      · subst h0; exact .inl (by simp)
      · have h3 := hcell 0 (by omega)
        have hs : a.spot = none := by
          rw [Addr.add_zero'] at h3
          cases hsp : a.spot with
          | none => rfl
          | some x =>
            unfold World.cell? at h3
            rw [hsp] at h3
            split at h3
            · simp at h3
            · cases h3
        obtain ⟨g, off, sp⟩ := a
        have hs' : sp = none := hs
        subst hs'
        refine .inr ⟨g, off, rfl, fun i hi => ?_⟩
        have hi' : i < len := by simp at hi; omega
        have h4 := hcell i (by omega)
        rw [Addr.add_lit] at h4
        rw [h4]
        have hiz : i < zs.length := by omega
        have h5 := hb zs[i] (List.getElem_mem hiz)
        simp only [List.getD, List.getElem?_eq_getElem hiz, Option.getD_some, List.getElem_map, List.getElem_take]
        rw [Int.toNat_of_nonneg h5.1]
    · intro z hz
      obtain ⟨x, hx, rfl⟩ := List.mem_map.1 hz
      have := hb x (List.mem_of_mem_take hx)
      omega
theorem open_natc {W : World} {k : Nat} {c0 : Value} {y : DataW H × List MemPlace} (h : DataW.trod enc Tryz.prog W 0 (fun _ => true) true k 24 [c0] = some y) :
    ∃ zs, (Con.any_ zs).is W [c0] := by
  obtain ⟨ys, m, _, _, _, hlen, hg⟩ := DataW.trod_struct Tryz.underlying24 h
  have h1 := hg 0 _ rfl
  have c22 : Tryz.prog.cellsOf 22 = 1 := by kernel_rfl
  have h2 : ∃ y, DataW.trod enc Tryz.prog W 0 (fun _ => true) true m 22 [c0] = some y := by
    match ys, hlen with
    | [y], _ => exact ⟨y, by simpa [c22] using h1⟩
  obtain ⟨y, h2⟩ := h2
  obtain ⟨A, n, c, zs, rfl, hr, rfl, hc, hd⟩ := open_dig h2
  exact ⟨zs, A, c, rfl, hr, hc, hd⟩
theorem cells26 : Tryz.prog.cellsOf 26 = 3 := by kernel_rfl
theorem cells4 : Tryz.prog.cellsOf 4 = 1 := by kernel_rfl
set_option maxRecDepth 100000 in
theorem open_frac {W : World} {r : Reach} {b0 : Nat} {v : Value} {d : DataW H} {p : List MemPlace} (hv : Value.okWide Tryz.prog W r b0 26 v) (h : DataW.Trod enc Tryz.prog W 0 (fun _ => true) true 26 v d p) :
    ∃ s xs ys, (Fact.agg (Con.pre s xs ys)).holds v W := by
  obtain ⟨cs, rfl, hsz⟩ := okWide_struct Tryz.underlying26 hv
  obtain ⟨l⟩ := cs
  match l, hsz.trans cells26 with
  | [c0, c1, c2], _ =>
    obtain ⟨fuel, hf⟩ := h
    obtain ⟨y0, y1, y2, m, _, _, t0, t1, t2⟩ := trod_struct3 Tryz.underlying26 hf
    have h0 : DataW.trod enc Tryz.prog W 0 (fun _ => true) true m 4 [c0] = some y0 := by simpa [Value.cells, cells4] using t0
    have h1 : DataW.trod enc Tryz.prog W 0 (fun _ => true) true m 24 [c1] = some y1 := by simpa [Value.cells, cells24] using t1
    have h2 : DataW.trod enc Tryz.prog W 0 (fun _ => true) true m 24 [c2] = some y2 := by simpa [Value.cells, cells24] using t2
    obtain ⟨b, hb, _⟩ := DataW.trod_bool Tryz.underlying4 h0
    injection hb with hb _
    subst hb
    obtain ⟨xs, hx⟩ := open_natc h1
    obtain ⟨ys, hy⟩ := open_natc h2
    exact ⟨b, xs, ys, [.bool b, c1, c2], rfl, [.bool b], [c1, c2], rfl, rfl, [c1], [c2], rfl, hx, hy⟩
end
end Go.Proofs.YtjfehdkfogdpgaaGreatDoor
namespace Go.Proofs.YtjfehdkfogdpgaaGreatDoor
open Go.ChangeShapes Go.WideShapes Go.ChangeAt Go.RowKit
set_option maxRecDepth 100000 in
theorem fractionComputes_lifted (os : Os) (started : os.Started) (H : Type) (enc : TypeId × Value → H) :
    ReturnsInHanded {} Tryz.checked os 4 .any (fun w args => (Rows.fractionComputesSpec.pre enc Tryz.prog Tryz.f4 Rows.fractionComputesRow.domain false w args ∧ laidMetH Tryz.prog Rows.fractionComputesRow.laid w) ∧ sizedMet enc Tryz.prog Tryz.f4 (OpenSpec.ofChange Rows.fractionComputesSpec) false w args)
      (Rows.fractionComputesSpec.post enc Tryz.prog Tryz.f4 false true false false) := by
  refine returnsInHanded_of_change_and (C := Tryz.checked) (X := fun w _ => laidMetH Tryz.prog Rows.fractionComputesRow.laid w) (fun _ _ _ hh h => h.of_heap hh) Tryz.own started (by kernel_rfl) Tryz.func4
    (ChangeSpec.witness_shaped (enc := enc) (C := Tryz.checked) (os := os) (X := fun w _ => laidMetH Tryz.prog Rows.fractionComputesRow.laid w) false (World.laidAll Tryz.prog os Rows.fractionComputesRow.laid) #[.agg #[.bool false, .slice none 0 0, .slice none 0 0], .agg #[.bool false, .slice none 0 0, .slice none 0 0]] 8 (World.laidAll_os _ _ _)
      (World.shaped_of_ZipB (by kernel_rfl) (by kernel_rfl)) (by kernel_rfl) (by kernel_rfl) (by kernel_rfl)
      (by rw [MakeChecks.laidMetH_plain _ _ _ (by kernel_rfl)]; exact laidMet_laidAll _ (by kernel_rfl) (by kernel_rfl))) ?_
  intro W base args ds gs before hval0 hW hc _ hL _
  have hval : ∀ (j : Nat) t v, Tryz.f4.params[j]? = some t → args[j]? = some v → Value.okWide Tryz.prog W .any base t v := hval0
  have hW' := hW
  obtain ⟨p, q, hA0, hV, rfl, _, _⟩ := hW
  have hA : DataW.TrodAll enc Tryz.prog W 0 (fun _ => true) true Tryz.f4.params.toList args.toList ds p := hA0
  rw [Tryz.params4] at hA hval
  obtain ⟨v0, v1, d0, d1, p0, p1, rfl, rfl, rfl, h0, h1⟩ := trodAll_two hA
  obtain ⟨rfl, rfl⟩ := trodVars_none hV
  clear hA0
  simp only [List.append_nil] at hW' 
  have hlt0 : ∀ x ∈ p0, x.block < W.heap.size := fun x hx => by simpa using hW'.lt x (by simp [hx])
  obtain ⟨s0, xs0, ys0, g0⟩ := open_frac (hval 0 26 v0 rfl rfl) h0
  have hlt1 : ∀ x ∈ p1, x.block < W.heap.size := fun x hx => by simpa using hW'.lt x (by simp [hx])
  obtain ⟨s1, xs1, ys1, g1⟩ := open_frac (hval 1 26 v1 rfl rfl) h1
  refine (law_computes s0 xs0 ys0 s1 xs1 ys1 _ _ W g0 g1).mono fun e W' ⟨u, he, hb, hu⟩ => ?_
  obtain rfl : u = .bool true := hu
  subst he
  exact ⟨_, rfl, post_true rfl rfl hW' rfl rfl (trodAll_mk2 (Below.trod Tryz.laidOut (by kernel_rfl) (of_decide_eq_true (by kernel_rfl)) h0 hb hlt0) (Below.trod Tryz.laidOut (by kernel_rfl) (of_decide_eq_true (by kernel_rfl)) h1 hb hlt1)) hb⟩
theorem fractionComputes_holds : Rows.FractionComputesSaid :=
  OpenClaim.holds_of_wide 4 Tryz.f4 rfl rfl rfl rfl rfl rfl rfl ⟨rfl, rfl, rfl, rfl, rfl⟩ rfl rfl rfl rfl rfl (by kernel_rfl) Tryz.func4 (by kernel_rfl)
    (of_decide_eq_true (by kernel_rfl)) (by unfold Func.isWrapper; first | (rw [if_pos (by decide +kernel)]; kernel_rfl) | (rw [if_neg (by decide +kernel)]; exact ⟨rfl, rfl⟩))
    (fun os started H enc _ => fractionComputes_lifted os started H enc)
theorem fractionComputes_card : Rows.FractionComputesCardSaid :=
  Claim7.holds_tied_plain_at .later [] [.data, .pinned] true (true, "33eb5802ca5d853d263c72618fd648d60c96914e4d0a49e235c8b6d4eff8fccc") false fractionComputes_holds (fun _ h => by cases h) (by kernel_rfl) (fun _ h => by cases h) fractionComputes_row_tie rfl ⟨rfl, rfl⟩ (by kernel_rfl) rfl
    (fun f fn hf hfn => by
      obtain rfl : f = 4 := Option.some.inj ((show Tryz.prog.funcNamed "robotics/roboticslaw02.FractionComputes" = some 4 by kernel_rfl).symm.trans hf) |>.symm
      obtain rfl : fn = Tryz.f4 := (Option.some.inj (Tryz.func4.symm.trans hfn)).symm
      exact ⟨by kernel_rfl, fun j t ht => by
        rw [Tryz.params4] at ht
        have hm : t ∈ [26, 26] := by simpa using Array.mem_of_getElem? ht
        have hall : ([26, 26].all fun u => !Tryz.prog.wantsStandIn u) = true := by kernel_rfl
        exact (show Tryz.prog.wantsStandIn t = false by simpa using List.all_eq_true.1 hall t hm)⟩)
    (by kernel_rfl)
end Go.Proofs.YtjfehdkfogdpgaaGreatDoor

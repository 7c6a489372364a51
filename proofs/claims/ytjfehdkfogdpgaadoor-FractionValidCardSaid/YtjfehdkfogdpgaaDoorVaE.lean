/-
  Contracts of Format and Parse of package fraction. Conditions: texts of at most 1000000 bytes.
  The examples that every law asks for.
  The law FractionValid.
  An argument that is a fraction, opened: a sign and two slices of digits. No conditions.
  The row and the tied card of FractionValid, proved: whatever the input, the law returns true, and the input reads as it did. No conditions.
-/
import Derived.Deep.Strs
import Derived.Test.YtjfehdkfogdpgaaDoorTie
import Derived.Test.YtjfehdkfogdpgaaDoorCards
import Derived.LaidMore
import Derived.Lay
import Derived.SevenTiedAt
import Derived.Stop.Joined
import Derived.ChangeMaps5
import Derived.Test.YtjfehdkfogdpgaaDoorVaD
namespace Go.Proofs.YtjfehdkfogdpgaaDoor
open Go.RowKit
def fmt (x : Rat) : List Nat :=
  if decide (x.den = 1) = true then (if Rt.ng x = true then [45] ++ Nm.dec (Rt.tp x) else Nm.dec (Rt.tp x))
  else ((if Rt.ng x = true then [45] ++ Nm.dec (Rt.tp x) else Nm.dec (Rt.tp x)) ++ [47]) ++ Nm.dec x.den
theorem t_cutb (l : List Nat) (h : Byt l) (hs : l.length ≤ 1000000) (b : Bool) (hb : sls l = b) : ∀ v w, (Fact.eq (.string (ofB l))).holds v w → Calls Tryd.prog 49 #[v, .string ⟨#[47]⟩] w (Ret (Fact.three (Fact.eq (.string (ofB (bef l)))) (Fact.eq (.string (ofB (aft l)))) (Fact.eq (.bool b))) w) := by
  subst hb; exact t_cut l h hs
set_option maxRecDepth 100000 in
theorem q_format (k : Nat) (x : Rat) (hp : (Nm.dec (Rt.tp x)).length ≤ 100000) (hq : (Nm.dec x.den).length ≤ 100000) : ∀ v0 w, (Fact.agg (Con.fr k x)).holds v0 w → Calls Tryd.prog 31 #[v0] w (Ret (Fact.eq (.string (ofB (fmt x)))) w) := by
  intro v0 w hv0
  cases hng : Rt.ng x with
  | false =>
    cases hd1 : decide (x.den = 1) with
    | false =>
      refine sym_calls 21 [(0, Fact.agg (Con.fr k x))] Tryd.func31 rfl rfl (Nat.le_of_ble_eq_true rfl) (fcs ⟨⟨Nat.le_of_ble_eq_true rfl, hv0⟩, fnl⟩) fun a st => ?_
      have hb := Below.refl w.heap.size w
      refine wp_seq ?_
      refine sym_region st [(1, Fact.var' (Con.fr k x)), (2, Fact.eq (.string (ofB ([]))))] [1] 2 (by kernel_rfl) (by kernel_rfl) (by kernel_rfl) (Nat.le_of_ble_eq_true rfl) (by kernel_rfl) rfl rfl ?_ ?_
      · refine fcs ⟨obn_box 28 0 1 _ (Con.fr k x) rfl rfl rfl (by kernel_rfl) rfl rfl, ?_⟩
        refine fcs ⟨Ob.new_ (ob_const (.string ⟨#[]⟩) 2 (.inr rfl) rfl (.inl rfl) rfl) (by kernel_rfl), ?_⟩
        exact fnl
      intro a1 w1 st1 hbr1 hfr
      have hs1 := hbr1.size
      have hb := up hb hbr1
      obtain ⟨b1, c1⟩ := (show (Fact.var' (Con.fr k x)).holds _ _ from st1.at_ 1)
      have g1 := hfr.ge (s := 1) rfl c1.1
      have st : St 21 [(1, Fact.cell b1 (Con.fr k x)), (2, Fact.eq (.string (ofB ([]))))] a1 w1 := st1.to (fcs ⟨c1, fcs ⟨st1.at_ 2, fnl⟩⟩)
      clear st1 hbr1 hfr c1
      refine wpList_nil ?_
      refine then_normal ?_
      refine wp_seq ?_
      refine sym_region st [(4, Fact.ptr (Con.nn k (Rt.tp x))), (5, Fact.agg (Con.nn k (Rt.tp x))), (6, Fact.eq (.string (ofB (Nm.dec (Rt.tp x))))), (3, Fact.eq (.string (ofB (Nm.dec (Rt.tp x)))))] [] 4 (by kernel_rfl) (by kernel_rfl) (by kernel_rfl) (Nat.le_of_ble_eq_true rfl) (by kernel_rfl) rfl rfl ?_ ?_
      · refine fcs ⟨Ob.new_ (ob_addr 28 1 1 4 1 (Con.fr k x) (Con.nn k (Rt.tp x)) rfl rfl (.inl rfl) (by kernel_rfl) points_cell rfl (Con.fr_tp k x) field26_1) (by kernel_rfl), ?_⟩
        refine fcs ⟨Ob.new_ (ob_read 24 4 5 (Con.nn k (Rt.tp x)) rfl rfl (.inl rfl) (by kernel_rfl) points_ptr rfl row24 info24) (by kernel_rfl), ?_⟩
        refine fcs ⟨Ob.new_ (ob_call1 54 5 6 _ rfl rfl (.inl rfl) (by kernel_rfl) (by kernel_rfl) (n_format k (Rt.tp x))) (by kernel_rfl), ?_⟩
        refine fcs ⟨Ob.new_ (ob_copy 6 3 (.inr rfl) rfl (.inl rfl) (by kernel_rfl) rfl) (by kernel_rfl), ?_⟩
        exact fnl
      intro a2 w2 st2 hbr2 hfr
      have hs2 := hbr2.size
      have hb := up hb hbr2
      have st : St 21 [(1, Fact.cell b1 (Con.fr k x)), (2, Fact.eq (.string (ofB ([])))), (3, Fact.eq (.string (ofB (Nm.dec (Rt.tp x)))))] a2 w2 := st2.to (fcs ⟨st2.at_ 1, fcs ⟨st2.at_ 2, fcs ⟨st2.at_ 3, fnl⟩⟩⟩)
      clear st2 hbr2 hfr
      refine wpList_nil ?_
      refine then_normal ?_
      refine wp_seq ?_
      refine wp_seq ?_
      refine sym_region st [(7, Fact.ptr (Con.bool (Rt.ng x))), (8, Fact.eq (.bool false))] [] 2 (by kernel_rfl) (by kernel_rfl) (by kernel_rfl) (Nat.le_of_ble_eq_true rfl) (by kernel_rfl) rfl rfl ?_ ?_
      · refine fcs ⟨Ob.new_ (ob_addr 28 0 1 7 0 (Con.fr k x) (Con.bool (Rt.ng x)) rfl rfl (.inl rfl) (by kernel_rfl) points_cell rfl (Con.fr_ng k x) field26_0) (by kernel_rfl), ?_⟩
        refine fcs ⟨Ob.new_ (ob_readb 7 8 (Rt.ng x) false hng rfl rfl (.inl rfl) (by kernel_rfl) points_ptr rfl) (by kernel_rfl), ?_⟩
        exact fnl
      intro a3 w3 st3 hbr3 hfr
      have hs3 := hbr3.size
      have hb := up hb hbr3
      have st : St 21 [(1, Fact.cell b1 (Con.fr k x)), (2, Fact.eq (.string (ofB ([])))), (3, Fact.eq (.string (ofB (Nm.dec (Rt.tp x))))), (8, Fact.eq (.bool false))] a3 w3 := st3.to (fcs ⟨st3.at_ 1, fcs ⟨st3.at_ 2, fcs ⟨st3.at_ 3, fcs ⟨st3.at_ 8, fnl⟩⟩⟩⟩)
      clear st3 hbr3 hfr
      refine wpList_nil ?_
      refine then_normal ?_
      refine wp_cond_false (st.at_ 8) ?_
      refine wp_skip ?_
      refine then_normal ?_
      refine wp_seq ?_
      refine wp_seq ?_
      refine sym_region st [(11, Fact.ptr (Con.nn k (Rat.den x))), (12, Fact.agg (Con.nn k (Rat.den x))), (13, Fact.eq (.bool false))] [] 3 (by kernel_rfl) (by kernel_rfl) (by kernel_rfl) (Nat.le_of_ble_eq_true rfl) (by kernel_rfl) rfl rfl ?_ ?_
      · refine fcs ⟨Ob.new_ (ob_addr 28 2 1 11 2 (Con.fr k x) (Con.nn k (Rat.den x)) rfl rfl (.inl rfl) (by kernel_rfl) points_cell rfl (Con.fr_den k x) field26_2) (by kernel_rfl), ?_⟩
        refine fcs ⟨Ob.new_ (ob_read 24 11 12 (Con.nn k (Rat.den x)) rfl rfl (.inl rfl) (by kernel_rfl) points_ptr rfl row24 info24) (by kernel_rfl), ?_⟩
        refine fcs ⟨Ob.new_ (ob_call1 38 12 13 _ rfl rfl (.inl rfl) (by kernel_rfl) (by kernel_rfl) (q_isOne k (Rat.den x) false hd1)) (by kernel_rfl), ?_⟩
        exact fnl
      intro a4 w4 st4 hbr4 hfr
      have hs4 := hbr4.size
      have hb := up hb hbr4
      have st : St 21 [(1, Fact.cell b1 (Con.fr k x)), (2, Fact.eq (.string (ofB ([])))), (3, Fact.eq (.string (ofB (Nm.dec (Rt.tp x))))), (13, Fact.eq (.bool false))] a4 w4 := st4.to (fcs ⟨st4.at_ 1, fcs ⟨st4.at_ 2, fcs ⟨st4.at_ 3, fcs ⟨st4.at_ 13, fnl⟩⟩⟩⟩)
      clear st4 hbr4 hfr
      refine wpList_nil ?_
      refine then_normal ?_
      refine wp_cond_false (st.at_ 13) ?_
      refine wp_skip ?_
      refine then_normal ?_
      refine wp_seq ?_
      have st := st.to (ks' := [(1, Fact.cell b1 (Con.fr k x)), (3, Fact.eq (.string (ofB (Nm.dec (Rt.tp x))))), (13, Fact.eq (.bool false))]) (fcs ⟨st.at_ 1, fcs ⟨st.at_ 3, fcs ⟨st.at_ 13, fnl⟩⟩⟩)
      refine sym_region st [(15, Fact.eq (.string (ofB (Nm.dec (Rt.tp x))))), (16, Fact.eq (.string (ofB ((Nm.dec (Rt.tp x)) ++ ([47]))))), (17, Fact.ptr (Con.nn k (Rat.den x))), (18, Fact.agg (Con.nn k (Rat.den x))), (19, Fact.eq (.string (ofB (Nm.dec (Rat.den x))))), (20, Fact.eq (.string (ofB (((Nm.dec (Rt.tp x)) ++ ([47])) ++ (Nm.dec (Rat.den x)))))), (2, Fact.eq (.string (ofB (((Nm.dec (Rt.tp x)) ++ ([47])) ++ (Nm.dec (Rat.den x))))))] [] 7 (by kernel_rfl) (by kernel_rfl) (by kernel_rfl) (Nat.le_of_ble_eq_true rfl) (by kernel_rfl) rfl rfl ?_ ?_
      · refine fcs ⟨Ob.new_ (ob_copy 3 15 (.inl rfl) rfl (.inl rfl) (by kernel_rfl) rfl) (by kernel_rfl), ?_⟩
        refine fcs ⟨Ob.new_ (ob_catc 15 16 (Nm.dec (Rt.tp x)) ([47]) _ rfl (by simp only [List.length_cons, List.length_nil]; omega) rfl rfl (.inl rfl) (by kernel_rfl) rfl rfl) (by kernel_rfl), ?_⟩
        refine fcs ⟨Ob.new_ (ob_addr 28 2 1 17 2 (Con.fr k x) (Con.nn k (Rat.den x)) rfl rfl (.inl rfl) (by kernel_rfl) points_cell rfl (Con.fr_den k x) field26_2) (by kernel_rfl), ?_⟩
        refine fcs ⟨Ob.new_ (ob_read 24 17 18 (Con.nn k (Rat.den x)) rfl rfl (.inl rfl) (by kernel_rfl) points_ptr rfl row24 info24) (by kernel_rfl), ?_⟩
        refine fcs ⟨Ob.new_ (ob_call1 54 18 19 _ rfl rfl (.inl rfl) (by kernel_rfl) (by kernel_rfl) (n_format k (Rat.den x))) (by kernel_rfl), ?_⟩
        refine fcs ⟨Ob.new_ (ob_cat 16 19 20 ((Nm.dec (Rt.tp x)) ++ ([47])) (Nm.dec (Rat.den x)) (by simp only [List.length_append, List.length_cons, List.length_nil]; omega) rfl rfl (.inl rfl) (by kernel_rfl) (by kernel_rfl) rfl rfl rfl) (by kernel_rfl), ?_⟩
        refine fcs ⟨Ob.new_ (ob_copy 20 2 (.inr rfl) rfl (.inl rfl) (by kernel_rfl) rfl) (by kernel_rfl), ?_⟩
        exact fnl
      intro a5 w5 st5 hbr5 hfr
      have hs5 := hbr5.size
      have hb := up hb hbr5
      have st : St 21 [(2, Fact.eq (.string (ofB (((Nm.dec (Rt.tp x)) ++ ([47])) ++ (Nm.dec (Rat.den x))))))] a5 w5 := st5.to (fcs ⟨st5.at_ 2, fnl⟩)
      clear st5 hbr5 hfr
      refine wpList_nil ?_
      refine then_normal ?_
      refine wp_ret ?_
      exact sym_ret1 rfl st.defers (resAt_tmp st 2) hb (fun _ h => by rw [show fmt x = (Nm.dec (Rt.tp x) ++ [47]) ++ Nm.dec x.den from by unfold fmt; rw [hng, hd1]; rfl]; exact h)
    | true =>
      refine sym_calls 21 [(0, Fact.agg (Con.fr k x))] Tryd.func31 rfl rfl (Nat.le_of_ble_eq_true rfl) (fcs ⟨⟨Nat.le_of_ble_eq_true rfl, hv0⟩, fnl⟩) fun a st => ?_
      have hb := Below.refl w.heap.size w
      refine wp_seq ?_
      refine sym_region st [(1, Fact.var' (Con.fr k x)), (2, Fact.eq (.string (ofB ([]))))] [1] 2 (by kernel_rfl) (by kernel_rfl) (by kernel_rfl) (Nat.le_of_ble_eq_true rfl) (by kernel_rfl) rfl rfl ?_ ?_
      · refine fcs ⟨obn_box 28 0 1 _ (Con.fr k x) rfl rfl rfl (by kernel_rfl) rfl rfl, ?_⟩
        refine fcs ⟨Ob.new_ (ob_const (.string ⟨#[]⟩) 2 (.inr rfl) rfl (.inl rfl) rfl) (by kernel_rfl), ?_⟩
        exact fnl
      intro a1 w1 st1 hbr1 hfr
      have hs1 := hbr1.size
      have hb := up hb hbr1
      obtain ⟨b1, c1⟩ := (show (Fact.var' (Con.fr k x)).holds _ _ from st1.at_ 1)
      have g1 := hfr.ge (s := 1) rfl c1.1
      have st : St 21 [(1, Fact.cell b1 (Con.fr k x)), (2, Fact.eq (.string (ofB ([]))))] a1 w1 := st1.to (fcs ⟨c1, fcs ⟨st1.at_ 2, fnl⟩⟩)
      clear st1 hbr1 hfr c1
      refine wpList_nil ?_
      refine then_normal ?_
      refine wp_seq ?_
      refine sym_region st [(4, Fact.ptr (Con.nn k (Rt.tp x))), (5, Fact.agg (Con.nn k (Rt.tp x))), (6, Fact.eq (.string (ofB (Nm.dec (Rt.tp x))))), (3, Fact.eq (.string (ofB (Nm.dec (Rt.tp x)))))] [] 4 (by kernel_rfl) (by kernel_rfl) (by kernel_rfl) (Nat.le_of_ble_eq_true rfl) (by kernel_rfl) rfl rfl ?_ ?_
      · refine fcs ⟨Ob.new_ (ob_addr 28 1 1 4 1 (Con.fr k x) (Con.nn k (Rt.tp x)) rfl rfl (.inl rfl) (by kernel_rfl) points_cell rfl (Con.fr_tp k x) field26_1) (by kernel_rfl), ?_⟩
        refine fcs ⟨Ob.new_ (ob_read 24 4 5 (Con.nn k (Rt.tp x)) rfl rfl (.inl rfl) (by kernel_rfl) points_ptr rfl row24 info24) (by kernel_rfl), ?_⟩
        refine fcs ⟨Ob.new_ (ob_call1 54 5 6 _ rfl rfl (.inl rfl) (by kernel_rfl) (by kernel_rfl) (n_format k (Rt.tp x))) (by kernel_rfl), ?_⟩
        refine fcs ⟨Ob.new_ (ob_copy 6 3 (.inr rfl) rfl (.inl rfl) (by kernel_rfl) rfl) (by kernel_rfl), ?_⟩
        exact fnl
      intro a2 w2 st2 hbr2 hfr
      have hs2 := hbr2.size
      have hb := up hb hbr2
      have st : St 21 [(1, Fact.cell b1 (Con.fr k x)), (2, Fact.eq (.string (ofB ([])))), (3, Fact.eq (.string (ofB (Nm.dec (Rt.tp x)))))] a2 w2 := st2.to (fcs ⟨st2.at_ 1, fcs ⟨st2.at_ 2, fcs ⟨st2.at_ 3, fnl⟩⟩⟩)
      clear st2 hbr2 hfr
      refine wpList_nil ?_
      refine then_normal ?_
      refine wp_seq ?_
      refine wp_seq ?_
      refine sym_region st [(7, Fact.ptr (Con.bool (Rt.ng x))), (8, Fact.eq (.bool false))] [] 2 (by kernel_rfl) (by kernel_rfl) (by kernel_rfl) (Nat.le_of_ble_eq_true rfl) (by kernel_rfl) rfl rfl ?_ ?_
      · refine fcs ⟨Ob.new_ (ob_addr 28 0 1 7 0 (Con.fr k x) (Con.bool (Rt.ng x)) rfl rfl (.inl rfl) (by kernel_rfl) points_cell rfl (Con.fr_ng k x) field26_0) (by kernel_rfl), ?_⟩
        refine fcs ⟨Ob.new_ (ob_readb 7 8 (Rt.ng x) false hng rfl rfl (.inl rfl) (by kernel_rfl) points_ptr rfl) (by kernel_rfl), ?_⟩
        exact fnl
      intro a3 w3 st3 hbr3 hfr
      have hs3 := hbr3.size
      have hb := up hb hbr3
      have st : St 21 [(1, Fact.cell b1 (Con.fr k x)), (2, Fact.eq (.string (ofB ([])))), (3, Fact.eq (.string (ofB (Nm.dec (Rt.tp x))))), (8, Fact.eq (.bool false))] a3 w3 := st3.to (fcs ⟨st3.at_ 1, fcs ⟨st3.at_ 2, fcs ⟨st3.at_ 3, fcs ⟨st3.at_ 8, fnl⟩⟩⟩⟩)
      clear st3 hbr3 hfr
      refine wpList_nil ?_
      refine then_normal ?_
      refine wp_cond_false (st.at_ 8) ?_
      refine wp_skip ?_
      refine then_normal ?_
      refine wp_seq ?_
      refine wp_seq ?_
      refine sym_region st [(11, Fact.ptr (Con.nn k (Rat.den x))), (12, Fact.agg (Con.nn k (Rat.den x))), (13, Fact.eq (.bool true))] [] 3 (by kernel_rfl) (by kernel_rfl) (by kernel_rfl) (Nat.le_of_ble_eq_true rfl) (by kernel_rfl) rfl rfl ?_ ?_
      · refine fcs ⟨Ob.new_ (ob_addr 28 2 1 11 2 (Con.fr k x) (Con.nn k (Rat.den x)) rfl rfl (.inl rfl) (by kernel_rfl) points_cell rfl (Con.fr_den k x) field26_2) (by kernel_rfl), ?_⟩
        refine fcs ⟨Ob.new_ (ob_read 24 11 12 (Con.nn k (Rat.den x)) rfl rfl (.inl rfl) (by kernel_rfl) points_ptr rfl row24 info24) (by kernel_rfl), ?_⟩
        refine fcs ⟨Ob.new_ (ob_call1 38 12 13 _ rfl rfl (.inl rfl) (by kernel_rfl) (by kernel_rfl) (q_isOne k (Rat.den x) true hd1)) (by kernel_rfl), ?_⟩
        exact fnl
      intro a4 w4 st4 hbr4 hfr
      have hs4 := hbr4.size
      have hb := up hb hbr4
      have st : St 21 [(1, Fact.cell b1 (Con.fr k x)), (2, Fact.eq (.string (ofB ([])))), (3, Fact.eq (.string (ofB (Nm.dec (Rt.tp x))))), (13, Fact.eq (.bool true))] a4 w4 := st4.to (fcs ⟨st4.at_ 1, fcs ⟨st4.at_ 2, fcs ⟨st4.at_ 3, fcs ⟨st4.at_ 13, fnl⟩⟩⟩⟩)
      clear st4 hbr4 hfr
      refine wpList_nil ?_
      refine then_normal ?_
      refine wp_cond_true (st.at_ 13) ?_
      refine wp_seq ?_
      have st := st.to (ks' := [(1, Fact.cell b1 (Con.fr k x)), (3, Fact.eq (.string (ofB (Nm.dec (Rt.tp x))))), (13, Fact.eq (.bool true))]) (fcs ⟨st.at_ 1, fcs ⟨st.at_ 3, fcs ⟨st.at_ 13, fnl⟩⟩⟩)
      refine sym_region st [(14, Fact.eq (.string (ofB (Nm.dec (Rt.tp x))))), (2, Fact.eq (.string (ofB (Nm.dec (Rt.tp x)))))] [] 2 (by kernel_rfl) (by kernel_rfl) (by kernel_rfl) (Nat.le_of_ble_eq_true rfl) (by kernel_rfl) rfl rfl ?_ ?_
      · refine fcs ⟨Ob.new_ (ob_copy 3 14 (.inl rfl) rfl (.inl rfl) (by kernel_rfl) rfl) (by kernel_rfl), ?_⟩
        refine fcs ⟨Ob.new_ (ob_copy 14 2 (.inr rfl) rfl (.inl rfl) (by kernel_rfl) rfl) (by kernel_rfl), ?_⟩
        exact fnl
      intro a5 w5 st5 hbr5 hfr
      have hs5 := hbr5.size
      have hb := up hb hbr5
      have st : St 21 [(1, Fact.cell b1 (Con.fr k x)), (3, Fact.eq (.string (ofB (Nm.dec (Rt.tp x))))), (2, Fact.eq (.string (ofB (Nm.dec (Rt.tp x)))))] a5 w5 := st5.to (fcs ⟨st5.at_ 1, fcs ⟨st5.at_ 3, fcs ⟨st5.at_ 2, fnl⟩⟩⟩)
      clear st5 hbr5 hfr
      refine wpList_nil ?_
      refine then_normal ?_
      refine wp_ret ?_
      exact sym_ret1 rfl st.defers (resAt_tmp st 2) hb (fun _ h => by rw [show fmt x = Nm.dec (Rt.tp x) from by unfold fmt; rw [hng, hd1]; rfl]; exact h)
  | true =>
    cases hd1 : decide (x.den = 1) with
    | false =>
      refine sym_calls 21 [(0, Fact.agg (Con.fr k x))] Tryd.func31 rfl rfl (Nat.le_of_ble_eq_true rfl) (fcs ⟨⟨Nat.le_of_ble_eq_true rfl, hv0⟩, fnl⟩) fun a st => ?_
      have hb := Below.refl w.heap.size w
      refine wp_seq ?_
      refine sym_region st [(1, Fact.var' (Con.fr k x)), (2, Fact.eq (.string (ofB ([]))))] [1] 2 (by kernel_rfl) (by kernel_rfl) (by kernel_rfl) (Nat.le_of_ble_eq_true rfl) (by kernel_rfl) rfl rfl ?_ ?_
      · refine fcs ⟨obn_box 28 0 1 _ (Con.fr k x) rfl rfl rfl (by kernel_rfl) rfl rfl, ?_⟩
        refine fcs ⟨Ob.new_ (ob_const (.string ⟨#[]⟩) 2 (.inr rfl) rfl (.inl rfl) rfl) (by kernel_rfl), ?_⟩
        exact fnl
      intro a1 w1 st1 hbr1 hfr
      have hs1 := hbr1.size
      have hb := up hb hbr1
      obtain ⟨b1, c1⟩ := (show (Fact.var' (Con.fr k x)).holds _ _ from st1.at_ 1)
      have g1 := hfr.ge (s := 1) rfl c1.1
      have st : St 21 [(1, Fact.cell b1 (Con.fr k x)), (2, Fact.eq (.string (ofB ([]))))] a1 w1 := st1.to (fcs ⟨c1, fcs ⟨st1.at_ 2, fnl⟩⟩)
      clear st1 hbr1 hfr c1
      refine wpList_nil ?_
      refine then_normal ?_
      refine wp_seq ?_
      refine sym_region st [(4, Fact.ptr (Con.nn k (Rt.tp x))), (5, Fact.agg (Con.nn k (Rt.tp x))), (6, Fact.eq (.string (ofB (Nm.dec (Rt.tp x))))), (3, Fact.eq (.string (ofB (Nm.dec (Rt.tp x)))))] [] 4 (by kernel_rfl) (by kernel_rfl) (by kernel_rfl) (Nat.le_of_ble_eq_true rfl) (by kernel_rfl) rfl rfl ?_ ?_
      · refine fcs ⟨Ob.new_ (ob_addr 28 1 1 4 1 (Con.fr k x) (Con.nn k (Rt.tp x)) rfl rfl (.inl rfl) (by kernel_rfl) points_cell rfl (Con.fr_tp k x) field26_1) (by kernel_rfl), ?_⟩
        refine fcs ⟨Ob.new_ (ob_read 24 4 5 (Con.nn k (Rt.tp x)) rfl rfl (.inl rfl) (by kernel_rfl) points_ptr rfl row24 info24) (by kernel_rfl), ?_⟩
        refine fcs ⟨Ob.new_ (ob_call1 54 5 6 _ rfl rfl (.inl rfl) (by kernel_rfl) (by kernel_rfl) (n_format k (Rt.tp x))) (by kernel_rfl), ?_⟩
        refine fcs ⟨Ob.new_ (ob_copy 6 3 (.inr rfl) rfl (.inl rfl) (by kernel_rfl) rfl) (by kernel_rfl), ?_⟩
        exact fnl
      intro a2 w2 st2 hbr2 hfr
      have hs2 := hbr2.size
      have hb := up hb hbr2
      have st : St 21 [(1, Fact.cell b1 (Con.fr k x)), (2, Fact.eq (.string (ofB ([])))), (3, Fact.eq (.string (ofB (Nm.dec (Rt.tp x)))))] a2 w2 := st2.to (fcs ⟨st2.at_ 1, fcs ⟨st2.at_ 2, fcs ⟨st2.at_ 3, fnl⟩⟩⟩)
      clear st2 hbr2 hfr
      refine wpList_nil ?_
      refine then_normal ?_
      refine wp_seq ?_
      refine wp_seq ?_
      refine sym_region st [(7, Fact.ptr (Con.bool (Rt.ng x))), (8, Fact.eq (.bool true))] [] 2 (by kernel_rfl) (by kernel_rfl) (by kernel_rfl) (Nat.le_of_ble_eq_true rfl) (by kernel_rfl) rfl rfl ?_ ?_
      · refine fcs ⟨Ob.new_ (ob_addr 28 0 1 7 0 (Con.fr k x) (Con.bool (Rt.ng x)) rfl rfl (.inl rfl) (by kernel_rfl) points_cell rfl (Con.fr_ng k x) field26_0) (by kernel_rfl), ?_⟩
        refine fcs ⟨Ob.new_ (ob_readb 7 8 (Rt.ng x) true hng rfl rfl (.inl rfl) (by kernel_rfl) points_ptr rfl) (by kernel_rfl), ?_⟩
        exact fnl
      intro a3 w3 st3 hbr3 hfr
      have hs3 := hbr3.size
      have hb := up hb hbr3
      have st : St 21 [(1, Fact.cell b1 (Con.fr k x)), (2, Fact.eq (.string (ofB ([])))), (3, Fact.eq (.string (ofB (Nm.dec (Rt.tp x))))), (8, Fact.eq (.bool true))] a3 w3 := st3.to (fcs ⟨st3.at_ 1, fcs ⟨st3.at_ 2, fcs ⟨st3.at_ 3, fcs ⟨st3.at_ 8, fnl⟩⟩⟩⟩)
      clear st3 hbr3 hfr
      refine wpList_nil ?_
      refine then_normal ?_
      refine wp_cond_true (st.at_ 8) ?_
      refine wp_region_lit ?_
      refine sym_op st 9 (Fact.eq (.string (ofB (Nm.dec (Rt.tp x))))) rfl (Nat.le_of_ble_eq_true rfl) rfl rfl (by kernel_rfl) (ob_copy 3 9 (.inl rfl) rfl (.inl rfl) (by kernel_rfl) rfl) ?_
      clear st; intro a5 w5 hbr st; have hs5 := hbr.size; have hb := up hb hbr; clear hbr
      refine sym_op st 10 (Fact.eq (.string (ofB (([45]) ++ (Nm.dec (Rt.tp x)))))) rfl (Nat.le_of_ble_eq_true rfl) rfl rfl (by kernel_rfl) (ob_ccat 9 10 (Nm.dec (Rt.tp x)) ([45]) _ rfl (by simp only [List.length_cons, List.length_nil]; omega) rfl rfl (.inl rfl) (by kernel_rfl) rfl rfl) ?_
      clear st; intro a6 w6 hbr st; have hs6 := hbr.size; have hb := up hb hbr; clear hbr
      have st := st.to (ks' := [(1, Fact.cell b1 (Con.fr k x)), (2, Fact.eq (.string (ofB ([])))), (8, Fact.eq (.bool true)), (9, Fact.eq (.string (ofB (Nm.dec (Rt.tp x))))), (10, Fact.eq (.string (ofB (([45]) ++ (Nm.dec (Rt.tp x))))))]) (fcs ⟨st.at_ 1, fcs ⟨st.at_ 2, fcs ⟨st.at_ 8, fcs ⟨st.at_ 9, fcs ⟨st.at_ 10, fnl⟩⟩⟩⟩⟩)
      refine sym_op st 3 (Fact.eq (.string (ofB (([45]) ++ (Nm.dec (Rt.tp x)))))) rfl (Nat.le_of_ble_eq_true rfl) rfl rfl (by kernel_rfl) (ob_copy 10 3 (.inr rfl) rfl (.inl rfl) (by kernel_rfl) rfl) ?_
      clear st; intro a7 w7 hbr st; have hs7 := hbr.size; have hb := up hb hbr; clear hbr
      refine wpList_nil ?_
      refine then_normal ?_
      refine wp_seq ?_
      refine wp_seq ?_
      refine sym_region st [(11, Fact.ptr (Con.nn k (Rat.den x))), (12, Fact.agg (Con.nn k (Rat.den x))), (13, Fact.eq (.bool false))] [] 3 (by kernel_rfl) (by kernel_rfl) (by kernel_rfl) (Nat.le_of_ble_eq_true rfl) (by kernel_rfl) rfl rfl ?_ ?_
      · refine fcs ⟨Ob.new_ (ob_addr 28 2 1 11 2 (Con.fr k x) (Con.nn k (Rat.den x)) rfl rfl (.inl rfl) (by kernel_rfl) points_cell rfl (Con.fr_den k x) field26_2) (by kernel_rfl), ?_⟩
        refine fcs ⟨Ob.new_ (ob_read 24 11 12 (Con.nn k (Rat.den x)) rfl rfl (.inl rfl) (by kernel_rfl) points_ptr rfl row24 info24) (by kernel_rfl), ?_⟩
        refine fcs ⟨Ob.new_ (ob_call1 38 12 13 _ rfl rfl (.inl rfl) (by kernel_rfl) (by kernel_rfl) (q_isOne k (Rat.den x) false hd1)) (by kernel_rfl), ?_⟩
        exact fnl
      intro a8 w8 st8 hbr8 hfr
      have hs8 := hbr8.size
      have hb := up hb hbr8
      have st : St 21 [(1, Fact.cell b1 (Con.fr k x)), (2, Fact.eq (.string (ofB ([])))), (3, Fact.eq (.string (ofB (([45]) ++ (Nm.dec (Rt.tp x)))))), (13, Fact.eq (.bool false))] a8 w8 := st8.to (fcs ⟨st8.at_ 1, fcs ⟨st8.at_ 2, fcs ⟨st8.at_ 3, fcs ⟨st8.at_ 13, fnl⟩⟩⟩⟩)
      clear st8 hbr8 hfr
      refine wpList_nil ?_
      refine then_normal ?_
      refine wp_cond_false (st.at_ 13) ?_
      refine wp_skip ?_
      refine then_normal ?_
      refine wp_seq ?_
      have st := st.to (ks' := [(1, Fact.cell b1 (Con.fr k x)), (3, Fact.eq (.string (ofB (([45]) ++ (Nm.dec (Rt.tp x)))))), (13, Fact.eq (.bool false))]) (fcs ⟨st.at_ 1, fcs ⟨st.at_ 3, fcs ⟨st.at_ 13, fnl⟩⟩⟩)
      refine sym_region st [(15, Fact.eq (.string (ofB (([45]) ++ (Nm.dec (Rt.tp x)))))), (16, Fact.eq (.string (ofB ((([45]) ++ (Nm.dec (Rt.tp x))) ++ ([47]))))), (17, Fact.ptr (Con.nn k (Rat.den x))), (18, Fact.agg (Con.nn k (Rat.den x))), (19, Fact.eq (.string (ofB (Nm.dec (Rat.den x))))), (20, Fact.eq (.string (ofB (((([45]) ++ (Nm.dec (Rt.tp x))) ++ ([47])) ++ (Nm.dec (Rat.den x)))))), (2, Fact.eq (.string (ofB (((([45]) ++ (Nm.dec (Rt.tp x))) ++ ([47])) ++ (Nm.dec (Rat.den x))))))] [] 7 (by kernel_rfl) (by kernel_rfl) (by kernel_rfl) (Nat.le_of_ble_eq_true rfl) (by kernel_rfl) rfl rfl ?_ ?_
      · refine fcs ⟨Ob.new_ (ob_copy 3 15 (.inl rfl) rfl (.inl rfl) (by kernel_rfl) rfl) (by kernel_rfl), ?_⟩
        refine fcs ⟨Ob.new_ (ob_catc 15 16 (([45]) ++ (Nm.dec (Rt.tp x))) ([47]) _ rfl (by simp only [List.length_append, List.length_cons, List.length_nil]; omega) rfl rfl (.inl rfl) (by kernel_rfl) rfl rfl) (by kernel_rfl), ?_⟩
        refine fcs ⟨Ob.new_ (ob_addr 28 2 1 17 2 (Con.fr k x) (Con.nn k (Rat.den x)) rfl rfl (.inl rfl) (by kernel_rfl) points_cell rfl (Con.fr_den k x) field26_2) (by kernel_rfl), ?_⟩
        refine fcs ⟨Ob.new_ (ob_read 24 17 18 (Con.nn k (Rat.den x)) rfl rfl (.inl rfl) (by kernel_rfl) points_ptr rfl row24 info24) (by kernel_rfl), ?_⟩
        refine fcs ⟨Ob.new_ (ob_call1 54 18 19 _ rfl rfl (.inl rfl) (by kernel_rfl) (by kernel_rfl) (n_format k (Rat.den x))) (by kernel_rfl), ?_⟩
        refine fcs ⟨Ob.new_ (ob_cat 16 19 20 ((([45]) ++ (Nm.dec (Rt.tp x))) ++ ([47])) (Nm.dec (Rat.den x)) (by simp only [List.length_append, List.length_cons, List.length_nil]; omega) rfl rfl (.inl rfl) (by kernel_rfl) (by kernel_rfl) rfl rfl rfl) (by kernel_rfl), ?_⟩
        refine fcs ⟨Ob.new_ (ob_copy 20 2 (.inr rfl) rfl (.inl rfl) (by kernel_rfl) rfl) (by kernel_rfl), ?_⟩
        exact fnl
      intro a9 w9 st9 hbr9 hfr
      have hs9 := hbr9.size
      have hb := up hb hbr9
      have st : St 21 [(2, Fact.eq (.string (ofB (((([45]) ++ (Nm.dec (Rt.tp x))) ++ ([47])) ++ (Nm.dec (Rat.den x))))))] a9 w9 := st9.to (fcs ⟨st9.at_ 2, fnl⟩)
      clear st9 hbr9 hfr
      refine wpList_nil ?_
      refine then_normal ?_
      refine wp_ret ?_
      exact sym_ret1 rfl st.defers (resAt_tmp st 2) hb (fun _ h => by rw [show fmt x = (([45] ++ Nm.dec (Rt.tp x)) ++ [47]) ++ Nm.dec x.den from by unfold fmt; rw [hng, hd1]; rfl]; exact h)
    | true =>
      refine sym_calls 21 [(0, Fact.agg (Con.fr k x))] Tryd.func31 rfl rfl (Nat.le_of_ble_eq_true rfl) (fcs ⟨⟨Nat.le_of_ble_eq_true rfl, hv0⟩, fnl⟩) fun a st => ?_
      have hb := Below.refl w.heap.size w
      refine wp_seq ?_
      refine sym_region st [(1, Fact.var' (Con.fr k x)), (2, Fact.eq (.string (ofB ([]))))] [1] 2 (by kernel_rfl) (by kernel_rfl) (by kernel_rfl) (Nat.le_of_ble_eq_true rfl) (by kernel_rfl) rfl rfl ?_ ?_
      · refine fcs ⟨obn_box 28 0 1 _ (Con.fr k x) rfl rfl rfl (by kernel_rfl) rfl rfl, ?_⟩
        refine fcs ⟨Ob.new_ (ob_const (.string ⟨#[]⟩) 2 (.inr rfl) rfl (.inl rfl) rfl) (by kernel_rfl), ?_⟩
        exact fnl
      intro a1 w1 st1 hbr1 hfr
      have hs1 := hbr1.size
      have hb := up hb hbr1
      obtain ⟨b1, c1⟩ := (show (Fact.var' (Con.fr k x)).holds _ _ from st1.at_ 1)
      have g1 := hfr.ge (s := 1) rfl c1.1
      have st : St 21 [(1, Fact.cell b1 (Con.fr k x)), (2, Fact.eq (.string (ofB ([]))))] a1 w1 := st1.to (fcs ⟨c1, fcs ⟨st1.at_ 2, fnl⟩⟩)
      clear st1 hbr1 hfr c1
      refine wpList_nil ?_
      refine then_normal ?_
      refine wp_seq ?_
      refine sym_region st [(4, Fact.ptr (Con.nn k (Rt.tp x))), (5, Fact.agg (Con.nn k (Rt.tp x))), (6, Fact.eq (.string (ofB (Nm.dec (Rt.tp x))))), (3, Fact.eq (.string (ofB (Nm.dec (Rt.tp x)))))] [] 4 (by kernel_rfl) (by kernel_rfl) (by kernel_rfl) (Nat.le_of_ble_eq_true rfl) (by kernel_rfl) rfl rfl ?_ ?_
      · refine fcs ⟨Ob.new_ (ob_addr 28 1 1 4 1 (Con.fr k x) (Con.nn k (Rt.tp x)) rfl rfl (.inl rfl) (by kernel_rfl) points_cell rfl (Con.fr_tp k x) field26_1) (by kernel_rfl), ?_⟩
        refine fcs ⟨Ob.new_ (ob_read 24 4 5 (Con.nn k (Rt.tp x)) rfl rfl (.inl rfl) (by kernel_rfl) points_ptr rfl row24 info24) (by kernel_rfl), ?_⟩
        refine fcs ⟨Ob.new_ (ob_call1 54 5 6 _ rfl rfl (.inl rfl) (by kernel_rfl) (by kernel_rfl) (n_format k (Rt.tp x))) (by kernel_rfl), ?_⟩
        refine fcs ⟨Ob.new_ (ob_copy 6 3 (.inr rfl) rfl (.inl rfl) (by kernel_rfl) rfl) (by kernel_rfl), ?_⟩
        exact fnl
      intro a2 w2 st2 hbr2 hfr
      have hs2 := hbr2.size
      have hb := up hb hbr2
      have st : St 21 [(1, Fact.cell b1 (Con.fr k x)), (2, Fact.eq (.string (ofB ([])))), (3, Fact.eq (.string (ofB (Nm.dec (Rt.tp x)))))] a2 w2 := st2.to (fcs ⟨st2.at_ 1, fcs ⟨st2.at_ 2, fcs ⟨st2.at_ 3, fnl⟩⟩⟩)
      clear st2 hbr2 hfr
      refine wpList_nil ?_
      refine then_normal ?_
      refine wp_seq ?_
      refine wp_seq ?_
      refine sym_region st [(7, Fact.ptr (Con.bool (Rt.ng x))), (8, Fact.eq (.bool true))] [] 2 (by kernel_rfl) (by kernel_rfl) (by kernel_rfl) (Nat.le_of_ble_eq_true rfl) (by kernel_rfl) rfl rfl ?_ ?_
      · refine fcs ⟨Ob.new_ (ob_addr 28 0 1 7 0 (Con.fr k x) (Con.bool (Rt.ng x)) rfl rfl (.inl rfl) (by kernel_rfl) points_cell rfl (Con.fr_ng k x) field26_0) (by kernel_rfl), ?_⟩
        refine fcs ⟨Ob.new_ (ob_readb 7 8 (Rt.ng x) true hng rfl rfl (.inl rfl) (by kernel_rfl) points_ptr rfl) (by kernel_rfl), ?_⟩
        exact fnl
      intro a3 w3 st3 hbr3 hfr
      have hs3 := hbr3.size
      have hb := up hb hbr3
      have st : St 21 [(1, Fact.cell b1 (Con.fr k x)), (2, Fact.eq (.string (ofB ([])))), (3, Fact.eq (.string (ofB (Nm.dec (Rt.tp x))))), (8, Fact.eq (.bool true))] a3 w3 := st3.to (fcs ⟨st3.at_ 1, fcs ⟨st3.at_ 2, fcs ⟨st3.at_ 3, fcs ⟨st3.at_ 8, fnl⟩⟩⟩⟩)
      clear st3 hbr3 hfr
      refine wpList_nil ?_
      refine then_normal ?_
      refine wp_cond_true (st.at_ 8) ?_
      refine wp_region_lit ?_
      refine sym_op st 9 (Fact.eq (.string (ofB (Nm.dec (Rt.tp x))))) rfl (Nat.le_of_ble_eq_true rfl) rfl rfl (by kernel_rfl) (ob_copy 3 9 (.inl rfl) rfl (.inl rfl) (by kernel_rfl) rfl) ?_
      clear st; intro a5 w5 hbr st; have hs5 := hbr.size; have hb := up hb hbr; clear hbr
      refine sym_op st 10 (Fact.eq (.string (ofB (([45]) ++ (Nm.dec (Rt.tp x)))))) rfl (Nat.le_of_ble_eq_true rfl) rfl rfl (by kernel_rfl) (ob_ccat 9 10 (Nm.dec (Rt.tp x)) ([45]) _ rfl (by simp only [List.length_cons, List.length_nil]; omega) rfl rfl (.inl rfl) (by kernel_rfl) rfl rfl) ?_
      clear st; intro a6 w6 hbr st; have hs6 := hbr.size; have hb := up hb hbr; clear hbr
      have st := st.to (ks' := [(1, Fact.cell b1 (Con.fr k x)), (2, Fact.eq (.string (ofB ([])))), (8, Fact.eq (.bool true)), (9, Fact.eq (.string (ofB (Nm.dec (Rt.tp x))))), (10, Fact.eq (.string (ofB (([45]) ++ (Nm.dec (Rt.tp x))))))]) (fcs ⟨st.at_ 1, fcs ⟨st.at_ 2, fcs ⟨st.at_ 8, fcs ⟨st.at_ 9, fcs ⟨st.at_ 10, fnl⟩⟩⟩⟩⟩)
      refine sym_op st 3 (Fact.eq (.string (ofB (([45]) ++ (Nm.dec (Rt.tp x)))))) rfl (Nat.le_of_ble_eq_true rfl) rfl rfl (by kernel_rfl) (ob_copy 10 3 (.inr rfl) rfl (.inl rfl) (by kernel_rfl) rfl) ?_
      clear st; intro a7 w7 hbr st; have hs7 := hbr.size; have hb := up hb hbr; clear hbr
      refine wpList_nil ?_
      refine then_normal ?_
      refine wp_seq ?_
      refine wp_seq ?_
      refine sym_region st [(11, Fact.ptr (Con.nn k (Rat.den x))), (12, Fact.agg (Con.nn k (Rat.den x))), (13, Fact.eq (.bool true))] [] 3 (by kernel_rfl) (by kernel_rfl) (by kernel_rfl) (Nat.le_of_ble_eq_true rfl) (by kernel_rfl) rfl rfl ?_ ?_
      · refine fcs ⟨Ob.new_ (ob_addr 28 2 1 11 2 (Con.fr k x) (Con.nn k (Rat.den x)) rfl rfl (.inl rfl) (by kernel_rfl) points_cell rfl (Con.fr_den k x) field26_2) (by kernel_rfl), ?_⟩
        refine fcs ⟨Ob.new_ (ob_read 24 11 12 (Con.nn k (Rat.den x)) rfl rfl (.inl rfl) (by kernel_rfl) points_ptr rfl row24 info24) (by kernel_rfl), ?_⟩
        refine fcs ⟨Ob.new_ (ob_call1 38 12 13 _ rfl rfl (.inl rfl) (by kernel_rfl) (by kernel_rfl) (q_isOne k (Rat.den x) true hd1)) (by kernel_rfl), ?_⟩
        exact fnl
      intro a8 w8 st8 hbr8 hfr
      have hs8 := hbr8.size
      have hb := up hb hbr8
      have st : St 21 [(1, Fact.cell b1 (Con.fr k x)), (2, Fact.eq (.string (ofB ([])))), (3, Fact.eq (.string (ofB (([45]) ++ (Nm.dec (Rt.tp x)))))), (13, Fact.eq (.bool true))] a8 w8 := st8.to (fcs ⟨st8.at_ 1, fcs ⟨st8.at_ 2, fcs ⟨st8.at_ 3, fcs ⟨st8.at_ 13, fnl⟩⟩⟩⟩)
      clear st8 hbr8 hfr
      refine wpList_nil ?_
      refine then_normal ?_
      refine wp_cond_true (st.at_ 13) ?_
      refine wp_seq ?_
      have st := st.to (ks' := [(1, Fact.cell b1 (Con.fr k x)), (3, Fact.eq (.string (ofB (([45]) ++ (Nm.dec (Rt.tp x)))))), (13, Fact.eq (.bool true))]) (fcs ⟨st.at_ 1, fcs ⟨st.at_ 3, fcs ⟨st.at_ 13, fnl⟩⟩⟩)
      refine sym_region st [(14, Fact.eq (.string (ofB (([45]) ++ (Nm.dec (Rt.tp x)))))), (2, Fact.eq (.string (ofB (([45]) ++ (Nm.dec (Rt.tp x))))))] [] 2 (by kernel_rfl) (by kernel_rfl) (by kernel_rfl) (Nat.le_of_ble_eq_true rfl) (by kernel_rfl) rfl rfl ?_ ?_
      · refine fcs ⟨Ob.new_ (ob_copy 3 14 (.inl rfl) rfl (.inl rfl) (by kernel_rfl) rfl) (by kernel_rfl), ?_⟩
        refine fcs ⟨Ob.new_ (ob_copy 14 2 (.inr rfl) rfl (.inl rfl) (by kernel_rfl) rfl) (by kernel_rfl), ?_⟩
        exact fnl
      intro a9 w9 st9 hbr9 hfr
      have hs9 := hbr9.size
      have hb := up hb hbr9
      have st : St 21 [(1, Fact.cell b1 (Con.fr k x)), (3, Fact.eq (.string (ofB (([45]) ++ (Nm.dec (Rt.tp x)))))), (2, Fact.eq (.string (ofB (([45]) ++ (Nm.dec (Rt.tp x))))))] a9 w9 := st9.to (fcs ⟨st9.at_ 1, fcs ⟨st9.at_ 3, fcs ⟨st9.at_ 2, fnl⟩⟩⟩)
      clear st9 hbr9 hfr
      refine wpList_nil ?_
      refine then_normal ?_
      refine wp_ret ?_
      exact sym_ret1 rfl st.defers (resAt_tmp st 2) hb (fun _ h => by rw [show fmt x = [45] ++ Nm.dec (Rt.tp x) from by unfold fmt; rw [hng, hd1]; rfl]; exact h)
theorem unsg_len (l : List Nat) : (unsg l).length ≤ l.length := by
  unfold unsg
  split
  · rw [List.length_tail]; omega
  · exact Nat.le_refl _
theorem bef_len (l : List Nat) : (bef l).length ≤ l.length := (List.takeWhile_sublist _).length_le
theorem aft_len (l : List Nat) : (aft l).length ≤ l.length := by
  unfold aft
  rw [List.length_tail]
  have := (List.dropWhile_sublist (l := l) (fun c => c != 47)).length_le
  omega
set_option maxRecDepth 100000 in
theorem q_parse_b2 (l : List Nat) (h : Byt l) (hs : l.length ≤ 1000000) (hcb : ((Nm.chk (bef (unsg l)) : Int) != 0) = false) (hsl : sls (unsg l) = true) (hca : ((Nm.chk (aft (unsg l)) : Int) != 0) = false) (hone : decide (pv (aft (unsg l)) = 1) = false) (hvl : vldT (neg45 l) (pv (bef (unsg l))) (pv (aft (unsg l))) = false) : ∀ v0 w, (Fact.eq (.string (ofB l))).holds v0 w → Calls Tryd.prog 28 #[v0] w (Ret (Fact.two (Fact.agg (Con.tri 1 1 false 0 0)) (Fact.eq (.int .i64 2))) w) := by
  intro v0 w hv0
  have hsu : (unsg l).length ≤ 1000000 := Nat.le_trans (unsg_len l) hs
  have hsb : (bef (unsg l)).length ≤ 1000000 := Nat.le_trans (bef_len _) hsu
  have hsa : (aft (unsg l)).length ≤ 1000000 := Nat.le_trans (aft_len _) hsu
  refine sym_calls 60 [(0, Fact.eq (.string (ofB l)))] Tryd.func28 rfl rfl (Nat.le_of_ble_eq_true rfl) (fcs ⟨⟨Nat.le_of_ble_eq_true rfl, hv0⟩, fnl⟩) fun a st => ?_
  have hb := Below.refl w.heap.size w
  refine wp_seq ?_
  refine sym_region st [(2, Fact.var' (Con.raw 3)), (3, Fact.eq (.int .i64 0))] [2] 2 (by kernel_rfl) (by kernel_rfl) (by kernel_rfl) (Nat.le_of_ble_eq_true rfl) (by kernel_rfl) rfl rfl ?_ ?_
  · refine fcs ⟨obn_new 28 2 _ [.bool false, .slice none 0 0, .slice none 0 0] rfl rfl rfl rfl rfl alloc26, ?_⟩
    refine fcs ⟨Ob.new_ (ob_const (.int .i64 0) 3 (.inr rfl) rfl (.inl rfl) rfl) (by kernel_rfl), ?_⟩
    exact fnl
  intro a1 w1 st1 hbr1 hfr
  have hs1 := hbr1.size
  have hb := up hb hbr1
  obtain ⟨b2, c2⟩ := (show (Fact.var' (Con.raw 3)).holds _ _ from st1.at_ 2)
  have g2 := hfr.ge (s := 2) rfl c2.1
  have st : St 60 [(0, Fact.eq (.string (ofB l))), (2, Fact.cell b2 (Con.raw 3)), (3, Fact.eq (.int .i64 0))] a1 w1 := st1.to (fcs ⟨st1.at_ 0, fcs ⟨c2, fcs ⟨st1.at_ 3, fnl⟩⟩⟩)
  clear st1 hbr1 hfr c2
  refine wpList_nil ?_
  refine then_normal ?_
  refine wp_seq ?_
  refine sym_region st [(14, Fact.eq (.string (ofB l))), (15, Fact.two (Fact.eq (.string (ofB (unsg l)))) (Fact.eq (.bool (neg45 l)))), (13, Fact.two (Fact.eq (.string (ofB (unsg l)))) (Fact.eq (.bool (neg45 l)))), (16, Fact.eq (.string (ofB (unsg l)))), (17, Fact.eq (.bool (neg45 l))), (4, Fact.eq (.string (ofB (unsg l)))), (5, Fact.eq (.bool (neg45 l)))] [] 7 (by kernel_rfl) (by kernel_rfl) (by kernel_rfl) (Nat.le_of_ble_eq_true rfl) (by kernel_rfl) rfl rfl ?_ ?_
  · refine fcs ⟨Ob.new_ (ob_copy 0 14 (.inl rfl) rfl (.inl rfl) (by kernel_rfl) rfl) (by kernel_rfl), ?_⟩
    refine fcs ⟨Ob.new_ (ob_call_tc 48 14 15 (.string ⟨#[45]⟩) _ rfl rfl (.inl rfl) (by kernel_rfl) (by kernel_rfl) (t_cutPrefix l h hs)) (by kernel_rfl), ?_⟩
    refine fcs ⟨Ob.new_ (ob_copy 15 13 (.inl rfl) rfl (.inl rfl) (by kernel_rfl) rfl) (by kernel_rfl), ?_⟩
    refine fcs ⟨Ob.new_ (ob_fst 13 16 (Fact.eq (.string (ofB (unsg l)))) (Fact.eq (.bool (neg45 l))) rfl rfl (.inl rfl) (by kernel_rfl) rfl rfl) (by kernel_rfl), ?_⟩
    refine fcs ⟨Ob.new_ (ob_snd 13 17 (Fact.eq (.string (ofB (unsg l)))) (Fact.eq (.bool (neg45 l))) rfl rfl (.inl rfl) (by kernel_rfl) rfl rfl) (by kernel_rfl), ?_⟩
    refine fcs ⟨Ob.new_ (ob_copy 16 4 (.inr rfl) rfl (.inl rfl) (by kernel_rfl) rfl) (by kernel_rfl), ?_⟩
    refine fcs ⟨Ob.new_ (ob_copy 17 5 (.inr rfl) rfl (.inl rfl) (by kernel_rfl) rfl) (by kernel_rfl), ?_⟩
    exact fnl
  intro a2 w2 st2 hbr2 hfr
  have hs2 := hbr2.size
  have hb := up hb hbr2
  have st : St 60 [(2, Fact.cell b2 (Con.raw 3)), (3, Fact.eq (.int .i64 0)), (4, Fact.eq (.string (ofB (unsg l)))), (5, Fact.eq (.bool (neg45 l)))] a2 w2 := st2.to (fcs ⟨st2.at_ 2, fcs ⟨st2.at_ 3, fcs ⟨st2.at_ 4, fcs ⟨st2.at_ 5, fnl⟩⟩⟩⟩)
  clear st2 hbr2 hfr
  refine wpList_nil ?_
  refine then_normal ?_
  refine wp_seq ?_
  refine sym_region st [(19, Fact.eq (.string (ofB (unsg l)))), (20, Fact.three (Fact.eq (.string (ofB (bef (unsg l))))) (Fact.eq (.string (ofB (aft (unsg l))))) (Fact.eq (.bool true))), (18, Fact.three (Fact.eq (.string (ofB (bef (unsg l))))) (Fact.eq (.string (ofB (aft (unsg l))))) (Fact.eq (.bool true))), (21, Fact.eq (.string (ofB (bef (unsg l))))), (22, Fact.eq (.string (ofB (aft (unsg l))))), (23, Fact.eq (.bool true)), (6, Fact.eq (.string (ofB (bef (unsg l))))), (7, Fact.eq (.string (ofB (aft (unsg l))))), (8, Fact.eq (.bool true))] [] 9 (by kernel_rfl) (by kernel_rfl) (by kernel_rfl) (Nat.le_of_ble_eq_true rfl) (by kernel_rfl) rfl rfl ?_ ?_
  · refine fcs ⟨Ob.new_ (ob_copy 4 19 (.inl rfl) rfl (.inl rfl) (by kernel_rfl) rfl) (by kernel_rfl), ?_⟩
    refine fcs ⟨Ob.new_ (ob_call_tc 49 19 20 (.string ⟨#[47]⟩) _ rfl rfl (.inl rfl) (by kernel_rfl) (by kernel_rfl) (t_cutb (unsg l) h.unsg hsu true hsl)) (by kernel_rfl), ?_⟩
    refine fcs ⟨Ob.new_ (ob_copy 20 18 (.inl rfl) rfl (.inl rfl) (by kernel_rfl) rfl) (by kernel_rfl), ?_⟩
    refine fcs ⟨Ob.new_ (ob_3a 18 21 (Fact.eq (.string (ofB (bef (unsg l))))) (Fact.eq (.string (ofB (aft (unsg l))))) (Fact.eq (.bool true)) rfl rfl (.inl rfl) (by kernel_rfl) rfl rfl) (by kernel_rfl), ?_⟩
    refine fcs ⟨Ob.new_ (ob_3b 18 22 (Fact.eq (.string (ofB (bef (unsg l))))) (Fact.eq (.string (ofB (aft (unsg l))))) (Fact.eq (.bool true)) rfl rfl (.inl rfl) (by kernel_rfl) rfl rfl) (by kernel_rfl), ?_⟩
    refine fcs ⟨Ob.new_ (ob_3c 18 23 (Fact.eq (.string (ofB (bef (unsg l))))) (Fact.eq (.string (ofB (aft (unsg l))))) (Fact.eq (.bool true)) rfl rfl (.inl rfl) (by kernel_rfl) rfl rfl) (by kernel_rfl), ?_⟩
    refine fcs ⟨Ob.new_ (ob_copy 21 6 (.inr rfl) rfl (.inl rfl) (by kernel_rfl) rfl) (by kernel_rfl), ?_⟩
    refine fcs ⟨Ob.new_ (ob_copy 22 7 (.inr rfl) rfl (.inl rfl) (by kernel_rfl) rfl) (by kernel_rfl), ?_⟩
    refine fcs ⟨Ob.new_ (ob_copy 23 8 (.inr rfl) rfl (.inl rfl) (by kernel_rfl) rfl) (by kernel_rfl), ?_⟩
    exact fnl
  intro a3 w3 st3 hbr3 hfr
  have hs3 := hbr3.size
  have hb := up hb hbr3
  have st : St 60 [(2, Fact.cell b2 (Con.raw 3)), (3, Fact.eq (.int .i64 0)), (5, Fact.eq (.bool (neg45 l))), (6, Fact.eq (.string (ofB (bef (unsg l))))), (7, Fact.eq (.string (ofB (aft (unsg l))))), (8, Fact.eq (.bool true))] a3 w3 := st3.to (fcs ⟨st3.at_ 2, fcs ⟨st3.at_ 3, fcs ⟨st3.at_ 5, fcs ⟨st3.at_ 6, fcs ⟨st3.at_ 7, fcs ⟨st3.at_ 8, fnl⟩⟩⟩⟩⟩⟩)
  clear st3 hbr3 hfr
  refine wpList_nil ?_
  refine then_normal ?_
  refine wp_seq ?_
  refine sym_region st [(25, Fact.eq (.string (ofB (bef (unsg l))))), (26, Fact.two (Fact.agg (Con.nn 42 (pv (bef (unsg l))))) (Fact.eq (.int .i64 (Nm.chk (bef (unsg l)) : Int)))), (24, Fact.two (Fact.agg (Con.nn 42 (pv (bef (unsg l))))) (Fact.eq (.int .i64 (Nm.chk (bef (unsg l)) : Int)))), (27, Fact.agg (Con.nn 42 (pv (bef (unsg l))))), (28, Fact.eq (.int .i64 (Nm.chk (bef (unsg l)) : Int))), (9, Fact.var' (Con.raw 1))] [9] 6 (by kernel_rfl) (by kernel_rfl) (by kernel_rfl) (Nat.le_of_ble_eq_true rfl) (by kernel_rfl) rfl rfl ?_ ?_
  · refine fcs ⟨Ob.new_ (ob_copy 6 25 (.inl rfl) rfl (.inl rfl) (by kernel_rfl) rfl) (by kernel_rfl), ?_⟩
    refine fcs ⟨Ob.new_ (ob_call1 50 25 26 _ rfl rfl (.inl rfl) (by kernel_rfl) (by kernel_rfl) (n_parse (bef (unsg l)) h.unsg.bef hsb)) (by kernel_rfl), ?_⟩
    refine fcs ⟨Ob.new_ (ob_copy 26 24 (.inl rfl) rfl (.inl rfl) (by kernel_rfl) rfl) (by kernel_rfl), ?_⟩
    refine fcs ⟨Ob.new_ (ob_fst 24 27 (Fact.agg (Con.nn 42 (pv (bef (unsg l))))) (Fact.eq (.int .i64 (Nm.chk (bef (unsg l)) : Int))) rfl rfl (.inl rfl) (by kernel_rfl) rfl rfl) (by kernel_rfl), ?_⟩
    refine fcs ⟨Ob.new_ (ob_snd 24 28 (Fact.agg (Con.nn 42 (pv (bef (unsg l))))) (Fact.eq (.int .i64 (Nm.chk (bef (unsg l)) : Int))) rfl rfl (.inl rfl) (by kernel_rfl) rfl rfl) (by kernel_rfl), ?_⟩
    refine fcs ⟨obn_new 24 9 _ [.slice none 0 0] rfl rfl rfl rfl rfl alloc24, ?_⟩
    exact fnl
  intro a4 w4 st4 hbr4 hfr
  have hs4 := hbr4.size
  have hb := up hb hbr4
  obtain ⟨b9, c9⟩ := (show (Fact.var' (Con.raw 1)).holds _ _ from st4.at_ 9)
  have g9 := hfr.ge (s := 9) rfl c9.1
  have st : St 60 [(2, Fact.cell b2 (Con.raw 3)), (3, Fact.eq (.int .i64 0)), (5, Fact.eq (.bool (neg45 l))), (7, Fact.eq (.string (ofB (aft (unsg l))))), (8, Fact.eq (.bool true)), (27, Fact.agg (Con.nn 42 (pv (bef (unsg l))))), (28, Fact.eq (.int .i64 (Nm.chk (bef (unsg l)) : Int))), (9, Fact.cell b9 (Con.raw 1))] a4 w4 := st4.to (fcs ⟨st4.at_ 2, fcs ⟨st4.at_ 3, fcs ⟨st4.at_ 5, fcs ⟨st4.at_ 7, fcs ⟨st4.at_ 8, fcs ⟨st4.at_ 27, fcs ⟨st4.at_ 28, fcs ⟨c9, fnl⟩⟩⟩⟩⟩⟩⟩⟩)
  clear st4 hbr4 hfr c9
  refine sym_store st 24 9 27 b9 (Con.raw 1) (Con.nn 42 (pv (bef (unsg l)))) [(2, Fact.cell b2 (Con.raw 3)), (3, Fact.eq (.int .i64 0)), (5, Fact.eq (.bool (neg45 l))), (7, Fact.eq (.string (ofB (aft (unsg l))))), (8, Fact.eq (.bool true)), (28, Fact.eq (.int .i64 (Nm.chk (bef (unsg l)) : Int))), (9, Fact.cell b9 (Con.nn 42 (pv (bef (unsg l)))))] rfl rfl rfl rfl rfl rfl info24 ?_ ?_
  · exact fcs ⟨.inr ⟨rfl, safe_cell _ (by omega)⟩, fcs ⟨.inr ⟨rfl, safe_eq _ _⟩, fcs ⟨.inr ⟨rfl, safe_eq _ _⟩, fcs ⟨.inr ⟨rfl, safe_eq _ _⟩, fcs ⟨.inr ⟨rfl, safe_eq _ _⟩, fcs ⟨.inr ⟨rfl, safe_eq _ _⟩, fcs ⟨.inl rfl, fnl⟩⟩⟩⟩⟩⟩⟩
  clear st; intro w5 hB hsz5 st
  have hb := hB _ _ hb (by omega) (by omega)
  clear hB
  refine sym_op st 10 (Fact.eq (.int .i64 (Nm.chk (bef (unsg l)) : Int))) rfl (Nat.le_of_ble_eq_true rfl) rfl rfl (by kernel_rfl) (ob_copy 28 10 (.inr rfl) rfl (.inl rfl) (by kernel_rfl) rfl) ?_
  clear st; intro a6 w6 hbr st; have hs6 := hbr.size; have hb := up hb hbr; clear hbr
  refine wpList_nil ?_
  refine then_normal ?_
  refine wp_seq ?_
  refine wp_seq ?_
  refine sym_region st [(29, Fact.eq (.int .i64 (Nm.chk (bef (unsg l)) : Int))), (30, Fact.eq (.bool false))] [] 2 (by kernel_rfl) (by kernel_rfl) (by kernel_rfl) (Nat.le_of_ble_eq_true rfl) (by kernel_rfl) rfl rfl ?_ ?_
  · refine fcs ⟨Ob.new_ (ob_copy 10 29 (.inl rfl) rfl (.inl rfl) (by kernel_rfl) rfl) (by kernel_rfl), ?_⟩
    refine fcs ⟨Ob.new_ (ob_nec 29 30 .i64 29 _ (Nm.chk (bef (unsg l)) : Int) 0 false hcb rfl rfl (.inl rfl) (by kernel_rfl) rfl rfl) (by kernel_rfl), ?_⟩
    exact fnl
  intro a7 w7 st7 hbr7 hfr
  have hs7 := hbr7.size
  have hb := up hb hbr7
  have st : St 60 [(2, Fact.cell b2 (Con.raw 3)), (3, Fact.eq (.int .i64 0)), (5, Fact.eq (.bool (neg45 l))), (7, Fact.eq (.string (ofB (aft (unsg l))))), (8, Fact.eq (.bool true)), (9, Fact.cell b9 (Con.nn 42 (pv (bef (unsg l))))), (10, Fact.eq (.int .i64 (Nm.chk (bef (unsg l)) : Int))), (30, Fact.eq (.bool false))] a7 w7 := st7.to (fcs ⟨st7.at_ 2, fcs ⟨st7.at_ 3, fcs ⟨st7.at_ 5, fcs ⟨st7.at_ 7, fcs ⟨st7.at_ 8, fcs ⟨st7.at_ 9, fcs ⟨st7.at_ 10, fcs ⟨st7.at_ 30, fnl⟩⟩⟩⟩⟩⟩⟩⟩)
  clear st7 hbr7 hfr
  refine wpList_nil ?_
  refine then_normal ?_
  refine wp_cond_false (st.at_ 30) ?_
  refine wp_skip ?_
  refine then_normal ?_
  refine wp_seq ?_
  refine sym_region st [(33, Fact.agg (Con.nn 1 1)), (11, Fact.var' (Con.raw 1))] [11] 2 (by kernel_rfl) (by kernel_rfl) (by kernel_rfl) (Nat.le_of_ble_eq_true rfl) (by kernel_rfl) rfl rfl ?_ ?_
  · refine fcs ⟨Ob.new_ (ob_callc 27 _ 33 _ rfl rfl (.inl rfl) (by kernel_rfl) (n_of 1 1 (by decide) (by unfold Nm.Sz; decide) (by decide))) (by kernel_rfl), ?_⟩
    refine fcs ⟨obn_new 24 11 _ [.slice none 0 0] rfl rfl rfl rfl rfl alloc24, ?_⟩
    exact fnl
  intro a8 w8 st8 hbr8 hfr
  have hs8 := hbr8.size
  have hb := up hb hbr8
  obtain ⟨b11, c11⟩ := (show (Fact.var' (Con.raw 1)).holds _ _ from st8.at_ 11)
  have g11 := hfr.ge (s := 11) rfl c11.1
  have st : St 60 [(2, Fact.cell b2 (Con.raw 3)), (3, Fact.eq (.int .i64 0)), (5, Fact.eq (.bool (neg45 l))), (7, Fact.eq (.string (ofB (aft (unsg l))))), (8, Fact.eq (.bool true)), (9, Fact.cell b9 (Con.nn 42 (pv (bef (unsg l))))), (10, Fact.eq (.int .i64 (Nm.chk (bef (unsg l)) : Int))), (33, Fact.agg (Con.nn 1 1)), (11, Fact.cell b11 (Con.raw 1))] a8 w8 := st8.to (fcs ⟨st8.at_ 2, fcs ⟨st8.at_ 3, fcs ⟨st8.at_ 5, fcs ⟨st8.at_ 7, fcs ⟨st8.at_ 8, fcs ⟨st8.at_ 9, fcs ⟨st8.at_ 10, fcs ⟨st8.at_ 33, fcs ⟨c11, fnl⟩⟩⟩⟩⟩⟩⟩⟩⟩)
  clear st8 hbr8 hfr c11
  refine sym_store st 24 11 33 b11 (Con.raw 1) (Con.nn 1 1) [(2, Fact.cell b2 (Con.raw 3)), (3, Fact.eq (.int .i64 0)), (5, Fact.eq (.bool (neg45 l))), (7, Fact.eq (.string (ofB (aft (unsg l))))), (8, Fact.eq (.bool true)), (9, Fact.cell b9 (Con.nn 42 (pv (bef (unsg l))))), (10, Fact.eq (.int .i64 (Nm.chk (bef (unsg l)) : Int))), (11, Fact.cell b11 (Con.nn 1 1))] rfl rfl rfl rfl rfl rfl info24 ?_ ?_
  · exact fcs ⟨.inr ⟨rfl, safe_cell _ (by omega)⟩, fcs ⟨.inr ⟨rfl, safe_eq _ _⟩, fcs ⟨.inr ⟨rfl, safe_eq _ _⟩, fcs ⟨.inr ⟨rfl, safe_eq _ _⟩, fcs ⟨.inr ⟨rfl, safe_eq _ _⟩, fcs ⟨.inr ⟨rfl, safe_cell _ (by omega)⟩, fcs ⟨.inr ⟨rfl, safe_eq _ _⟩, fcs ⟨.inl rfl, fnl⟩⟩⟩⟩⟩⟩⟩⟩
  clear st; intro w9 hB hsz9 st
  have hb := hB _ _ hb (by omega) (by omega)
  clear hB
  refine wpList_nil ?_
  refine then_normal ?_
  refine wp_seq ?_
  refine wp_seq ?_
  refine sym_region st [(34, Fact.eq (.bool true))] [] 1 (by kernel_rfl) (by kernel_rfl) (by kernel_rfl) (Nat.le_of_ble_eq_true rfl) (by kernel_rfl) rfl rfl ?_ ?_
  · refine fcs ⟨Ob.new_ (ob_copy 8 34 (.inl rfl) rfl (.inl rfl) (by kernel_rfl) rfl) (by kernel_rfl), ?_⟩
    exact fnl
  intro a10 w10 st10 hbr10 hfr
  have hs10 := hbr10.size
  have hb := up hb hbr10
  have st : St 60 [(2, Fact.cell b2 (Con.raw 3)), (3, Fact.eq (.int .i64 0)), (5, Fact.eq (.bool (neg45 l))), (7, Fact.eq (.string (ofB (aft (unsg l))))), (8, Fact.eq (.bool true)), (9, Fact.cell b9 (Con.nn 42 (pv (bef (unsg l))))), (10, Fact.eq (.int .i64 (Nm.chk (bef (unsg l)) : Int))), (11, Fact.cell b11 (Con.nn 1 1)), (34, Fact.eq (.bool true))] a10 w10 := st10.to (fcs ⟨st10.at_ 2, fcs ⟨st10.at_ 3, fcs ⟨st10.at_ 5, fcs ⟨st10.at_ 7, fcs ⟨st10.at_ 8, fcs ⟨st10.at_ 9, fcs ⟨st10.at_ 10, fcs ⟨st10.at_ 11, fcs ⟨st10.at_ 34, fnl⟩⟩⟩⟩⟩⟩⟩⟩⟩)
  clear st10 hbr10 hfr
  refine wpList_nil ?_
  refine then_normal ?_
  refine wp_cond_true (st.at_ 34) ?_
  refine wp_seq ?_
  have st := st.to (ks' := [(2, Fact.cell b2 (Con.raw 3)), (3, Fact.eq (.int .i64 0)), (5, Fact.eq (.bool (neg45 l))), (7, Fact.eq (.string (ofB (aft (unsg l))))), (8, Fact.eq (.bool true)), (9, Fact.cell b9 (Con.nn 42 (pv (bef (unsg l))))), (11, Fact.cell b11 (Con.nn 1 1)), (34, Fact.eq (.bool true))]) (fcs ⟨st.at_ 2, fcs ⟨st.at_ 3, fcs ⟨st.at_ 5, fcs ⟨st.at_ 7, fcs ⟨st.at_ 8, fcs ⟨st.at_ 9, fcs ⟨st.at_ 11, fcs ⟨st.at_ 34, fnl⟩⟩⟩⟩⟩⟩⟩⟩)
  refine sym_region st [(36, Fact.eq (.string (ofB (aft (unsg l))))), (37, Fact.two (Fact.agg (Con.nn 42 (pv (aft (unsg l))))) (Fact.eq (.int .i64 (Nm.chk (aft (unsg l)) : Int)))), (35, Fact.two (Fact.agg (Con.nn 42 (pv (aft (unsg l))))) (Fact.eq (.int .i64 (Nm.chk (aft (unsg l)) : Int)))), (38, Fact.agg (Con.nn 42 (pv (aft (unsg l))))), (39, Fact.eq (.int .i64 (Nm.chk (aft (unsg l)) : Int)))] [] 5 (by kernel_rfl) (by kernel_rfl) (by kernel_rfl) (Nat.le_of_ble_eq_true rfl) (by kernel_rfl) rfl rfl ?_ ?_
  · refine fcs ⟨Ob.new_ (ob_copy 7 36 (.inl rfl) rfl (.inl rfl) (by kernel_rfl) rfl) (by kernel_rfl), ?_⟩
    refine fcs ⟨Ob.new_ (ob_call1 50 36 37 _ rfl rfl (.inl rfl) (by kernel_rfl) (by kernel_rfl) (n_parse (aft (unsg l)) h.unsg.aft hsa)) (by kernel_rfl), ?_⟩
    refine fcs ⟨Ob.new_ (ob_copy 37 35 (.inl rfl) rfl (.inl rfl) (by kernel_rfl) rfl) (by kernel_rfl), ?_⟩
    refine fcs ⟨Ob.new_ (ob_fst 35 38 (Fact.agg (Con.nn 42 (pv (aft (unsg l))))) (Fact.eq (.int .i64 (Nm.chk (aft (unsg l)) : Int))) rfl rfl (.inl rfl) (by kernel_rfl) rfl rfl) (by kernel_rfl), ?_⟩
    refine fcs ⟨Ob.new_ (ob_snd 35 39 (Fact.agg (Con.nn 42 (pv (aft (unsg l))))) (Fact.eq (.int .i64 (Nm.chk (aft (unsg l)) : Int))) rfl rfl (.inl rfl) (by kernel_rfl) rfl rfl) (by kernel_rfl), ?_⟩
    exact fnl
  intro a11 w11 st11 hbr11 hfr
  have hs11 := hbr11.size
  have hb := up hb hbr11
  have st : St 60 [(2, Fact.cell b2 (Con.raw 3)), (3, Fact.eq (.int .i64 0)), (5, Fact.eq (.bool (neg45 l))), (8, Fact.eq (.bool true)), (9, Fact.cell b9 (Con.nn 42 (pv (bef (unsg l))))), (11, Fact.cell b11 (Con.nn 1 1)), (38, Fact.agg (Con.nn 42 (pv (aft (unsg l))))), (39, Fact.eq (.int .i64 (Nm.chk (aft (unsg l)) : Int)))] a11 w11 := st11.to (fcs ⟨st11.at_ 2, fcs ⟨st11.at_ 3, fcs ⟨st11.at_ 5, fcs ⟨st11.at_ 8, fcs ⟨st11.at_ 9, fcs ⟨st11.at_ 11, fcs ⟨st11.at_ 38, fcs ⟨st11.at_ 39, fnl⟩⟩⟩⟩⟩⟩⟩⟩)
  clear st11 hbr11 hfr
  refine sym_store st 24 11 38 b11 (Con.nn 1 1) (Con.nn 42 (pv (aft (unsg l)))) [(2, Fact.cell b2 (Con.raw 3)), (3, Fact.eq (.int .i64 0)), (5, Fact.eq (.bool (neg45 l))), (8, Fact.eq (.bool true)), (9, Fact.cell b9 (Con.nn 42 (pv (bef (unsg l))))), (11, Fact.cell b11 (Con.nn 42 (pv (aft (unsg l))))), (39, Fact.eq (.int .i64 (Nm.chk (aft (unsg l)) : Int)))] rfl rfl rfl rfl rfl rfl info24 ?_ ?_
  · exact fcs ⟨.inr ⟨rfl, safe_cell _ (by omega)⟩, fcs ⟨.inr ⟨rfl, safe_eq _ _⟩, fcs ⟨.inr ⟨rfl, safe_eq _ _⟩, fcs ⟨.inr ⟨rfl, safe_eq _ _⟩, fcs ⟨.inr ⟨rfl, safe_cell _ (by omega)⟩, fcs ⟨.inl rfl, fcs ⟨.inr ⟨rfl, safe_eq _ _⟩, fnl⟩⟩⟩⟩⟩⟩⟩
  clear st; intro w12 hB hsz12 st
  have hb := hB _ _ hb (by omega) (by omega)
  clear hB
  refine sym_op st 10 (Fact.eq (.int .i64 (Nm.chk (aft (unsg l)) : Int))) rfl (Nat.le_of_ble_eq_true rfl) rfl rfl (by kernel_rfl) (ob_copy 39 10 (.inr rfl) rfl (.inl rfl) (by kernel_rfl) rfl) ?_
  clear st; intro a13 w13 hbr st; have hs13 := hbr.size; have hb := up hb hbr; clear hbr
  refine wpList_nil ?_
  refine then_normal ?_
  refine wp_seq ?_
  refine sym_region st [(40, Fact.eq (.int .i64 (Nm.chk (aft (unsg l)) : Int))), (41, Fact.eq (.bool false))] [] 2 (by kernel_rfl) (by kernel_rfl) (by kernel_rfl) (Nat.le_of_ble_eq_true rfl) (by kernel_rfl) rfl rfl ?_ ?_
  · refine fcs ⟨Ob.new_ (ob_copy 10 40 (.inl rfl) rfl (.inl rfl) (by kernel_rfl) rfl) (by kernel_rfl), ?_⟩
    refine fcs ⟨Ob.new_ (ob_nec 40 41 .i64 29 _ (Nm.chk (aft (unsg l)) : Int) 0 false hca rfl rfl (.inl rfl) (by kernel_rfl) rfl rfl) (by kernel_rfl), ?_⟩
    exact fnl
  intro a14 w14 st14 hbr14 hfr
  have hs14 := hbr14.size
  have hb := up hb hbr14
  have st : St 60 [(2, Fact.cell b2 (Con.raw 3)), (3, Fact.eq (.int .i64 0)), (5, Fact.eq (.bool (neg45 l))), (8, Fact.eq (.bool true)), (9, Fact.cell b9 (Con.nn 42 (pv (bef (unsg l))))), (11, Fact.cell b11 (Con.nn 42 (pv (aft (unsg l))))), (10, Fact.eq (.int .i64 (Nm.chk (aft (unsg l)) : Int))), (41, Fact.eq (.bool false))] a14 w14 := st14.to (fcs ⟨st14.at_ 2, fcs ⟨st14.at_ 3, fcs ⟨st14.at_ 5, fcs ⟨st14.at_ 8, fcs ⟨st14.at_ 9, fcs ⟨st14.at_ 11, fcs ⟨st14.at_ 10, fcs ⟨st14.at_ 41, fnl⟩⟩⟩⟩⟩⟩⟩⟩)
  clear st14 hbr14 hfr
  refine wpList_nil ?_
  refine then_normal ?_
  refine wp_cond_false (st.at_ 41) ?_
  refine wp_skip ?_
  refine then_normal ?_
  refine wp_seq ?_
  refine sym_region st [(44, Fact.eq (.bool (neg45 l))), (45, Fact.agg (Con.nn 42 (pv (bef (unsg l))))), (46, Fact.agg (Con.nn 42 (pv (aft (unsg l))))), (47, Fact.agg (Con.tri 42 42 (neg45 l) (pv (bef (unsg l))) (pv (aft (unsg l))))), (12, Fact.var' (Con.raw 3))] [12] 5 (by kernel_rfl) (by kernel_rfl) (by kernel_rfl) (Nat.le_of_ble_eq_true rfl) (by kernel_rfl) rfl rfl ?_ ?_
  · refine fcs ⟨Ob.new_ (ob_copy 5 44 (.inl rfl) rfl (.inl rfl) (by kernel_rfl) rfl) (by kernel_rfl), ?_⟩
    refine fcs ⟨Ob.new_ (ob_read 24 9 45 (Con.nn 42 (pv (bef (unsg l)))) rfl rfl (.inl rfl) (by kernel_rfl) points_cell rfl row24 info24) (by kernel_rfl), ?_⟩
    refine fcs ⟨Ob.new_ (ob_read 24 11 46 (Con.nn 42 (pv (aft (unsg l)))) rfl rfl (.inl rfl) (by kernel_rfl) points_cell rfl row24 info24) (by kernel_rfl), ?_⟩
    refine fcs ⟨Ob.new_ (ob_buildtri 44 45 46 47 42 42 (pv (bef (unsg l))) (pv (aft (unsg l))) (neg45 l) rfl rfl (.inl rfl) (by kernel_rfl) (by kernel_rfl) (by kernel_rfl) rfl rfl rfl rfl) (by kernel_rfl), ?_⟩
    refine fcs ⟨obn_new 28 12 _ [.bool false, .slice none 0 0, .slice none 0 0] rfl rfl rfl rfl rfl alloc26, ?_⟩
    exact fnl
  intro a15 w15 st15 hbr15 hfr
  have hs15 := hbr15.size
  have hb := up hb hbr15
  obtain ⟨b12, c12⟩ := (show (Fact.var' (Con.raw 3)).holds _ _ from st15.at_ 12)
  have g12 := hfr.ge (s := 12) rfl c12.1
  have st : St 60 [(2, Fact.cell b2 (Con.raw 3)), (3, Fact.eq (.int .i64 0)), (8, Fact.eq (.bool true)), (11, Fact.cell b11 (Con.nn 42 (pv (aft (unsg l))))), (47, Fact.agg (Con.tri 42 42 (neg45 l) (pv (bef (unsg l))) (pv (aft (unsg l))))), (12, Fact.cell b12 (Con.raw 3))] a15 w15 := st15.to (fcs ⟨st15.at_ 2, fcs ⟨st15.at_ 3, fcs ⟨st15.at_ 8, fcs ⟨st15.at_ 11, fcs ⟨st15.at_ 47, fcs ⟨c12, fnl⟩⟩⟩⟩⟩⟩)
  clear st15 hbr15 hfr c12
  refine sym_store st 28 12 47 b12 (Con.raw 3) (Con.tri 42 42 (neg45 l) (pv (bef (unsg l))) (pv (aft (unsg l)))) [(2, Fact.cell b2 (Con.raw 3)), (3, Fact.eq (.int .i64 0)), (8, Fact.eq (.bool true)), (11, Fact.cell b11 (Con.nn 42 (pv (aft (unsg l))))), (12, Fact.cell b12 (Con.tri 42 42 (neg45 l) (pv (bef (unsg l))) (pv (aft (unsg l)))))] rfl rfl rfl rfl rfl rfl info26 ?_ ?_
  · exact fcs ⟨.inr ⟨rfl, safe_cell _ (by omega)⟩, fcs ⟨.inr ⟨rfl, safe_eq _ _⟩, fcs ⟨.inr ⟨rfl, safe_eq _ _⟩, fcs ⟨.inr ⟨rfl, safe_cell _ (by omega)⟩, fcs ⟨.inl rfl, fnl⟩⟩⟩⟩⟩
  clear st; intro w16 hB hsz16 st
  have hb := hB _ _ hb (by omega) (by omega)
  clear hB
  refine wpList_nil ?_
  refine then_normal ?_
  refine wp_seq ?_
  refine wp_seq ?_
  refine sym_region st [(48, Fact.eq (.bool true)), (49, Fact.eq (.bool true)), (50, Fact.agg (Con.nn 42 (pv (aft (unsg l))))), (51, Fact.eq (.bool false)), (52, Fact.eq (.bool false)), (53, Fact.eq (.bool false)), (54, Fact.agg (Con.tri 42 42 (neg45 l) (pv (bef (unsg l))) (pv (aft (unsg l))))), (55, Fact.eq (.bool false)), (56, Fact.eq (.bool true)), (57, Fact.eq (.bool true))] [] 10 (by kernel_rfl) (by kernel_rfl) (by kernel_rfl) (Nat.le_of_ble_eq_true rfl) (by kernel_rfl) rfl rfl ?_ ?_
  · refine fcs ⟨Ob.new_ (ob_copy 8 48 (.inl rfl) rfl (.inl rfl) (by kernel_rfl) rfl) (by kernel_rfl), ?_⟩
    refine fcs ⟨Ob.new_ (ob_copy 48 49 (.inl rfl) rfl (.inl rfl) (by kernel_rfl) rfl) (by kernel_rfl), ?_⟩
    refine fcs ⟨Ob.new_ (ob_read 24 11 50 (Con.nn 42 (pv (aft (unsg l)))) rfl rfl (.inr ⟨_, _, _, rfl, rfl, by kernel_rfl, by decide, rfl⟩) (by kernel_rfl) points_cell rfl row24 info24) (by kernel_rfl), ?_⟩
    refine fcs ⟨Ob.new_ (ob_call1 38 50 51 _ rfl rfl (.inr ⟨_, _, _, rfl, rfl, by kernel_rfl, by decide, rfl⟩) (by kernel_rfl) (by kernel_rfl) (q_isOne 42 (pv (aft (unsg l))) false hone)) (by kernel_rfl), ?_⟩
    refine fcs ⟨Ob.new_ (ob_pick 49 51 52 _ rfl rfl (.inl rfl) (by kernel_rfl) (by kernel_rfl) rfl rfl) (by kernel_rfl), ?_⟩
    refine fcs ⟨Ob.new_ (ob_copy 52 53 (.inl rfl) rfl (.inl rfl) (by kernel_rfl) rfl) (by kernel_rfl), ?_⟩
    refine fcs ⟨Ob.new_ (ob_read 28 12 54 (Con.tri 42 42 (neg45 l) (pv (bef (unsg l))) (pv (aft (unsg l)))) rfl rfl (.inr ⟨_, _, _, rfl, rfl, by kernel_rfl, by decide, rfl⟩) (by kernel_rfl) points_cell rfl row26 info26) (by kernel_rfl), ?_⟩
    refine fcs ⟨Ob.new_ (ob_call1 16 54 55 _ rfl rfl (.inr ⟨_, _, _, rfl, rfl, by kernel_rfl, by decide, rfl⟩) (by kernel_rfl) (by kernel_rfl) (q_valid_tri 42 42 (neg45 l) (pv (bef (unsg l))) (pv (aft (unsg l))) (by omega) (by omega) false hvl)) (by kernel_rfl), ?_⟩
    refine fcs ⟨Ob.new_ (ob_not 55 56 false true rfl rfl rfl (.inr ⟨_, _, _, rfl, rfl, by kernel_rfl, by decide, rfl⟩) (by kernel_rfl) rfl rfl) (by kernel_rfl), ?_⟩
    refine fcs ⟨Ob.new_ (ob_pick_else 53 56 57 (.bool true) rfl rfl (.inl rfl) (by kernel_rfl) (by kernel_rfl) rfl rfl) (by kernel_rfl), ?_⟩
    exact fnl
  intro a17 w17 st17 hbr17 hfr
  have hs17 := hbr17.size
  have hb := up hb hbr17
  have st : St 60 [(2, Fact.cell b2 (Con.raw 3)), (3, Fact.eq (.int .i64 0)), (12, Fact.cell b12 (Con.tri 42 42 (neg45 l) (pv (bef (unsg l))) (pv (aft (unsg l))))), (57, Fact.eq (.bool true))] a17 w17 := st17.to (fcs ⟨st17.at_ 2, fcs ⟨st17.at_ 3, fcs ⟨st17.at_ 12, fcs ⟨st17.at_ 57, fnl⟩⟩⟩⟩)
  clear st17 hbr17 hfr
  refine wpList_nil ?_
  refine then_normal ?_
  refine wp_cond_true (st.at_ 57) ?_
  refine wp_seq ?_
  have st := st.to (ks' := [(2, Fact.cell b2 (Con.raw 3)), (12, Fact.cell b12 (Con.tri 42 42 (neg45 l) (pv (bef (unsg l))) (pv (aft (unsg l))))), (57, Fact.eq (.bool true))]) (fcs ⟨st.at_ 2, fcs ⟨st.at_ 12, fcs ⟨st.at_ 57, fnl⟩⟩⟩)
  refine sym_region st [(58, Fact.agg (Con.tri 1 1 false 0 0))] [] 1 (by kernel_rfl) (by kernel_rfl) (by kernel_rfl) (Nat.le_of_ble_eq_true rfl) (by kernel_rfl) rfl rfl ?_ ?_
  · refine fcs ⟨Ob.new_ (ob_buildzero 58 rfl rfl (.inl rfl) rfl) (by kernel_rfl), ?_⟩
    exact fnl
  intro a18 w18 st18 hbr18 hfr
  have hs18 := hbr18.size
  have hb := up hb hbr18
  have st : St 60 [(2, Fact.cell b2 (Con.raw 3)), (12, Fact.cell b12 (Con.tri 42 42 (neg45 l) (pv (bef (unsg l))) (pv (aft (unsg l))))), (58, Fact.agg (Con.tri 1 1 false 0 0))] a18 w18 := st18.to (fcs ⟨st18.at_ 2, fcs ⟨st18.at_ 12, fcs ⟨st18.at_ 58, fnl⟩⟩⟩)
  clear st18 hbr18 hfr
  refine sym_store st 28 2 58 b2 (Con.raw 3) (Con.tri 1 1 false 0 0) [(2, Fact.cell b2 (Con.tri 1 1 false 0 0)), (12, Fact.cell b12 (Con.tri 42 42 (neg45 l) (pv (bef (unsg l))) (pv (aft (unsg l)))))] rfl rfl rfl rfl rfl rfl info26 ?_ ?_
  · exact fcs ⟨.inl rfl, fcs ⟨.inr ⟨rfl, safe_cell _ (by omega)⟩, fnl⟩⟩
  clear st; intro w19 hB hsz19 st
  have hb := hB _ _ hb (by omega) (by omega)
  clear hB
  refine sym_op st 3 (Fact.eq (.int .i64 2)) rfl (Nat.le_of_ble_eq_true rfl) rfl rfl (by kernel_rfl) (ob_const (.int .i64 2) 3 (.inr rfl) rfl (.inl rfl) rfl) ?_
  clear st; intro a20 w20 hbr st; have hs20 := hbr.size; have hb := up hb hbr; clear hbr
  refine wpList_nil ?_
  refine then_normal ?_
  refine wp_ret ?_
  exact sym_ret2 rfl st.defers (resAt_cell st 2 b2 28 (Con.tri 1 1 false 0 0) rfl row26 info26) (resAt_tmp st 3) hb (fun v u h1 h2 => ⟨v, u, rfl, h1, h2⟩)
end Go.Proofs.YtjfehdkfogdpgaaDoor
namespace Go.Proofs.YtjfehdkfogdpgaaDoor
open Go.RowKit
theorem dec_sz {k p : Nat} (hk : k ≤ 41) (h : Nm.Sz k p) : (Nm.dec p).length ≤ 400 := by
  have h1 : (4294967296 : Nat) ^ 41 < 10 ^ 400 := by decide +kernel
  have h2 : 4294967296 ^ k ≤ 4294967296 ^ 41 := Nat.pow_le_pow_right (by decide) hk
  exact Nat.le_of_not_lt (Nm.dec_short (Nat.lt_of_lt_of_le h (Nat.le_trans h2 (Nat.le_of_lt h1))))
theorem q_formatk (k : Nat) (x : Rat) (hk : k ≤ 41) (l : List Nat) (hl : fmt x = l) : ∀ v w, (Fact.agg (Con.fr k x)).holds v w → Calls Tryd.prog 31 #[v] w (Ret (Fact.eq (.string (ofB l))) w) := by
  intro v w hv
  have z := Fact.fr_sz hv
  have h1 := dec_sz hk z.1
  have h2 := dec_sz hk z.2
  subst hl
  exact q_format k x (by omega) (by omega) v w hv
theorem q_floorb (k : Nat) (x : Rat) (hk : k + 1 ≤ 400) (n : Int) (b : Bool) (hn : asI x.floor = n) (hb : fitsI x.floor = b) : ∀ v w, (Fact.agg (Con.fr k x)).holds v w → Calls Tryd.prog 29 #[v] w (Ret (Fact.two (Fact.eq (.int .i64 n)) (Fact.eq (.bool b))) w) := by
  subst hn hb; exact q_floor k x hk
theorem q_ratio_c (n m : Int) (h : -9223372036854775808 ≤ n ∧ n ≤ 9223372036854775807) (h2 : -9223372036854775808 ≤ m ∧ m ≤ 9223372036854775807) (hm : Int.natAbs m ≠ 0) (x : Rat) (hx : Rt.of ((decide (n < 0)) != (decide (m < 0))) (Int.natAbs n) (Int.natAbs m) = x) : ∀ w, Calls Tryd.prog 6 #[.int .i64 n, .int .i64 m] w (Ret (Fact.two (Fact.fr 2 x) (Fact.eq (.int .i64 0))) w) := by
  subst hx; exact fun w => q_ratio_of n m h h2 hm _ _ w rfl rfl
theorem q_ratio_c0 (n m : Int) (h : -9223372036854775808 ≤ n ∧ n ≤ 9223372036854775807) (h2 : -9223372036854775808 ≤ m ∧ m ≤ 9223372036854775807) (hm : Int.natAbs m = 0) : ∀ w, Calls Tryd.prog 6 #[.int .i64 n, .int .i64 m] w (Ret (Fact.two (Fact.agg (Con.tri 1 1 false 0 0)) (Fact.eq (.int .i64 8))) w) := fun w => q_ratio0 n m h h2 hm _ _ w rfl rfl
theorem byt_lit {l : List Nat} (h : l.all (fun c => decide (c < 256)) = true) : Byt l := fun c hc => of_decide_eq_true (List.all_eq_true.1 h c hc)
set_option maxRecDepth 100000 in
theorem w_awake  : ∀ w, Calls Tryd.prog 12 #[] w (Ret (Fact.eq (.bool true)) w) := by
  intro w
  refine sym_calls 77 [] Tryd.func12 rfl rfl (Nat.le_of_ble_eq_true rfl) (fnl) fun a st => ?_
  have hb := Below.refl w.heap.size w
  refine wp_seq ?_
  refine sym_region st [(0, Fact.eq (.bool false))] [] 1 (by kernel_rfl) (by kernel_rfl) (by kernel_rfl) (Nat.le_of_ble_eq_true rfl) (by kernel_rfl) rfl rfl ?_ ?_
  · refine fcs ⟨Ob.new_ (ob_const (.bool false) 0 (.inr rfl) rfl (.inl rfl) rfl) (by kernel_rfl), ?_⟩
    exact fnl
  intro a1 w1 st1 hbr1 hfr
  have hs1 := hbr1.size
  have hb := up hb hbr1
  have st : St 77 [(0, Fact.eq (.bool false))] a1 w1 := st1.to (fcs ⟨st1.at_ 0, fnl⟩)
  clear st1 hbr1 hfr
  refine wpList_nil ?_
  refine then_normal ?_
  refine wp_seq ?_
  refine sym_region st [(14, Fact.two (Fact.agg (Con.fr 2 (1 / 3 : Rat))) (Fact.eq (.int .i64 0))), (13, Fact.two (Fact.agg (Con.fr 2 (1 / 3 : Rat))) (Fact.eq (.int .i64 0))), (15, Fact.agg (Con.fr 2 (1 / 3 : Rat))), (16, Fact.eq (.int .i64 0)), (1, Fact.var' (Con.raw 3))] [1] 5 (by kernel_rfl) (by kernel_rfl) (by kernel_rfl) (Nat.le_of_ble_eq_true rfl) (by kernel_rfl) rfl rfl ?_ ?_
  · refine fcs ⟨Ob.new_ (ob_call_cc 6 14 (.int .i64 1) (.int .i64 3) _ rfl rfl (.inl rfl) (by kernel_rfl) (q_ratio_c (1) (3) (by decide) (by decide) (by decide) (1 / 3 : Rat) (by kernel_rfl))) (by kernel_rfl), ?_⟩
    refine fcs ⟨Ob.new_ (ob_copy 14 13 (.inl rfl) rfl (.inl rfl) (by kernel_rfl) rfl) (by kernel_rfl), ?_⟩
    refine fcs ⟨Ob.new_ (ob_fst 13 15 (Fact.agg (Con.fr 2 (1 / 3 : Rat))) (Fact.eq (.int .i64 0)) rfl rfl (.inl rfl) (by kernel_rfl) rfl rfl) (by kernel_rfl), ?_⟩
    refine fcs ⟨Ob.new_ (ob_snd 13 16 (Fact.agg (Con.fr 2 (1 / 3 : Rat))) (Fact.eq (.int .i64 0)) rfl rfl (.inl rfl) (by kernel_rfl) rfl rfl) (by kernel_rfl), ?_⟩
    refine fcs ⟨obn_new 28 1 _ [.bool false, .slice none 0 0, .slice none 0 0] rfl rfl rfl rfl rfl alloc26, ?_⟩
    exact fnl
  intro a2 w2 st2 hbr2 hfr
  have hs2 := hbr2.size
  have hb := up hb hbr2
  obtain ⟨b1, c1⟩ := (show (Fact.var' (Con.raw 3)).holds _ _ from st2.at_ 1)
  have g1 := hfr.ge (s := 1) rfl c1.1
  have st : St 77 [(0, Fact.eq (.bool false)), (15, Fact.agg (Con.fr 2 (1 / 3 : Rat))), (16, Fact.eq (.int .i64 0)), (1, Fact.cell b1 (Con.raw 3))] a2 w2 := st2.to (fcs ⟨st2.at_ 0, fcs ⟨st2.at_ 15, fcs ⟨st2.at_ 16, fcs ⟨c1, fnl⟩⟩⟩⟩)
  clear st2 hbr2 hfr c1
  refine sym_store st 28 1 15 b1 (Con.raw 3) (Con.fr 2 (1 / 3 : Rat)) [(0, Fact.eq (.bool false)), (16, Fact.eq (.int .i64 0)), (1, Fact.cell b1 (Con.fr 2 (1 / 3 : Rat)))] rfl rfl rfl rfl rfl rfl info26 ?_ ?_
  · exact fcs ⟨.inr ⟨rfl, safe_eq _ _⟩, fcs ⟨.inr ⟨rfl, safe_eq _ _⟩, fcs ⟨.inl rfl, fnl⟩⟩⟩
  clear st; intro w3 hB hsz3 st
  have hb := hB _ _ hb (by omega) (by omega)
  clear hB
  refine sym_op st 2 (Fact.eq (.int .i64 0)) rfl (Nat.le_of_ble_eq_true rfl) rfl rfl (by kernel_rfl) (ob_copy 16 2 (.inr rfl) rfl (.inl rfl) (by kernel_rfl) rfl) ?_
  clear st; intro a4 w4 hbr st; have hs4 := hbr.size; have hb := up hb hbr; clear hbr
  refine wpList_nil ?_
  refine then_normal ?_
  refine wp_seq ?_
  refine sym_region st [(18, Fact.two (Fact.agg (Con.fr 2 (1 / 6 : Rat))) (Fact.eq (.int .i64 0))), (17, Fact.two (Fact.agg (Con.fr 2 (1 / 6 : Rat))) (Fact.eq (.int .i64 0))), (19, Fact.agg (Con.fr 2 (1 / 6 : Rat))), (20, Fact.eq (.int .i64 0)), (3, Fact.var' (Con.raw 3))] [3] 5 (by kernel_rfl) (by kernel_rfl) (by kernel_rfl) (Nat.le_of_ble_eq_true rfl) (by kernel_rfl) rfl rfl ?_ ?_
  · refine fcs ⟨Ob.new_ (ob_call_cc 6 18 (.int .i64 1) (.int .i64 6) _ rfl rfl (.inl rfl) (by kernel_rfl) (q_ratio_c (1) (6) (by decide) (by decide) (by decide) (1 / 6 : Rat) (by kernel_rfl))) (by kernel_rfl), ?_⟩
    refine fcs ⟨Ob.new_ (ob_copy 18 17 (.inl rfl) rfl (.inl rfl) (by kernel_rfl) rfl) (by kernel_rfl), ?_⟩
    refine fcs ⟨Ob.new_ (ob_fst 17 19 (Fact.agg (Con.fr 2 (1 / 6 : Rat))) (Fact.eq (.int .i64 0)) rfl rfl (.inl rfl) (by kernel_rfl) rfl rfl) (by kernel_rfl), ?_⟩
    refine fcs ⟨Ob.new_ (ob_snd 17 20 (Fact.agg (Con.fr 2 (1 / 6 : Rat))) (Fact.eq (.int .i64 0)) rfl rfl (.inl rfl) (by kernel_rfl) rfl rfl) (by kernel_rfl), ?_⟩
    refine fcs ⟨obn_new 28 3 _ [.bool false, .slice none 0 0, .slice none 0 0] rfl rfl rfl rfl rfl alloc26, ?_⟩
    exact fnl
  intro a5 w5 st5 hbr5 hfr
  have hs5 := hbr5.size
  have hb := up hb hbr5
  obtain ⟨b3, c3⟩ := (show (Fact.var' (Con.raw 3)).holds _ _ from st5.at_ 3)
  have g3 := hfr.ge (s := 3) rfl c3.1
  have st : St 77 [(0, Fact.eq (.bool false)), (1, Fact.cell b1 (Con.fr 2 (1 / 3 : Rat))), (2, Fact.eq (.int .i64 0)), (19, Fact.agg (Con.fr 2 (1 / 6 : Rat))), (20, Fact.eq (.int .i64 0)), (3, Fact.cell b3 (Con.raw 3))] a5 w5 := st5.to (fcs ⟨st5.at_ 0, fcs ⟨st5.at_ 1, fcs ⟨st5.at_ 2, fcs ⟨st5.at_ 19, fcs ⟨st5.at_ 20, fcs ⟨c3, fnl⟩⟩⟩⟩⟩⟩)
  clear st5 hbr5 hfr c3
  refine sym_store st 28 3 19 b3 (Con.raw 3) (Con.fr 2 (1 / 6 : Rat)) [(0, Fact.eq (.bool false)), (1, Fact.cell b1 (Con.fr 2 (1 / 3 : Rat))), (2, Fact.eq (.int .i64 0)), (20, Fact.eq (.int .i64 0)), (3, Fact.cell b3 (Con.fr 2 (1 / 6 : Rat)))] rfl rfl rfl rfl rfl rfl info26 ?_ ?_
  · exact fcs ⟨.inr ⟨rfl, safe_eq _ _⟩, fcs ⟨.inr ⟨rfl, safe_cell _ (by omega)⟩, fcs ⟨.inr ⟨rfl, safe_eq _ _⟩, fcs ⟨.inr ⟨rfl, safe_eq _ _⟩, fcs ⟨.inl rfl, fnl⟩⟩⟩⟩⟩
  clear st; intro w6 hB hsz6 st
  have hb := hB _ _ hb (by omega) (by omega)
  clear hB
  refine sym_op st 4 (Fact.eq (.int .i64 0)) rfl (Nat.le_of_ble_eq_true rfl) rfl rfl (by kernel_rfl) (ob_copy 20 4 (.inr rfl) rfl (.inl rfl) (by kernel_rfl) rfl) ?_
  clear st; intro a7 w7 hbr st; have hs7 := hbr.size; have hb := up hb hbr; clear hbr
  refine wpList_nil ?_
  refine then_normal ?_
  refine wp_seq ?_
  refine sym_region st [(22, Fact.two (Fact.agg (Con.fr 2 (1 / 2 : Rat))) (Fact.eq (.int .i64 0))), (21, Fact.two (Fact.agg (Con.fr 2 (1 / 2 : Rat))) (Fact.eq (.int .i64 0))), (23, Fact.agg (Con.fr 2 (1 / 2 : Rat))), (24, Fact.eq (.int .i64 0)), (5, Fact.var' (Con.raw 3))] [5] 5 (by kernel_rfl) (by kernel_rfl) (by kernel_rfl) (Nat.le_of_ble_eq_true rfl) (by kernel_rfl) rfl rfl ?_ ?_
  · refine fcs ⟨Ob.new_ (ob_call_cc 6 22 (.int .i64 (-1)) (.int .i64 (-2)) _ rfl rfl (.inl rfl) (by kernel_rfl) (q_ratio_c (-1) (-2) (by decide) (by decide) (by decide) (1 / 2 : Rat) (by kernel_rfl))) (by kernel_rfl), ?_⟩
    refine fcs ⟨Ob.new_ (ob_copy 22 21 (.inl rfl) rfl (.inl rfl) (by kernel_rfl) rfl) (by kernel_rfl), ?_⟩
    refine fcs ⟨Ob.new_ (ob_fst 21 23 (Fact.agg (Con.fr 2 (1 / 2 : Rat))) (Fact.eq (.int .i64 0)) rfl rfl (.inl rfl) (by kernel_rfl) rfl rfl) (by kernel_rfl), ?_⟩
    refine fcs ⟨Ob.new_ (ob_snd 21 24 (Fact.agg (Con.fr 2 (1 / 2 : Rat))) (Fact.eq (.int .i64 0)) rfl rfl (.inl rfl) (by kernel_rfl) rfl rfl) (by kernel_rfl), ?_⟩
    refine fcs ⟨obn_new 28 5 _ [.bool false, .slice none 0 0, .slice none 0 0] rfl rfl rfl rfl rfl alloc26, ?_⟩
    exact fnl
  intro a8 w8 st8 hbr8 hfr
  have hs8 := hbr8.size
  have hb := up hb hbr8
  obtain ⟨b5, c5⟩ := (show (Fact.var' (Con.raw 3)).holds _ _ from st8.at_ 5)
  have g5 := hfr.ge (s := 5) rfl c5.1
  have st : St 77 [(0, Fact.eq (.bool false)), (1, Fact.cell b1 (Con.fr 2 (1 / 3 : Rat))), (2, Fact.eq (.int .i64 0)), (3, Fact.cell b3 (Con.fr 2 (1 / 6 : Rat))), (4, Fact.eq (.int .i64 0)), (23, Fact.agg (Con.fr 2 (1 / 2 : Rat))), (24, Fact.eq (.int .i64 0)), (5, Fact.cell b5 (Con.raw 3))] a8 w8 := st8.to (fcs ⟨st8.at_ 0, fcs ⟨st8.at_ 1, fcs ⟨st8.at_ 2, fcs ⟨st8.at_ 3, fcs ⟨st8.at_ 4, fcs ⟨st8.at_ 23, fcs ⟨st8.at_ 24, fcs ⟨c5, fnl⟩⟩⟩⟩⟩⟩⟩⟩)
  clear st8 hbr8 hfr c5
  refine sym_store st 28 5 23 b5 (Con.raw 3) (Con.fr 2 (1 / 2 : Rat)) [(0, Fact.eq (.bool false)), (1, Fact.cell b1 (Con.fr 2 (1 / 3 : Rat))), (2, Fact.eq (.int .i64 0)), (3, Fact.cell b3 (Con.fr 2 (1 / 6 : Rat))), (4, Fact.eq (.int .i64 0)), (24, Fact.eq (.int .i64 0)), (5, Fact.cell b5 (Con.fr 2 (1 / 2 : Rat)))] rfl rfl rfl rfl rfl rfl info26 ?_ ?_
  · exact fcs ⟨.inr ⟨rfl, safe_eq _ _⟩, fcs ⟨.inr ⟨rfl, safe_cell _ (by omega)⟩, fcs ⟨.inr ⟨rfl, safe_eq _ _⟩, fcs ⟨.inr ⟨rfl, safe_cell _ (by omega)⟩, fcs ⟨.inr ⟨rfl, safe_eq _ _⟩, fcs ⟨.inr ⟨rfl, safe_eq _ _⟩, fcs ⟨.inl rfl, fnl⟩⟩⟩⟩⟩⟩⟩
  clear st; intro w9 hB hsz9 st
  have hb := hB _ _ hb (by omega) (by omega)
  clear hB
  refine sym_op st 6 (Fact.eq (.int .i64 0)) rfl (Nat.le_of_ble_eq_true rfl) rfl rfl (by kernel_rfl) (ob_copy 24 6 (.inr rfl) rfl (.inl rfl) (by kernel_rfl) rfl) ?_
  clear st; intro a10 w10 hbr st; have hs10 := hbr.size; have hb := up hb hbr; clear hbr
  refine wpList_nil ?_
  refine then_normal ?_
  refine wp_seq ?_
  refine sym_region st [(26, Fact.two (Fact.agg (Con.tri 1 1 false 0 0)) (Fact.eq (.int .i64 8))), (25, Fact.two (Fact.agg (Con.tri 1 1 false 0 0)) (Fact.eq (.int .i64 8))), (27, Fact.agg (Con.tri 1 1 false 0 0)), (28, Fact.eq (.int .i64 8)), (7, Fact.var' (Con.raw 3))] [7] 5 (by kernel_rfl) (by kernel_rfl) (by kernel_rfl) (Nat.le_of_ble_eq_true rfl) (by kernel_rfl) rfl rfl ?_ ?_
  · refine fcs ⟨Ob.new_ (ob_call_cc 6 26 (.int .i64 1) (.int .i64 0) _ rfl rfl (.inl rfl) (by kernel_rfl) (q_ratio_c0 (1) (0) (by decide) (by decide) (by decide))) (by kernel_rfl), ?_⟩
    refine fcs ⟨Ob.new_ (ob_copy 26 25 (.inl rfl) rfl (.inl rfl) (by kernel_rfl) rfl) (by kernel_rfl), ?_⟩
    refine fcs ⟨Ob.new_ (ob_fst 25 27 (Fact.agg (Con.tri 1 1 false 0 0)) (Fact.eq (.int .i64 8)) rfl rfl (.inl rfl) (by kernel_rfl) rfl rfl) (by kernel_rfl), ?_⟩
    refine fcs ⟨Ob.new_ (ob_snd 25 28 (Fact.agg (Con.tri 1 1 false 0 0)) (Fact.eq (.int .i64 8)) rfl rfl (.inl rfl) (by kernel_rfl) rfl rfl) (by kernel_rfl), ?_⟩
    refine fcs ⟨obn_new 28 7 _ [.bool false, .slice none 0 0, .slice none 0 0] rfl rfl rfl rfl rfl alloc26, ?_⟩
    exact fnl
  intro a11 w11 st11 hbr11 hfr
  have hs11 := hbr11.size
  have hb := up hb hbr11
  obtain ⟨b7, c7⟩ := (show (Fact.var' (Con.raw 3)).holds _ _ from st11.at_ 7)
  have g7 := hfr.ge (s := 7) rfl c7.1
  have st : St 77 [(0, Fact.eq (.bool false)), (1, Fact.cell b1 (Con.fr 2 (1 / 3 : Rat))), (2, Fact.eq (.int .i64 0)), (3, Fact.cell b3 (Con.fr 2 (1 / 6 : Rat))), (4, Fact.eq (.int .i64 0)), (5, Fact.cell b5 (Con.fr 2 (1 / 2 : Rat))), (6, Fact.eq (.int .i64 0)), (27, Fact.agg (Con.tri 1 1 false 0 0)), (28, Fact.eq (.int .i64 8)), (7, Fact.cell b7 (Con.raw 3))] a11 w11 := st11.to (fcs ⟨st11.at_ 0, fcs ⟨st11.at_ 1, fcs ⟨st11.at_ 2, fcs ⟨st11.at_ 3, fcs ⟨st11.at_ 4, fcs ⟨st11.at_ 5, fcs ⟨st11.at_ 6, fcs ⟨st11.at_ 27, fcs ⟨st11.at_ 28, fcs ⟨c7, fnl⟩⟩⟩⟩⟩⟩⟩⟩⟩⟩)
  clear st11 hbr11 hfr c7
  refine sym_store st 28 7 27 b7 (Con.raw 3) (Con.tri 1 1 false 0 0) [(0, Fact.eq (.bool false)), (1, Fact.cell b1 (Con.fr 2 (1 / 3 : Rat))), (2, Fact.eq (.int .i64 0)), (3, Fact.cell b3 (Con.fr 2 (1 / 6 : Rat))), (4, Fact.eq (.int .i64 0)), (5, Fact.cell b5 (Con.fr 2 (1 / 2 : Rat))), (6, Fact.eq (.int .i64 0)), (28, Fact.eq (.int .i64 8)), (7, Fact.cell b7 (Con.tri 1 1 false 0 0))] rfl rfl rfl rfl rfl rfl info26 ?_ ?_
  · exact fcs ⟨.inr ⟨rfl, safe_eq _ _⟩, fcs ⟨.inr ⟨rfl, safe_cell _ (by omega)⟩, fcs ⟨.inr ⟨rfl, safe_eq _ _⟩, fcs ⟨.inr ⟨rfl, safe_cell _ (by omega)⟩, fcs ⟨.inr ⟨rfl, safe_eq _ _⟩, fcs ⟨.inr ⟨rfl, safe_cell _ (by omega)⟩, fcs ⟨.inr ⟨rfl, safe_eq _ _⟩, fcs ⟨.inr ⟨rfl, safe_eq _ _⟩, fcs ⟨.inl rfl, fnl⟩⟩⟩⟩⟩⟩⟩⟩⟩
  clear st; intro w12 hB hsz12 st
  have hb := hB _ _ hb (by omega) (by omega)
  clear hB
  refine sym_op st 8 (Fact.eq (.int .i64 8)) rfl (Nat.le_of_ble_eq_true rfl) rfl rfl (by kernel_rfl) (ob_copy 28 8 (.inr rfl) rfl (.inl rfl) (by kernel_rfl) rfl) ?_
  clear st; intro a13 w13 hbr st; have hs13 := hbr.size; have hb := up hb hbr; clear hbr
  refine wpList_nil ?_
  refine then_normal ?_
  refine wp_seq ?_
  refine sym_region st [(30, Fact.two (Fact.agg (Con.tri 1 1 false 0 0)) (Fact.eq (.int .i64 2))), (29, Fact.two (Fact.agg (Con.tri 1 1 false 0 0)) (Fact.eq (.int .i64 2))), (31, Fact.agg (Con.tri 1 1 false 0 0)), (32, Fact.eq (.int .i64 2)), (9, Fact.var' (Con.raw 3))] [9] 5 (by kernel_rfl) (by kernel_rfl) (by kernel_rfl) (Nat.le_of_ble_eq_true rfl) (by kernel_rfl) rfl rfl ?_ ?_
  · refine fcs ⟨Ob.new_ (ob_callc 28 _ 30 _ rfl rfl (.inl rfl) (by kernel_rfl) (fun w => q_parse_b2 [50, 47, 52] (byt_lit rfl) (Nat.le_of_ble_eq_true rfl) (by kernel_rfl) (by kernel_rfl) (by kernel_rfl) (by kernel_rfl) (by kernel_rfl) _ w rfl)) (by kernel_rfl), ?_⟩
    refine fcs ⟨Ob.new_ (ob_copy 30 29 (.inl rfl) rfl (.inl rfl) (by kernel_rfl) rfl) (by kernel_rfl), ?_⟩
    refine fcs ⟨Ob.new_ (ob_fst 29 31 (Fact.agg (Con.tri 1 1 false 0 0)) (Fact.eq (.int .i64 2)) rfl rfl (.inl rfl) (by kernel_rfl) rfl rfl) (by kernel_rfl), ?_⟩
    refine fcs ⟨Ob.new_ (ob_snd 29 32 (Fact.agg (Con.tri 1 1 false 0 0)) (Fact.eq (.int .i64 2)) rfl rfl (.inl rfl) (by kernel_rfl) rfl rfl) (by kernel_rfl), ?_⟩
    refine fcs ⟨obn_new 28 9 _ [.bool false, .slice none 0 0, .slice none 0 0] rfl rfl rfl rfl rfl alloc26, ?_⟩
    exact fnl
  intro a14 w14 st14 hbr14 hfr
  have hs14 := hbr14.size
  have hb := up hb hbr14
  obtain ⟨b9, c9⟩ := (show (Fact.var' (Con.raw 3)).holds _ _ from st14.at_ 9)
  have g9 := hfr.ge (s := 9) rfl c9.1
  have st : St 77 [(0, Fact.eq (.bool false)), (1, Fact.cell b1 (Con.fr 2 (1 / 3 : Rat))), (2, Fact.eq (.int .i64 0)), (3, Fact.cell b3 (Con.fr 2 (1 / 6 : Rat))), (4, Fact.eq (.int .i64 0)), (5, Fact.cell b5 (Con.fr 2 (1 / 2 : Rat))), (6, Fact.eq (.int .i64 0)), (8, Fact.eq (.int .i64 8)), (31, Fact.agg (Con.tri 1 1 false 0 0)), (32, Fact.eq (.int .i64 2)), (9, Fact.cell b9 (Con.raw 3))] a14 w14 := st14.to (fcs ⟨st14.at_ 0, fcs ⟨st14.at_ 1, fcs ⟨st14.at_ 2, fcs ⟨st14.at_ 3, fcs ⟨st14.at_ 4, fcs ⟨st14.at_ 5, fcs ⟨st14.at_ 6, fcs ⟨st14.at_ 8, fcs ⟨st14.at_ 31, fcs ⟨st14.at_ 32, fcs ⟨c9, fnl⟩⟩⟩⟩⟩⟩⟩⟩⟩⟩⟩)
  clear st14 hbr14 hfr c9
  refine sym_store st 28 9 31 b9 (Con.raw 3) (Con.tri 1 1 false 0 0) [(0, Fact.eq (.bool false)), (1, Fact.cell b1 (Con.fr 2 (1 / 3 : Rat))), (2, Fact.eq (.int .i64 0)), (3, Fact.cell b3 (Con.fr 2 (1 / 6 : Rat))), (4, Fact.eq (.int .i64 0)), (5, Fact.cell b5 (Con.fr 2 (1 / 2 : Rat))), (6, Fact.eq (.int .i64 0)), (8, Fact.eq (.int .i64 8)), (32, Fact.eq (.int .i64 2)), (9, Fact.cell b9 (Con.tri 1 1 false 0 0))] rfl rfl rfl rfl rfl rfl info26 ?_ ?_
  · exact fcs ⟨.inr ⟨rfl, safe_eq _ _⟩, fcs ⟨.inr ⟨rfl, safe_cell _ (by omega)⟩, fcs ⟨.inr ⟨rfl, safe_eq _ _⟩, fcs ⟨.inr ⟨rfl, safe_cell _ (by omega)⟩, fcs ⟨.inr ⟨rfl, safe_eq _ _⟩, fcs ⟨.inr ⟨rfl, safe_cell _ (by omega)⟩, fcs ⟨.inr ⟨rfl, safe_eq _ _⟩, fcs ⟨.inr ⟨rfl, safe_eq _ _⟩, fcs ⟨.inr ⟨rfl, safe_eq _ _⟩, fcs ⟨.inl rfl, fnl⟩⟩⟩⟩⟩⟩⟩⟩⟩⟩
  clear st; intro w15 hB hsz15 st
  have hb := hB _ _ hb (by omega) (by omega)
  clear hB
  refine sym_op st 10 (Fact.eq (.int .i64 2)) rfl (Nat.le_of_ble_eq_true rfl) rfl rfl (by kernel_rfl) (ob_copy 32 10 (.inr rfl) rfl (.inl rfl) (by kernel_rfl) rfl) ?_
  clear st; intro a16 w16 hbr st; have hs16 := hbr.size; have hb := up hb hbr; clear hbr
  refine wpList_nil ?_
  refine then_normal ?_
  refine wp_seq ?_
  refine sym_region st [(34, Fact.agg (Con.fr 2 (1 / 2 : Rat))), (35, Fact.agg (Con.fr 2 (-(1 / 2 : Rat)))), (36, Fact.two (Fact.eq (.int .i64 (-1))) (Fact.eq (.bool true))), (33, Fact.two (Fact.eq (.int .i64 (-1))) (Fact.eq (.bool true))), (37, Fact.eq (.int .i64 (-1))), (38, Fact.eq (.bool true)), (11, Fact.eq (.int .i64 (-1))), (12, Fact.eq (.bool true))] [] 8 (by kernel_rfl) (by kernel_rfl) (by kernel_rfl) (Nat.le_of_ble_eq_true rfl) (by kernel_rfl) rfl rfl ?_ ?_
  · refine fcs ⟨Ob.new_ (ob_read 28 5 34 (Con.fr 2 (1 / 2 : Rat)) rfl rfl (.inl rfl) (by kernel_rfl) points_cell rfl row26 info26) (by kernel_rfl), ?_⟩
    refine fcs ⟨Ob.new_ (ob_call1 30 34 35 _ rfl rfl (.inl rfl) (by kernel_rfl) (by kernel_rfl) (q_neg 2 (1 / 2 : Rat))) (by kernel_rfl), ?_⟩
    refine fcs ⟨Ob.new_ (ob_call1 29 35 36 _ rfl rfl (.inl rfl) (by kernel_rfl) (by kernel_rfl) (q_floorb 2 (-(1 / 2 : Rat)) (by omega) (-1) true (by kernel_rfl) (by kernel_rfl))) (by kernel_rfl), ?_⟩
    refine fcs ⟨Ob.new_ (ob_copy 36 33 (.inl rfl) rfl (.inl rfl) (by kernel_rfl) rfl) (by kernel_rfl), ?_⟩
    refine fcs ⟨Ob.new_ (ob_fst 33 37 (Fact.eq (.int .i64 (-1))) (Fact.eq (.bool true)) rfl rfl (.inl rfl) (by kernel_rfl) rfl rfl) (by kernel_rfl), ?_⟩
    refine fcs ⟨Ob.new_ (ob_snd 33 38 (Fact.eq (.int .i64 (-1))) (Fact.eq (.bool true)) rfl rfl (.inl rfl) (by kernel_rfl) rfl rfl) (by kernel_rfl), ?_⟩
    refine fcs ⟨Ob.new_ (ob_copy 37 11 (.inr rfl) rfl (.inl rfl) (by kernel_rfl) rfl) (by kernel_rfl), ?_⟩
    refine fcs ⟨Ob.new_ (ob_copy 38 12 (.inr rfl) rfl (.inl rfl) (by kernel_rfl) rfl) (by kernel_rfl), ?_⟩
    exact fnl
  intro a17 w17 st17 hbr17 hfr
  have hs17 := hbr17.size
  have hb := up hb hbr17
  have st : St 77 [(0, Fact.eq (.bool false)), (1, Fact.cell b1 (Con.fr 2 (1 / 3 : Rat))), (2, Fact.eq (.int .i64 0)), (3, Fact.cell b3 (Con.fr 2 (1 / 6 : Rat))), (4, Fact.eq (.int .i64 0)), (5, Fact.cell b5 (Con.fr 2 (1 / 2 : Rat))), (6, Fact.eq (.int .i64 0)), (8, Fact.eq (.int .i64 8)), (10, Fact.eq (.int .i64 2)), (11, Fact.eq (.int .i64 (-1))), (12, Fact.eq (.bool true))] a17 w17 := st17.to (fcs ⟨st17.at_ 0, fcs ⟨st17.at_ 1, fcs ⟨st17.at_ 2, fcs ⟨st17.at_ 3, fcs ⟨st17.at_ 4, fcs ⟨st17.at_ 5, fcs ⟨st17.at_ 6, fcs ⟨st17.at_ 8, fcs ⟨st17.at_ 10, fcs ⟨st17.at_ 11, fcs ⟨st17.at_ 12, fnl⟩⟩⟩⟩⟩⟩⟩⟩⟩⟩⟩)
  clear st17 hbr17 hfr
  refine wpList_nil ?_
  refine then_normal ?_
  refine wp_seq ?_
  have st := st.to (ks' := [(1, Fact.cell b1 (Con.fr 2 (1 / 3 : Rat))), (2, Fact.eq (.int .i64 0)), (3, Fact.cell b3 (Con.fr 2 (1 / 6 : Rat))), (4, Fact.eq (.int .i64 0)), (5, Fact.cell b5 (Con.fr 2 (1 / 2 : Rat))), (6, Fact.eq (.int .i64 0)), (8, Fact.eq (.int .i64 8)), (10, Fact.eq (.int .i64 2)), (11, Fact.eq (.int .i64 (-1))), (12, Fact.eq (.bool true))]) (fcs ⟨st.at_ 1, fcs ⟨st.at_ 2, fcs ⟨st.at_ 3, fcs ⟨st.at_ 4, fcs ⟨st.at_ 5, fcs ⟨st.at_ 6, fcs ⟨st.at_ 8, fcs ⟨st.at_ 10, fcs ⟨st.at_ 11, fcs ⟨st.at_ 12, fnl⟩⟩⟩⟩⟩⟩⟩⟩⟩⟩)
  refine sym_region st [(39, Fact.eq (.int .i64 0)), (40, Fact.eq (.bool true)), (41, Fact.eq (.bool true)), (42, Fact.eq (.int .i64 0)), (43, Fact.eq (.bool true)), (44, Fact.eq (.bool true)), (45, Fact.eq (.bool true)), (46, Fact.eq (.int .i64 0)), (47, Fact.eq (.bool true)), (48, Fact.eq (.bool true)), (49, Fact.eq (.bool true)), (50, Fact.eq (.int .i64 8)), (51, Fact.eq (.bool true)), (52, Fact.eq (.bool true)), (53, Fact.eq (.bool true)), (54, Fact.eq (.int .i64 2)), (55, Fact.eq (.bool true)), (56, Fact.eq (.bool true)), (57, Fact.eq (.bool true)), (58, Fact.eq (.int .i64 (-1))), (59, Fact.eq (.bool true)), (60, Fact.eq (.bool true)), (61, Fact.eq (.bool true)), (62, Fact.eq (.bool true)), (63, Fact.eq (.bool true)), (64, Fact.eq (.bool true)), (65, Fact.agg (Con.fr 2 (1 / 3 : Rat))), (66, Fact.agg (Con.fr 2 (1 / 6 : Rat))), (67, Fact.agg (Con.fr 5 ((1 / 3 : Rat) + (1 / 6 : Rat)))), (68, Fact.agg (Con.fr 2 (1 / 2 : Rat))), (69, Fact.eq (.bool true)), (70, Fact.eq (.bool true)), (71, Fact.eq (.bool true)), (72, Fact.agg (Con.fr 2 (1 / 2 : Rat))), (73, Fact.agg (Con.fr 2 (-(1 / 2 : Rat)))), (74, Fact.eq (.string (ofB ([45, 49, 47, 50])))), (75, Fact.eq (.bool true)), (76, Fact.eq (.bool true)), (0, Fact.eq (.bool true))] [] 39 (by kernel_rfl) (by kernel_rfl) (by kernel_rfl) (Nat.le_of_ble_eq_true rfl) (by kernel_rfl) rfl rfl ?_ ?_
  · refine fcs ⟨Ob.new_ (ob_copy 2 39 (.inl rfl) rfl (.inl rfl) (by kernel_rfl) rfl) (by kernel_rfl), ?_⟩
    refine fcs ⟨Ob.new_ (ob_eqc 39 40 .i64 29 _ 0 0 true rfl rfl rfl (.inl rfl) (by kernel_rfl) rfl rfl) (by kernel_rfl), ?_⟩
    refine fcs ⟨Ob.new_ (ob_copy 40 41 (.inl rfl) rfl (.inl rfl) (by kernel_rfl) rfl) (by kernel_rfl), ?_⟩
    refine fcs ⟨Ob.new_ (ob_copy 4 42 (.inl rfl) rfl (.inr ⟨_, _, _, rfl, rfl, by kernel_rfl, by decide, rfl⟩) (by kernel_rfl) rfl) (by kernel_rfl), ?_⟩
    refine fcs ⟨Ob.new_ (ob_eqc 42 43 .i64 29 _ 0 0 true rfl rfl rfl (.inr ⟨_, _, _, rfl, rfl, by kernel_rfl, by decide, rfl⟩) (by kernel_rfl) rfl rfl) (by kernel_rfl), ?_⟩
    refine fcs ⟨Ob.new_ (ob_pick 41 43 44 _ rfl rfl (.inl rfl) (by kernel_rfl) (by kernel_rfl) rfl rfl) (by kernel_rfl), ?_⟩
    refine fcs ⟨Ob.new_ (ob_copy 44 45 (.inl rfl) rfl (.inl rfl) (by kernel_rfl) rfl) (by kernel_rfl), ?_⟩
    refine fcs ⟨Ob.new_ (ob_copy 6 46 (.inl rfl) rfl (.inr ⟨_, _, _, rfl, rfl, by kernel_rfl, by decide, rfl⟩) (by kernel_rfl) rfl) (by kernel_rfl), ?_⟩
    refine fcs ⟨Ob.new_ (ob_eqc 46 47 .i64 29 _ 0 0 true rfl rfl rfl (.inr ⟨_, _, _, rfl, rfl, by kernel_rfl, by decide, rfl⟩) (by kernel_rfl) rfl rfl) (by kernel_rfl), ?_⟩
    refine fcs ⟨Ob.new_ (ob_pick 45 47 48 _ rfl rfl (.inl rfl) (by kernel_rfl) (by kernel_rfl) rfl rfl) (by kernel_rfl), ?_⟩
    refine fcs ⟨Ob.new_ (ob_copy 48 49 (.inl rfl) rfl (.inl rfl) (by kernel_rfl) rfl) (by kernel_rfl), ?_⟩
    refine fcs ⟨Ob.new_ (ob_copy 8 50 (.inl rfl) rfl (.inr ⟨_, _, _, rfl, rfl, by kernel_rfl, by decide, rfl⟩) (by kernel_rfl) rfl) (by kernel_rfl), ?_⟩
    refine fcs ⟨Ob.new_ (ob_eqc 50 51 .i64 29 _ 8 8 true rfl rfl rfl (.inr ⟨_, _, _, rfl, rfl, by kernel_rfl, by decide, rfl⟩) (by kernel_rfl) rfl rfl) (by kernel_rfl), ?_⟩
    refine fcs ⟨Ob.new_ (ob_pick 49 51 52 _ rfl rfl (.inl rfl) (by kernel_rfl) (by kernel_rfl) rfl rfl) (by kernel_rfl), ?_⟩
    refine fcs ⟨Ob.new_ (ob_copy 52 53 (.inl rfl) rfl (.inl rfl) (by kernel_rfl) rfl) (by kernel_rfl), ?_⟩
    refine fcs ⟨Ob.new_ (ob_copy 10 54 (.inl rfl) rfl (.inr ⟨_, _, _, rfl, rfl, by kernel_rfl, by decide, rfl⟩) (by kernel_rfl) rfl) (by kernel_rfl), ?_⟩
    refine fcs ⟨Ob.new_ (ob_eqc 54 55 .i64 29 _ 2 2 true rfl rfl rfl (.inr ⟨_, _, _, rfl, rfl, by kernel_rfl, by decide, rfl⟩) (by kernel_rfl) rfl rfl) (by kernel_rfl), ?_⟩
    refine fcs ⟨Ob.new_ (ob_pick 53 55 56 _ rfl rfl (.inl rfl) (by kernel_rfl) (by kernel_rfl) rfl rfl) (by kernel_rfl), ?_⟩
    refine fcs ⟨Ob.new_ (ob_copy 56 57 (.inl rfl) rfl (.inl rfl) (by kernel_rfl) rfl) (by kernel_rfl), ?_⟩
    refine fcs ⟨Ob.new_ (ob_copy 11 58 (.inl rfl) rfl (.inr ⟨_, _, _, rfl, rfl, by kernel_rfl, by decide, rfl⟩) (by kernel_rfl) rfl) (by kernel_rfl), ?_⟩
    refine fcs ⟨Ob.new_ (ob_eqc 58 59 .i64 2 _ (-1) (-1) true rfl rfl rfl (.inr ⟨_, _, _, rfl, rfl, by kernel_rfl, by decide, rfl⟩) (by kernel_rfl) rfl rfl) (by kernel_rfl), ?_⟩
    refine fcs ⟨Ob.new_ (ob_pick 57 59 60 _ rfl rfl (.inl rfl) (by kernel_rfl) (by kernel_rfl) rfl rfl) (by kernel_rfl), ?_⟩
    refine fcs ⟨Ob.new_ (ob_copy 60 61 (.inl rfl) rfl (.inl rfl) (by kernel_rfl) rfl) (by kernel_rfl), ?_⟩
    refine fcs ⟨Ob.new_ (ob_copy 12 62 (.inl rfl) rfl (.inr ⟨_, _, _, rfl, rfl, by kernel_rfl, by decide, rfl⟩) (by kernel_rfl) rfl) (by kernel_rfl), ?_⟩
    refine fcs ⟨Ob.new_ (ob_pick 61 62 63 _ rfl rfl (.inl rfl) (by kernel_rfl) (by kernel_rfl) rfl rfl) (by kernel_rfl), ?_⟩
    refine fcs ⟨Ob.new_ (ob_copy 63 64 (.inl rfl) rfl (.inl rfl) (by kernel_rfl) rfl) (by kernel_rfl), ?_⟩
    refine fcs ⟨Ob.new_ (ob_read 28 1 65 (Con.fr 2 (1 / 3 : Rat)) rfl rfl (.inr ⟨_, _, _, rfl, rfl, by kernel_rfl, by decide, rfl⟩) (by kernel_rfl) points_cell rfl row26 info26) (by kernel_rfl), ?_⟩
    refine fcs ⟨Ob.new_ (ob_read 28 3 66 (Con.fr 2 (1 / 6 : Rat)) rfl rfl (.inr ⟨_, _, _, rfl, rfl, by kernel_rfl, by decide, rfl⟩) (by kernel_rfl) points_cell rfl row26 info26) (by kernel_rfl), ?_⟩
    refine fcs ⟨Ob.new_ (ob_call2 21 65 66 67 _ rfl rfl (.inr ⟨_, _, _, rfl, rfl, by kernel_rfl, by decide, rfl⟩) (by kernel_rfl) (by kernel_rfl) (by kernel_rfl) (q_add 2 2 (1 / 3 : Rat) (1 / 6 : Rat) (by omega))) (by kernel_rfl), ?_⟩
    refine fcs ⟨Ob.new_ (ob_read 28 5 68 (Con.fr 2 (1 / 2 : Rat)) rfl rfl (.inr ⟨_, _, _, rfl, rfl, by kernel_rfl, by decide, rfl⟩) (by kernel_rfl) points_cell rfl row26 info26) (by kernel_rfl), ?_⟩
    refine fcs ⟨Ob.new_ (ob_call2 8 67 68 69 _ rfl rfl (.inr ⟨_, _, _, rfl, rfl, by kernel_rfl, by decide, rfl⟩) (by kernel_rfl) (by kernel_rfl) (by kernel_rfl) (z_same 5 2 ((1 / 3 : Rat) + (1 / 6 : Rat)) (1 / 2 : Rat) true (by kernel_rfl))) (by kernel_rfl), ?_⟩
    refine fcs ⟨Ob.new_ (ob_pick 64 69 70 _ rfl rfl (.inl rfl) (by kernel_rfl) (by kernel_rfl) rfl rfl) (by kernel_rfl), ?_⟩
    refine fcs ⟨Ob.new_ (ob_copy 70 71 (.inl rfl) rfl (.inl rfl) (by kernel_rfl) rfl) (by kernel_rfl), ?_⟩
    refine fcs ⟨Ob.new_ (ob_read 28 5 72 (Con.fr 2 (1 / 2 : Rat)) rfl rfl (.inr ⟨_, _, _, rfl, rfl, by kernel_rfl, by decide, rfl⟩) (by kernel_rfl) points_cell rfl row26 info26) (by kernel_rfl), ?_⟩
    refine fcs ⟨Ob.new_ (ob_call1 30 72 73 _ rfl rfl (.inr ⟨_, _, _, rfl, rfl, by kernel_rfl, by decide, rfl⟩) (by kernel_rfl) (by kernel_rfl) (q_neg 2 (1 / 2 : Rat))) (by kernel_rfl), ?_⟩
    refine fcs ⟨Ob.new_ (ob_call1 31 73 74 _ rfl rfl (.inr ⟨_, _, _, rfl, rfl, by kernel_rfl, by decide, rfl⟩) (by kernel_rfl) (by kernel_rfl) (q_formatk 2 (-(1 / 2 : Rat)) (by decide) [45, 49, 47, 50] (by kernel_rfl))) (by kernel_rfl), ?_⟩
    refine fcs ⟨Ob.new_ (ob_eql_str ⟨#[45, 49, 47, 50]⟩ 74 75 _ rfl rfl (.inr ⟨_, _, _, rfl, rfl, by kernel_rfl, by decide, rfl⟩) (by kernel_rfl) rfl rfl) (by kernel_rfl), ?_⟩
    refine fcs ⟨Ob.new_ (ob_pick 71 75 76 _ rfl rfl (.inl rfl) (by kernel_rfl) (by kernel_rfl) rfl rfl) (by kernel_rfl), ?_⟩
    refine fcs ⟨Ob.new_ (ob_copy 76 0 (.inr rfl) rfl (.inl rfl) (by kernel_rfl) rfl) (by kernel_rfl), ?_⟩
    exact fnl
  intro a18 w18 st18 hbr18 hfr
  have hs18 := hbr18.size
  have hb := up hb hbr18
  have st : St 77 [(0, Fact.eq (.bool true))] a18 w18 := st18.to (fcs ⟨st18.at_ 0, fnl⟩)
  clear st18 hbr18 hfr
  refine wpList_nil ?_
  refine then_normal ?_
  refine wp_ret ?_
  exact sym_ret1 rfl st.defers (resAt_tmp st 0) hb (fun _ h => h)
end Go.Proofs.YtjfehdkfogdpgaaDoor
namespace Go.Proofs.YtjfehdkfogdpgaaDoor
open Go.RowKit
set_option maxRecDepth 100000 in
theorem law_valid_few (s : Bool) (xs ys : List Nat) (hx : xs.length ≤ 12) (hy : ys.length ≤ 12) : ∀ v0 w, (Fact.agg (Con.few s xs ys)).holds v0 w → Calls Tryd.prog 4 #[v0] w (Ret (Fact.eq (.bool true)) w) := by
  intro v0 w hv0
  have h1 : decide ((xs.length : Int) > 12) = false := decide_eq_false (by omega)
  have h2 : decide ((ys.length : Int) > 12) = false := decide_eq_false (by omega)
  refine sym_calls 24 [(0, Fact.agg (Con.few s xs ys))] Tryd.func4 rfl rfl (Nat.le_of_ble_eq_true rfl) (fcs ⟨⟨Nat.le_of_ble_eq_true rfl, hv0⟩, fnl⟩) fun a st => ?_
  have hb := Below.refl w.heap.size w
  refine wp_seq ?_
  refine sym_region st [(1, Fact.var' (Con.few s xs ys)), (2, Fact.eq (.bool false))] [1] 2 (by kernel_rfl) (by kernel_rfl) (by kernel_rfl) (Nat.le_of_ble_eq_true rfl) (by kernel_rfl) rfl rfl ?_ ?_
  · refine fcs ⟨obn_box 28 0 1 _ (Con.few s xs ys) rfl rfl rfl (by kernel_rfl) rfl rfl, ?_⟩
    refine fcs ⟨Ob.new_ (ob_const (.bool false) 2 (.inr rfl) rfl (.inl rfl) rfl) (by kernel_rfl), ?_⟩
    exact fnl
  intro a1 w1 st1 hbr1 hfr
  have hs1 := hbr1.size
  have hb := up hb hbr1
  obtain ⟨b1, c1⟩ := (show (Fact.var' (Con.few s xs ys)).holds _ _ from st1.at_ 1)
  have g1 := hfr.ge (s := 1) rfl c1.1
  have st : St 24 [(1, Fact.cell b1 (Con.few s xs ys)), (2, Fact.eq (.bool false))] a1 w1 := st1.to (fcs ⟨c1, fcs ⟨st1.at_ 2, fnl⟩⟩)
  clear st1 hbr1 hfr c1
  refine wpList_nil ?_
  refine then_normal ?_
  refine wp_seq ?_
  refine wp_seq ?_
  refine sym_region st [(3, Fact.ptr (Con.dg xs)), (4, Fact.ptr (Con.dg xs)), (5, Fact.rowd xs), (6, Fact.eq (.int .i64 ((xs).length : Int))), (7, Fact.eq (.bool false)), (8, Fact.eq (.bool false)), (9, Fact.ptr (Con.dg ys)), (10, Fact.ptr (Con.dg ys)), (11, Fact.rowd ys), (12, Fact.eq (.int .i64 ((ys).length : Int))), (13, Fact.eq (.bool false)), (14, Fact.eq (.bool false))] [] 12 (by kernel_rfl) (by kernel_rfl) (by kernel_rfl) (Nat.le_of_ble_eq_true rfl) (by kernel_rfl) rfl rfl ?_ ?_
  · refine fcs ⟨Ob.new_ (ob_addr 28 1 1 3 1 (Con.few s xs ys) (Con.dg xs) rfl rfl (.inl rfl) (by kernel_rfl) points_cell rfl (Con.few_1 s xs ys) field26_1) (by kernel_rfl), ?_⟩
    refine fcs ⟨Ob.new_ (ob_addr 24 0 3 4 0 (Con.dg xs) (Con.dg xs) rfl rfl (.inl rfl) (by kernel_rfl) points_ptr rfl (Con.Sub.refl _) field24_0) (by kernel_rfl), ?_⟩
    refine fcs ⟨Ob.new_ (ob_loadrowd 4 5 xs (Con.dg xs) dg_row rfl rfl (.inl rfl) (by kernel_rfl) points_ptr rfl) (by kernel_rfl), ?_⟩
    refine fcs ⟨Ob.new_ (ob_len 5 6 (xs).length 22 rfl (by kernel_rfl) rfl (.inl rfl) (by kernel_rfl) len_rowd rfl) (by kernel_rfl), ?_⟩
    refine fcs ⟨Ob.new_ (ob_gtc 6 7 .i64 3 _ ((xs).length : Int) 12 false h1 rfl rfl (.inl rfl) (by kernel_rfl) rfl rfl) (by kernel_rfl), ?_⟩
    refine fcs ⟨Ob.new_ (ob_copy 7 8 (.inl rfl) rfl (.inl rfl) (by kernel_rfl) rfl) (by kernel_rfl), ?_⟩
    refine fcs ⟨Ob.new_ (ob_addr 28 2 1 9 2 (Con.few s xs ys) (Con.dg ys) rfl rfl (.inr ⟨_, _, _, rfl, rfl, by kernel_rfl, by decide, rfl⟩) (by kernel_rfl) points_cell rfl (Con.few_2 s xs ys) field26_2) (by kernel_rfl), ?_⟩
    refine fcs ⟨Ob.new_ (ob_addr 24 0 9 10 0 (Con.dg ys) (Con.dg ys) rfl rfl (.inr ⟨_, _, _, rfl, rfl, by kernel_rfl, by decide, rfl⟩) (by kernel_rfl) points_ptr rfl (Con.Sub.refl _) field24_0) (by kernel_rfl), ?_⟩
    refine fcs ⟨Ob.new_ (ob_loadrowd 10 11 ys (Con.dg ys) dg_row rfl rfl (.inr ⟨_, _, _, rfl, rfl, by kernel_rfl, by decide, rfl⟩) (by kernel_rfl) points_ptr rfl) (by kernel_rfl), ?_⟩
    refine fcs ⟨Ob.new_ (ob_len 11 12 (ys).length 22 rfl (by kernel_rfl) rfl (.inr ⟨_, _, _, rfl, rfl, by kernel_rfl, by decide, rfl⟩) (by kernel_rfl) len_rowd rfl) (by kernel_rfl), ?_⟩
    refine fcs ⟨Ob.new_ (ob_gtc 12 13 .i64 3 _ ((ys).length : Int) 12 false h2 rfl rfl (.inr ⟨_, _, _, rfl, rfl, by kernel_rfl, by decide, rfl⟩) (by kernel_rfl) rfl rfl) (by kernel_rfl), ?_⟩
    refine fcs ⟨Ob.new_ (ob_pick_else 8 13 14 (.bool true) rfl rfl (.inl rfl) (by kernel_rfl) (by kernel_rfl) rfl rfl) (by kernel_rfl), ?_⟩
    exact fnl
  intro a2 w2 st2 hbr2 hfr
  have hs2 := hbr2.size
  have hb := up hb hbr2
  have st : St 24 [(1, Fact.cell b1 (Con.few s xs ys)), (2, Fact.eq (.bool false)), (14, Fact.eq (.bool false))] a2 w2 := st2.to (fcs ⟨st2.at_ 1, fcs ⟨st2.at_ 2, fcs ⟨st2.at_ 14, fnl⟩⟩⟩)
  clear st2 hbr2 hfr
  refine wpList_nil ?_
  refine then_normal ?_
  refine wp_cond_false (st.at_ 14) ?_
  refine wp_skip ?_
  refine then_normal ?_
  refine wp_seq ?_
  have st := st.to (ks' := [(1, Fact.cell b1 (Con.few s xs ys)), (14, Fact.eq (.bool false))]) (fcs ⟨st.at_ 1, fcs ⟨st.at_ 14, fnl⟩⟩)
  refine sym_region st [(16, Fact.agg (Con.few s xs ys)), (17, Fact.eq (.bool (vldB s xs ys))), (18, Fact.agg (Con.few s xs ys)), (19, Fact.eq (.bool (vldB s xs ys))), (20, Fact.eq (.bool true)), (21, Fact.eq (.bool true)), (22, Fact.eq (.bool true)), (23, Fact.eq (.bool true)), (2, Fact.eq (.bool true))] [] 9 (by kernel_rfl) (by kernel_rfl) (by kernel_rfl) (Nat.le_of_ble_eq_true rfl) (by kernel_rfl) rfl rfl ?_ ?_
  · refine fcs ⟨Ob.new_ (ob_read 28 1 16 (Con.few s xs ys) rfl rfl (.inl rfl) (by kernel_rfl) points_cell rfl row26 info26) (by kernel_rfl), ?_⟩
    refine fcs ⟨Ob.new_ (ob_call1 16 16 17 _ rfl rfl (.inl rfl) (by kernel_rfl) (by kernel_rfl) (q_valid_few s xs ys (by omega) (by omega) (vldB s xs ys) rfl)) (by kernel_rfl), ?_⟩
    refine fcs ⟨Ob.new_ (ob_read 28 1 18 (Con.few s xs ys) rfl rfl (.inl rfl) (by kernel_rfl) points_cell rfl row26 info26) (by kernel_rfl), ?_⟩
    refine fcs ⟨Ob.new_ (ob_call1 15 18 19 _ rfl rfl (.inl rfl) (by kernel_rfl) (by kernel_rfl) (z_valid_few s xs ys (by omega) (by omega) (vldB s xs ys) rfl)) (by kernel_rfl), ?_⟩
    refine fcs ⟨Ob.new_ (ob_eqb 17 19 20 (vldB s xs ys) (vldB s xs ys) true (beq_self_eq_true _) rfl rfl (.inl rfl) (by kernel_rfl) (by kernel_rfl) rfl rfl rfl) (by kernel_rfl), ?_⟩
    refine fcs ⟨Ob.new_ (ob_copy 20 21 (.inl rfl) rfl (.inl rfl) (by kernel_rfl) rfl) (by kernel_rfl), ?_⟩
    refine fcs ⟨Ob.new_ (ob_call0 12 22 _ rfl rfl (.inr ⟨_, _, _, rfl, rfl, by kernel_rfl, by decide, rfl⟩) (by kernel_rfl) w_awake) (by kernel_rfl), ?_⟩
    refine fcs ⟨Ob.new_ (ob_pick 21 22 23 _ rfl rfl (.inl rfl) (by kernel_rfl) (by kernel_rfl) rfl rfl) (by kernel_rfl), ?_⟩
    refine fcs ⟨Ob.new_ (ob_copy 23 2 (.inr rfl) rfl (.inl rfl) (by kernel_rfl) rfl) (by kernel_rfl), ?_⟩
    exact fnl
  intro a3 w3 st3 hbr3 hfr
  have hs3 := hbr3.size
  have hb := up hb hbr3
  have st : St 24 [(2, Fact.eq (.bool true))] a3 w3 := st3.to (fcs ⟨st3.at_ 2, fnl⟩)
  clear st3 hbr3 hfr
  refine wpList_nil ?_
  refine then_normal ?_
  refine wp_ret ?_
  exact sym_ret1 rfl st.defers (resAt_tmp st 2) hb (fun _ h => h)
set_option maxRecDepth 100000 in
theorem law_valid_no0 (s : Bool) (xs ys : List Nat) (h1 : decide ((xs.length : Int) > 12) = true) : ∀ v0 w, (Fact.agg (Con.pre s xs ys)).holds v0 w → Calls Tryd.prog 4 #[v0] w (Ret (Fact.eq (.bool true)) w) := by
  intro v0 w hv0
  refine sym_calls 24 [(0, Fact.agg (Con.pre s xs ys))] Tryd.func4 rfl rfl (Nat.le_of_ble_eq_true rfl) (fcs ⟨⟨Nat.le_of_ble_eq_true rfl, hv0⟩, fnl⟩) fun a st => ?_
  have hb := Below.refl w.heap.size w
  refine wp_seq ?_
  refine sym_region st [(1, Fact.var' (Con.pre s xs ys)), (2, Fact.eq (.bool false))] [1] 2 (by kernel_rfl) (by kernel_rfl) (by kernel_rfl) (Nat.le_of_ble_eq_true rfl) (by kernel_rfl) rfl rfl ?_ ?_
  · refine fcs ⟨obn_box 28 0 1 _ (Con.pre s xs ys) rfl rfl rfl (by kernel_rfl) rfl rfl, ?_⟩
    refine fcs ⟨Ob.new_ (ob_const (.bool false) 2 (.inr rfl) rfl (.inl rfl) rfl) (by kernel_rfl), ?_⟩
    exact fnl
  intro a1 w1 st1 hbr1 hfr
  have hs1 := hbr1.size
  have hb := up hb hbr1
  obtain ⟨b1, c1⟩ := (show (Fact.var' (Con.pre s xs ys)).holds _ _ from st1.at_ 1)
  have g1 := hfr.ge (s := 1) rfl c1.1
  have st : St 24 [(1, Fact.cell b1 (Con.pre s xs ys)), (2, Fact.eq (.bool false))] a1 w1 := st1.to (fcs ⟨c1, fcs ⟨st1.at_ 2, fnl⟩⟩)
  clear st1 hbr1 hfr c1
  refine wpList_nil ?_
  refine then_normal ?_
  refine wp_seq ?_
  refine wp_seq ?_
  refine sym_region st [(3, Fact.ptr (Con.any_ xs)), (4, Fact.ptr (Con.any_ xs)), (5, Fact.rowd xs), (6, Fact.eq (.int .i64 ((xs).length : Int))), (7, Fact.eq (.bool true)), (8, Fact.eq (.bool true)), (9, Fact.eq undef), (10, Fact.eq undef), (11, Fact.eq undef), (12, Fact.eq undef), (13, Fact.eq undef), (14, Fact.eq (.bool true))] [] 12 (by kernel_rfl) (by kernel_rfl) (by kernel_rfl) (Nat.le_of_ble_eq_true rfl) (by kernel_rfl) rfl rfl ?_ ?_
  · refine fcs ⟨Ob.new_ (ob_addr 28 1 1 3 1 (Con.pre s xs ys) (Con.any_ xs) rfl rfl (.inl rfl) (by kernel_rfl) points_cell rfl (Con.pre_1 s xs ys) field26_1) (by kernel_rfl), ?_⟩
    refine fcs ⟨Ob.new_ (ob_addr 24 0 3 4 0 (Con.any_ xs) (Con.any_ xs) rfl rfl (.inl rfl) (by kernel_rfl) points_ptr rfl (Con.Sub.refl _) field24_0) (by kernel_rfl), ?_⟩
    refine fcs ⟨Ob.new_ (ob_loadrowd 4 5 xs (Con.any_ xs) any_row rfl rfl (.inl rfl) (by kernel_rfl) points_ptr rfl) (by kernel_rfl), ?_⟩
    refine fcs ⟨Ob.new_ (ob_len 5 6 (xs).length 22 rfl (by kernel_rfl) rfl (.inl rfl) (by kernel_rfl) len_rowd rfl) (by kernel_rfl), ?_⟩
    refine fcs ⟨Ob.new_ (ob_gtc 6 7 .i64 3 _ ((xs).length : Int) 12 true h1 rfl rfl (.inl rfl) (by kernel_rfl) rfl rfl) (by kernel_rfl), ?_⟩
    refine fcs ⟨Ob.new_ (ob_copy 7 8 (.inl rfl) rfl (.inl rfl) (by kernel_rfl) rfl) (by kernel_rfl), ?_⟩
    refine fcs ⟨Ob.new_ (ob_skip 5 8 9 false rfl rfl (by kernel_rfl) (by decide) rfl rfl rfl) (by kernel_rfl), ?_⟩
    refine fcs ⟨Ob.new_ (ob_skip 5 8 10 false rfl rfl (by kernel_rfl) (by decide) rfl rfl rfl) (by kernel_rfl), ?_⟩
    refine fcs ⟨Ob.new_ (ob_skip 5 8 11 false rfl rfl (by kernel_rfl) (by decide) rfl rfl rfl) (by kernel_rfl), ?_⟩
    refine fcs ⟨Ob.new_ (ob_skip 5 8 12 false rfl rfl (by kernel_rfl) (by decide) rfl rfl rfl) (by kernel_rfl), ?_⟩
    refine fcs ⟨Ob.new_ (ob_skip 5 8 13 false rfl rfl (by kernel_rfl) (by decide) rfl rfl rfl) (by kernel_rfl), ?_⟩
    refine fcs ⟨Ob.new_ (ob_pick_or 8 13 14 (.bool true) rfl rfl (.inl rfl) (by kernel_rfl) rfl rfl) (by kernel_rfl), ?_⟩
    exact fnl
  intro a2 w2 st2 hbr2 hfr
  have hs2 := hbr2.size
  have hb := up hb hbr2
  have st : St 24 [(1, Fact.cell b1 (Con.pre s xs ys)), (2, Fact.eq (.bool false)), (14, Fact.eq (.bool true))] a2 w2 := st2.to (fcs ⟨st2.at_ 1, fcs ⟨st2.at_ 2, fcs ⟨st2.at_ 14, fnl⟩⟩⟩)
  clear st2 hbr2 hfr
  refine wpList_nil ?_
  refine then_normal ?_
  refine wp_cond_true (st.at_ 14) ?_
  refine wp_seq ?_
  have st := st.to (ks' := [(1, Fact.cell b1 (Con.pre s xs ys)), (14, Fact.eq (.bool true))]) (fcs ⟨st.at_ 1, fcs ⟨st.at_ 14, fnl⟩⟩)
  refine sym_region st [(15, Fact.eq (.bool true)), (2, Fact.eq (.bool true))] [] 2 (by kernel_rfl) (by kernel_rfl) (by kernel_rfl) (Nat.le_of_ble_eq_true rfl) (by kernel_rfl) rfl rfl ?_ ?_
  · refine fcs ⟨Ob.new_ (ob_call0 12 15 _ rfl rfl (.inl rfl) (by kernel_rfl) w_awake) (by kernel_rfl), ?_⟩
    refine fcs ⟨Ob.new_ (ob_copy 15 2 (.inr rfl) rfl (.inl rfl) (by kernel_rfl) rfl) (by kernel_rfl), ?_⟩
    exact fnl
  intro a3 w3 st3 hbr3 hfr
  have hs3 := hbr3.size
  have hb := up hb hbr3
  have st : St 24 [(1, Fact.cell b1 (Con.pre s xs ys)), (2, Fact.eq (.bool true))] a3 w3 := st3.to (fcs ⟨st3.at_ 1, fcs ⟨st3.at_ 2, fnl⟩⟩)
  clear st3 hbr3 hfr
  refine wpList_nil ?_
  refine then_normal ?_
  refine wp_ret ?_
  exact sym_ret1 rfl st.defers (resAt_tmp st 2) hb (fun _ h => h)
set_option maxRecDepth 100000 in
theorem law_valid_no1 (s : Bool) (xs ys : List Nat) (h1 : decide ((xs.length : Int) > 12) = false) (h2 : decide ((ys.length : Int) > 12) = true) : ∀ v0 w, (Fact.agg (Con.pre s xs ys)).holds v0 w → Calls Tryd.prog 4 #[v0] w (Ret (Fact.eq (.bool true)) w) := by
  intro v0 w hv0
  refine sym_calls 24 [(0, Fact.agg (Con.pre s xs ys))] Tryd.func4 rfl rfl (Nat.le_of_ble_eq_true rfl) (fcs ⟨⟨Nat.le_of_ble_eq_true rfl, hv0⟩, fnl⟩) fun a st => ?_
  have hb := Below.refl w.heap.size w
  refine wp_seq ?_
  refine sym_region st [(1, Fact.var' (Con.pre s xs ys)), (2, Fact.eq (.bool false))] [1] 2 (by kernel_rfl) (by kernel_rfl) (by kernel_rfl) (Nat.le_of_ble_eq_true rfl) (by kernel_rfl) rfl rfl ?_ ?_
  · refine fcs ⟨obn_box 28 0 1 _ (Con.pre s xs ys) rfl rfl rfl (by kernel_rfl) rfl rfl, ?_⟩
    refine fcs ⟨Ob.new_ (ob_const (.bool false) 2 (.inr rfl) rfl (.inl rfl) rfl) (by kernel_rfl), ?_⟩
    exact fnl
  intro a1 w1 st1 hbr1 hfr
  have hs1 := hbr1.size
  have hb := up hb hbr1
  obtain ⟨b1, c1⟩ := (show (Fact.var' (Con.pre s xs ys)).holds _ _ from st1.at_ 1)
  have g1 := hfr.ge (s := 1) rfl c1.1
  have st : St 24 [(1, Fact.cell b1 (Con.pre s xs ys)), (2, Fact.eq (.bool false))] a1 w1 := st1.to (fcs ⟨c1, fcs ⟨st1.at_ 2, fnl⟩⟩)
  clear st1 hbr1 hfr c1
  refine wpList_nil ?_
  refine then_normal ?_
  refine wp_seq ?_
  refine wp_seq ?_
  refine sym_region st [(3, Fact.ptr (Con.any_ xs)), (4, Fact.ptr (Con.any_ xs)), (5, Fact.rowd xs), (6, Fact.eq (.int .i64 ((xs).length : Int))), (7, Fact.eq (.bool false)), (8, Fact.eq (.bool false)), (9, Fact.ptr (Con.any_ ys)), (10, Fact.ptr (Con.any_ ys)), (11, Fact.rowd ys), (12, Fact.eq (.int .i64 ((ys).length : Int))), (13, Fact.eq (.bool true)), (14, Fact.eq (.bool true))] [] 12 (by kernel_rfl) (by kernel_rfl) (by kernel_rfl) (Nat.le_of_ble_eq_true rfl) (by kernel_rfl) rfl rfl ?_ ?_
  · refine fcs ⟨Ob.new_ (ob_addr 28 1 1 3 1 (Con.pre s xs ys) (Con.any_ xs) rfl rfl (.inl rfl) (by kernel_rfl) points_cell rfl (Con.pre_1 s xs ys) field26_1) (by kernel_rfl), ?_⟩
    refine fcs ⟨Ob.new_ (ob_addr 24 0 3 4 0 (Con.any_ xs) (Con.any_ xs) rfl rfl (.inl rfl) (by kernel_rfl) points_ptr rfl (Con.Sub.refl _) field24_0) (by kernel_rfl), ?_⟩
    refine fcs ⟨Ob.new_ (ob_loadrowd 4 5 xs (Con.any_ xs) any_row rfl rfl (.inl rfl) (by kernel_rfl) points_ptr rfl) (by kernel_rfl), ?_⟩
    refine fcs ⟨Ob.new_ (ob_len 5 6 (xs).length 22 rfl (by kernel_rfl) rfl (.inl rfl) (by kernel_rfl) len_rowd rfl) (by kernel_rfl), ?_⟩
    refine fcs ⟨Ob.new_ (ob_gtc 6 7 .i64 3 _ ((xs).length : Int) 12 false h1 rfl rfl (.inl rfl) (by kernel_rfl) rfl rfl) (by kernel_rfl), ?_⟩
    refine fcs ⟨Ob.new_ (ob_copy 7 8 (.inl rfl) rfl (.inl rfl) (by kernel_rfl) rfl) (by kernel_rfl), ?_⟩
    refine fcs ⟨Ob.new_ (ob_addr 28 2 1 9 2 (Con.pre s xs ys) (Con.any_ ys) rfl rfl (.inr ⟨_, _, _, rfl, rfl, by kernel_rfl, by decide, rfl⟩) (by kernel_rfl) points_cell rfl (Con.pre_2 s xs ys) field26_2) (by kernel_rfl), ?_⟩
    refine fcs ⟨Ob.new_ (ob_addr 24 0 9 10 0 (Con.any_ ys) (Con.any_ ys) rfl rfl (.inr ⟨_, _, _, rfl, rfl, by kernel_rfl, by decide, rfl⟩) (by kernel_rfl) points_ptr rfl (Con.Sub.refl _) field24_0) (by kernel_rfl), ?_⟩
    refine fcs ⟨Ob.new_ (ob_loadrowd 10 11 ys (Con.any_ ys) any_row rfl rfl (.inr ⟨_, _, _, rfl, rfl, by kernel_rfl, by decide, rfl⟩) (by kernel_rfl) points_ptr rfl) (by kernel_rfl), ?_⟩
    refine fcs ⟨Ob.new_ (ob_len 11 12 (ys).length 22 rfl (by kernel_rfl) rfl (.inr ⟨_, _, _, rfl, rfl, by kernel_rfl, by decide, rfl⟩) (by kernel_rfl) len_rowd rfl) (by kernel_rfl), ?_⟩
    refine fcs ⟨Ob.new_ (ob_gtc 12 13 .i64 3 _ ((ys).length : Int) 12 true h2 rfl rfl (.inr ⟨_, _, _, rfl, rfl, by kernel_rfl, by decide, rfl⟩) (by kernel_rfl) rfl rfl) (by kernel_rfl), ?_⟩
    refine fcs ⟨Ob.new_ (ob_pick_else 8 13 14 (.bool true) rfl rfl (.inl rfl) (by kernel_rfl) (by kernel_rfl) rfl rfl) (by kernel_rfl), ?_⟩
    exact fnl
  intro a2 w2 st2 hbr2 hfr
  have hs2 := hbr2.size
  have hb := up hb hbr2
  have st : St 24 [(1, Fact.cell b1 (Con.pre s xs ys)), (2, Fact.eq (.bool false)), (14, Fact.eq (.bool true))] a2 w2 := st2.to (fcs ⟨st2.at_ 1, fcs ⟨st2.at_ 2, fcs ⟨st2.at_ 14, fnl⟩⟩⟩)
  clear st2 hbr2 hfr
  refine wpList_nil ?_
  refine then_normal ?_
  refine wp_cond_true (st.at_ 14) ?_
  refine wp_seq ?_
  have st := st.to (ks' := [(1, Fact.cell b1 (Con.pre s xs ys)), (14, Fact.eq (.bool true))]) (fcs ⟨st.at_ 1, fcs ⟨st.at_ 14, fnl⟩⟩)
  refine sym_region st [(15, Fact.eq (.bool true)), (2, Fact.eq (.bool true))] [] 2 (by kernel_rfl) (by kernel_rfl) (by kernel_rfl) (Nat.le_of_ble_eq_true rfl) (by kernel_rfl) rfl rfl ?_ ?_
  · refine fcs ⟨Ob.new_ (ob_call0 12 15 _ rfl rfl (.inl rfl) (by kernel_rfl) w_awake) (by kernel_rfl), ?_⟩
    refine fcs ⟨Ob.new_ (ob_copy 15 2 (.inr rfl) rfl (.inl rfl) (by kernel_rfl) rfl) (by kernel_rfl), ?_⟩
    exact fnl
  intro a3 w3 st3 hbr3 hfr
  have hs3 := hbr3.size
  have hb := up hb hbr3
  have st : St 24 [(1, Fact.cell b1 (Con.pre s xs ys)), (2, Fact.eq (.bool true))] a3 w3 := st3.to (fcs ⟨st3.at_ 1, fcs ⟨st3.at_ 2, fnl⟩⟩)
  clear st3 hbr3 hfr
  refine wpList_nil ?_
  refine then_normal ?_
  refine wp_ret ?_
  exact sym_ret1 rfl st.defers (resAt_tmp st 2) hb (fun _ h => h)
theorem law_valid (s0 : Bool) (xs0 ys0 : List Nat) : ∀ v0 w, (Fact.agg (Con.pre s0 xs0 ys0)).holds v0 w → Calls Tryd.prog 4 #[v0] w (Ret (Fact.eq (.bool true)) w) := by
  intro v0 w hv0
  cases h1 : decide ((xs0.length : Int) > 12) with
  | true => exact law_valid_no0 s0 xs0 ys0 h1 v0 w hv0
  | false =>
  cases h2 : decide ((ys0.length : Int) > 12) with
  | true => exact law_valid_no1 s0 xs0 ys0 h1 h2 v0 w hv0
  | false =>
  have e1 := of_decide_eq_false h1
  have e2 := of_decide_eq_false h2
  exact law_valid_few s0 xs0 ys0 (by omega) (by omega) v0 w (Fact.pre_few hv0 (by omega) (by omega))
end Go.Proofs.YtjfehdkfogdpgaaDoor
namespace Go.Proofs.YtjfehdkfogdpgaaDoor
open Go.ChangeShapes Go.WideShapes Go.ChangeAt Go.RowKit Go.Deep
section
variable {H : Type} {enc : TypeId × Value → H}
set_option maxRecDepth 100000 in
theorem open_dig {W : World} {k : Nat} {c0 : Value} {y : DataW H × List MemPlace} (h2 : DataW.trod enc Tryd.prog W 0 (fun _ => true) true k 22 [c0] = some y) :
    ∃ A n c xs, c0 = .slice A n c ∧ Rd W A xs ∧ xs.length = n ∧ n ≤ c ∧ Nm.Dig xs := by
  rcases open_ints Tryd.underlying22 Tryd.underlying48 cells35 h2 with ⟨hc, _⟩ | ⟨a, len, cap, zs, hc, _, hl, _, hz, _, hcell, hwf⟩
  · injection hc with hc _
    subst hc
    exact ⟨none, 0, 0, [], rfl, .inl rfl, rfl, Nat.le_refl _, Nm.Dig.nil⟩
  · injection hc with hc _
    subst hc
    have hzl : zs.length = cap := by simpa using hz
    have hb : ∀ z ∈ zs, 0 ≤ z ∧ z < 4294967296 := fun z hm => by
      have := hwf z hm
      simp [Lit.wf, IntKind.min, IntKind.max, IntKind.signed, IntKind.bits] at this
      omega
    refine ⟨some a, len, cap, (zs.take len).map Int.toNat, rfl, ?_, by simp; omega, hl, ?_⟩
    · rcases Nat.eq_zero_or_pos len with h0 | h0
      · subst h0; exact .inl (by simp)
      · have h3 := hcell 0 (by omega)
        have hs : a.spot = none := by
          rw [Addr.add_zero'] at h3
          cases hsp : a.spot with
          | none => rfl
          | some x =>
            unfold World.cell? at h3
            rw [hsp] at h3
            split at h3
            · simp at h3
            · cases h3
        obtain ⟨g, off, sp⟩ := a
        have hs' : sp = none := hs
        subst hs'
        refine .inr ⟨g, off, rfl, fun i hi => ?_⟩
        have hi' : i < len := by simp at hi; omega
        have h4 := hcell i (by omega)
        rw [Addr.add_lit] at h4
        rw [h4]
        have hiz : i < zs.length := by omega
        have h5 := hb zs[i] (List.getElem_mem hiz)
        simp only [List.getD, List.getElem?_eq_getElem hiz, Option.getD_some, List.getElem_map, List.getElem_take]
        rw [Int.toNat_of_nonneg h5.1]
    · intro z hz
      obtain ⟨x, hx, rfl⟩ := List.mem_map.1 hz
      have := hb x (List.mem_of_mem_take hx)
      omega
theorem open_natc {W : World} {k : Nat} {c0 : Value} {y : DataW H × List MemPlace} (h : DataW.trod enc Tryd.prog W 0 (fun _ => true) true k 24 [c0] = some y) :
    ∃ zs, (Con.any_ zs).is W [c0] := by
  obtain ⟨ys, m, _, _, _, hlen, hg⟩ := DataW.trod_struct Tryd.underlying24 h
  have h1 := hg 0 _ rfl
  have c22 : Tryd.prog.cellsOf 22 = 1 := by kernel_rfl
  have h2 : ∃ y, DataW.trod enc Tryd.prog W 0 (fun _ => true) true m 22 [c0] = some y := by
    match ys, hlen with
    | [y], _ => exact ⟨y, by simpa [c22] using h1⟩
  obtain ⟨y, h2⟩ := h2
  obtain ⟨A, n, c, zs, rfl, hr, rfl, hc, hd⟩ := open_dig h2
  exact ⟨zs, A, c, rfl, hr, hc, hd⟩
theorem cells26 : Tryd.prog.cellsOf 28 = 3 := by kernel_rfl
theorem cells4 : Tryd.prog.cellsOf 4 = 1 := by kernel_rfl
set_option maxRecDepth 100000 in
theorem open_frac {W : World} {r : Reach} {b0 : Nat} {v : Value} {d : DataW H} {p : List MemPlace} (hv : Value.okWide Tryd.prog W r b0 28 v) (h : DataW.Trod enc Tryd.prog W 0 (fun _ => true) true 28 v d p) :
    ∃ s xs ys, (Fact.agg (Con.pre s xs ys)).holds v W := by
  obtain ⟨cs, rfl, hsz⟩ := okWide_struct Tryd.underlying28 hv
  obtain ⟨l⟩ := cs
  match l, hsz.trans cells26 with
  | [c0, c1, c2], _ =>
    obtain ⟨fuel, hf⟩ := h
    obtain ⟨y0, y1, y2, m, _, _, t0, t1, t2⟩ := trod_struct3 Tryd.underlying28 hf
    have h0 : DataW.trod enc Tryd.prog W 0 (fun _ => true) true m 4 [c0] = some y0 := by simpa [Value.cells, cells4] using t0
    have h1 : DataW.trod enc Tryd.prog W 0 (fun _ => true) true m 24 [c1] = some y1 := by simpa [Value.cells, cells24] using t1
    have h2 : DataW.trod enc Tryd.prog W 0 (fun _ => true) true m 24 [c2] = some y2 := by simpa [Value.cells, cells24] using t2
    obtain ⟨b, hb, _⟩ := DataW.trod_bool Tryd.underlying4 h0
    injection hb with hb _
    subst hb
    obtain ⟨xs, hx⟩ := open_natc h1
    obtain ⟨ys, hy⟩ := open_natc h2
    exact ⟨b, xs, ys, [.bool b, c1, c2], rfl, [.bool b], [c1, c2], rfl, rfl, [c1], [c2], rfl, hx, hy⟩
end
end Go.Proofs.YtjfehdkfogdpgaaDoor
namespace Go.Proofs.YtjfehdkfogdpgaaDoor
open Go.ChangeShapes Go.WideShapes Go.ChangeAt Go.RowKit
set_option maxRecDepth 100000 in
theorem fractionValid_lifted (os : Os) (started : os.Started) (H : Type) (enc : TypeId × Value → H) :
    ReturnsInHanded {} Tryd.checked os 4 .any (fun w args => (Rows.fractionValidSpec.pre enc Tryd.prog Tryd.f4 Rows.fractionValidRow.domain false w args ∧ laidMetH Tryd.prog Rows.fractionValidRow.laid w) ∧ sizedMet enc Tryd.prog Tryd.f4 (OpenSpec.ofChange Rows.fractionValidSpec) false w args)
      (Rows.fractionValidSpec.post enc Tryd.prog Tryd.f4 false true false false) := by
  refine returnsInHanded_of_change_and (C := Tryd.checked) (X := fun w _ => laidMetH Tryd.prog Rows.fractionValidRow.laid w) (fun _ _ _ hh h => h.of_heap hh) Tryd.own started (by kernel_rfl) Tryd.func4
    (ChangeSpec.witness_shaped (enc := enc) (C := Tryd.checked) (os := os) (X := fun w _ => laidMetH Tryd.prog Rows.fractionValidRow.laid w) false (World.laidAll Tryd.prog os Rows.fractionValidRow.laid) #[.agg #[.bool false, .slice none 0 0, .slice none 0 0]] 8 (World.laidAll_os _ _ _)
      (World.shaped_of_ZipB (by kernel_rfl) (by kernel_rfl)) (by kernel_rfl) (by kernel_rfl) (by kernel_rfl)
      (by rw [MakeChecks.laidMetH_plain _ _ _ (by kernel_rfl)]; exact laidMet_laidAll _ (by kernel_rfl) (by kernel_rfl))) ?_
  intro W base args ds gs before hval0 hW hc _ hL _
  have hval : ∀ (j : Nat) t v, Tryd.f4.params[j]? = some t → args[j]? = some v → Value.okWide Tryd.prog W .any base t v := hval0
  have hW' := hW
  obtain ⟨p, q, hA0, hV, rfl, _, _⟩ := hW
  have hA : DataW.TrodAll enc Tryd.prog W 0 (fun _ => true) true Tryd.f4.params.toList args.toList ds p := hA0
  rw [Tryd.params4] at hA hval
  obtain ⟨v0, d0, rfl, rfl, h0⟩ := trodAll_one hA
  obtain ⟨rfl, rfl⟩ := trodVars_none hV
  clear hA0
  simp only [List.append_nil] at hW' 
  have hlt0 : ∀ x ∈ p, x.block < W.heap.size := fun x hx => by simpa using hW'.lt x (by simp [hx])
  obtain ⟨s0, xs0, ys0, g0⟩ := open_frac (hval 0 28 v0 rfl rfl) h0
  refine (law_valid s0 xs0 ys0 _ W g0).mono fun e W' ⟨u, he, hb, hu⟩ => ?_
  obtain rfl : u = .bool true := hu
  subst he
  exact ⟨_, rfl, post_true rfl rfl hW' rfl rfl (trodAll_mk1 (Below.trod Tryd.laidOut (by kernel_rfl) (of_decide_eq_true (by kernel_rfl)) h0 hb hlt0)) hb⟩
theorem fractionValid_holds : Rows.FractionValidSaid :=
  OpenClaim.holds_of_wide 4 Tryd.f4 rfl rfl rfl rfl rfl rfl rfl ⟨rfl, rfl, rfl, rfl, rfl⟩ rfl rfl rfl rfl rfl (by kernel_rfl) Tryd.func4 (by kernel_rfl)
    (of_decide_eq_true (by kernel_rfl)) (by unfold Func.isWrapper; first | (rw [if_pos (by decide +kernel)]; kernel_rfl) | (rw [if_neg (by decide +kernel)]; exact ⟨rfl, rfl⟩))
    (fun os started H enc _ => fractionValid_lifted os started H enc)
theorem fractionValid_card : Rows.FractionValidCardSaid :=
  Claim7.holds_tied_plain_at .later [] [.data, .pinned] true (true, "428520cfc8c758f6fde9c7187defc164a5f9d48dfea1a7e7b7af18e8e722a290") false fractionValid_holds (fun _ h => by cases h) (by kernel_rfl) (fun _ h => by cases h) fractionValid_row_tie rfl ⟨rfl, rfl⟩ (by kernel_rfl) rfl
    (fun f fn hf hfn => by
      obtain rfl : f = 4 := Option.some.inj ((show Tryd.prog.funcNamed "robotics/roboticslaw02.FractionValid" = some 4 by kernel_rfl).symm.trans hf) |>.symm
      obtain rfl : fn = Tryd.f4 := (Option.some.inj (Tryd.func4.symm.trans hfn)).symm
      exact ⟨by kernel_rfl, fun j t ht => by
        rw [Tryd.params4] at ht
        have hm : t ∈ [28] := by simpa using Array.mem_of_getElem? ht
        have hall : ([28].all fun u => !Tryd.prog.wantsStandIn u) = true := by kernel_rfl
        exact (show Tryd.prog.wantsStandIn t = false by simpa using List.all_eq_true.1 hall t hm)⟩)
    (by kernel_rfl)
end Go.Proofs.YtjfehdkfogdpgaaDoor

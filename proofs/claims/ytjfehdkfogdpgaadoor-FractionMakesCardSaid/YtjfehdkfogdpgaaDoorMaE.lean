/-
  Contracts of Floor. Conditions: numbers of at most 300 digits.
  Strings as lists of bytes; the contracts of strings.CutPrefix at "-" and strings.Cut at "/". Conditions: strings of at most 1000000 bytes.
  The law that tells which strings are numbers, and which error the others are: it returns true. No conditions.
  The contracts of texts, told by lists of bytes: cutting, numbers out of texts and into texts; joining. Conditions: texts of at most 1000000 bytes, numbers of at most 300 digits.
  Contracts of Format and Parse of package fraction. Conditions: texts of at most 1000000 bytes.
  The examples that every law asks for.
-/
import Derived.Lib.Bytealg
import Derived.Lib.IndexLaws
import Derived.Lib.Walk
import Derived.Lib.Strings
import Derived.Laws.Strings3
import Derived.Test.YtjfehdkfogdpgaaDoorMaD
namespace Go.Proofs.YtjfehdkfogdpgaaDoor
open Go.RowKit
set_option maxRecDepth 100000 in
theorem q_floor (k : Nat) (x : Rat) (hk : k + 1 ≤ 400) : ∀ v0 w, (Fact.agg (Con.fr k x)).holds v0 w → Calls Tryd.prog 29 #[v0] w (Ret (Fact.two (Fact.eq (.int .i64 (asI x.floor))) (Fact.eq (.bool (fitsI x.floor)))) w) := by
  intro v0 w hv0
  cases hng : Rt.ng x with
  | false =>
    refine sym_calls 34 [(0, Fact.agg (Con.fr k x))] Tryd.func29 rfl rfl (Nat.le_of_ble_eq_true rfl) (fcs ⟨⟨Nat.le_of_ble_eq_true rfl, hv0⟩, fnl⟩) fun a st => ?_
    have hb := Below.refl w.heap.size w
    refine wp_seq ?_
    refine sym_region st [(1, Fact.var' (Con.fr k x)), (2, Fact.eq (.int .i64 0)), (3, Fact.eq (.bool false))] [1] 3 (by kernel_rfl) (by kernel_rfl) (by kernel_rfl) (Nat.le_of_ble_eq_true rfl) (by kernel_rfl) rfl rfl ?_ ?_
    · refine fcs ⟨obn_box 28 0 1 _ (Con.fr k x) rfl rfl rfl (by kernel_rfl) rfl rfl, ?_⟩
      refine fcs ⟨Ob.new_ (ob_const (.int .i64 0) 2 (.inr rfl) rfl (.inl rfl) rfl) (by kernel_rfl), ?_⟩
      refine fcs ⟨Ob.new_ (ob_const (.bool false) 3 (.inr rfl) rfl (.inl rfl) rfl) (by kernel_rfl), ?_⟩
      exact fnl
    intro a1 w1 st1 hbr1 hfr
    have hs1 := hbr1.size
    have hb := up hb hbr1
    obtain ⟨b1, c1⟩ := (show (Fact.var' (Con.fr k x)).holds _ _ from st1.at_ 1)
    have g1 := hfr.ge (s := 1) rfl c1.1
    have st : St 34 [(1, Fact.cell b1 (Con.fr k x)), (2, Fact.eq (.int .i64 0)), (3, Fact.eq (.bool false))] a1 w1 := st1.to (fcs ⟨c1, fcs ⟨st1.at_ 2, fcs ⟨st1.at_ 3, fnl⟩⟩⟩)
    clear st1 hbr1 hfr c1
    refine wpList_nil ?_
    refine then_normal ?_
    refine wp_seq ?_
    refine sym_region st [(8, Fact.ptr (Con.nn k (Rt.tp x))), (9, Fact.agg (Con.nn k (Rt.tp x))), (10, Fact.ptr (Con.nn k (Rat.den x))), (11, Fact.agg (Con.nn k (Rat.den x))), (12, Fact.three (Fact.agg (Con.nn k ((Rt.tp x) / (Rat.den x)))) (Fact.agg (Con.nn k ((Rt.tp x) % (Rat.den x)))) (Fact.eq (.int .i64 0))), (7, Fact.three (Fact.agg (Con.nn k ((Rt.tp x) / (Rat.den x)))) (Fact.agg (Con.nn k ((Rt.tp x) % (Rat.den x)))) (Fact.eq (.int .i64 0))), (13, Fact.agg (Con.nn k ((Rt.tp x) / (Rat.den x)))), (14, Fact.agg (Con.nn k ((Rt.tp x) % (Rat.den x)))), (15, Fact.eq (.int .i64 0)), (4, Fact.var' (Con.raw 1)), (5, Fact.var' (Con.raw 1))] [4, 5] 11 (by kernel_rfl) (by kernel_rfl) (by kernel_rfl) (Nat.le_of_ble_eq_true rfl) (by kernel_rfl) rfl rfl ?_ ?_
    · refine fcs ⟨Ob.new_ (ob_addr 28 1 1 8 1 (Con.fr k x) (Con.nn k (Rt.tp x)) rfl rfl (.inl rfl) (by kernel_rfl) points_cell rfl (Con.fr_tp k x) field26_1) (by kernel_rfl), ?_⟩
      refine fcs ⟨Ob.new_ (ob_read 24 8 9 (Con.nn k (Rt.tp x)) rfl rfl (.inl rfl) (by kernel_rfl) points_ptr rfl row24 info24) (by kernel_rfl), ?_⟩
      refine fcs ⟨Ob.new_ (ob_addr 28 2 1 10 2 (Con.fr k x) (Con.nn k (Rat.den x)) rfl rfl (.inl rfl) (by kernel_rfl) points_cell rfl (Con.fr_den k x) field26_2) (by kernel_rfl), ?_⟩
      refine fcs ⟨Ob.new_ (ob_read 24 10 11 (Con.nn k (Rat.den x)) rfl rfl (.inl rfl) (by kernel_rfl) points_ptr rfl row24 info24) (by kernel_rfl), ?_⟩
      refine fcs ⟨Ob.new_ (ob_call2 51 9 11 12 _ rfl rfl (.inl rfl) (by kernel_rfl) (by kernel_rfl) (by kernel_rfl) (n_divMod k k (Rt.tp x) (Rat.den x) x.den_nz (by omega) (by omega))) (by kernel_rfl), ?_⟩
      refine fcs ⟨Ob.new_ (ob_copy 12 7 (.inl rfl) rfl (.inl rfl) (by kernel_rfl) rfl) (by kernel_rfl), ?_⟩
      refine fcs ⟨Ob.new_ (ob_3a 7 13 (Fact.agg (Con.nn k ((Rt.tp x) / (Rat.den x)))) (Fact.agg (Con.nn k ((Rt.tp x) % (Rat.den x)))) (Fact.eq (.int .i64 0)) rfl rfl (.inl rfl) (by kernel_rfl) rfl rfl) (by kernel_rfl), ?_⟩
      refine fcs ⟨Ob.new_ (ob_3b 7 14 (Fact.agg (Con.nn k ((Rt.tp x) / (Rat.den x)))) (Fact.agg (Con.nn k ((Rt.tp x) % (Rat.den x)))) (Fact.eq (.int .i64 0)) rfl rfl (.inl rfl) (by kernel_rfl) rfl rfl) (by kernel_rfl), ?_⟩
      refine fcs ⟨Ob.new_ (ob_3c 7 15 (Fact.agg (Con.nn k ((Rt.tp x) / (Rat.den x)))) (Fact.agg (Con.nn k ((Rt.tp x) % (Rat.den x)))) (Fact.eq (.int .i64 0)) rfl rfl (.inl rfl) (by kernel_rfl) rfl rfl) (by kernel_rfl), ?_⟩
      refine fcs ⟨obn_new 24 4 _ [.slice none 0 0] rfl rfl rfl rfl rfl alloc24, ?_⟩
      refine fcs ⟨obn_new 24 5 _ [.slice none 0 0] rfl rfl rfl rfl rfl alloc24, ?_⟩
      exact fnl
    intro a2 w2 st2 hbr2 hfr
    have hs2 := hbr2.size
    have hb := up hb hbr2
    obtain ⟨b4, c4⟩ := (show (Fact.var' (Con.raw 1)).holds _ _ from st2.at_ 4)
    have g4 := hfr.ge (s := 4) rfl c4.1
    obtain ⟨b5, c5⟩ := (show (Fact.var' (Con.raw 1)).holds _ _ from st2.at_ 5)
    have g5 := hfr.ge (s := 5) rfl c5.1
    have ne4_5 := hfr.apart (s := 4) (t := 5) rfl rfl (by decide) c4.1 c5.1
    have st : St 34 [(1, Fact.cell b1 (Con.fr k x)), (2, Fact.eq (.int .i64 0)), (3, Fact.eq (.bool false)), (13, Fact.agg (Con.nn k ((Rt.tp x) / (Rat.den x)))), (14, Fact.agg (Con.nn k ((Rt.tp x) % (Rat.den x)))), (15, Fact.eq (.int .i64 0)), (4, Fact.cell b4 (Con.raw 1)), (5, Fact.cell b5 (Con.raw 1))] a2 w2 := st2.to (fcs ⟨st2.at_ 1, fcs ⟨st2.at_ 2, fcs ⟨st2.at_ 3, fcs ⟨st2.at_ 13, fcs ⟨st2.at_ 14, fcs ⟨st2.at_ 15, fcs ⟨c4, fcs ⟨c5, fnl⟩⟩⟩⟩⟩⟩⟩⟩)
    clear st2 hbr2 hfr c4 c5
    refine sym_store st 24 4 13 b4 (Con.raw 1) (Con.nn k ((Rt.tp x) / (Rat.den x))) [(1, Fact.cell b1 (Con.fr k x)), (2, Fact.eq (.int .i64 0)), (3, Fact.eq (.bool false)), (14, Fact.agg (Con.nn k ((Rt.tp x) % (Rat.den x)))), (15, Fact.eq (.int .i64 0)), (4, Fact.cell b4 (Con.nn k ((Rt.tp x) / (Rat.den x)))), (5, Fact.cell b5 (Con.raw 1))] rfl rfl rfl rfl rfl rfl info24 ?_ ?_
    · exact fcs ⟨.inr ⟨rfl, safe_cell _ (by omega)⟩, fcs ⟨.inr ⟨rfl, safe_eq _ _⟩, fcs ⟨.inr ⟨rfl, safe_eq _ _⟩, fcs ⟨.inr ⟨rfl, safe_agg _ _⟩, fcs ⟨.inr ⟨rfl, safe_eq _ _⟩, fcs ⟨.inl rfl, fcs ⟨.inr ⟨rfl, safe_cell _ (by omega)⟩, fnl⟩⟩⟩⟩⟩⟩⟩
    clear st; intro w3 hB hsz3 st
    have hb := hB _ _ hb (by omega) (by omega)
    clear hB
    refine sym_store st 24 5 14 b5 (Con.raw 1) (Con.nn k ((Rt.tp x) % (Rat.den x))) [(1, Fact.cell b1 (Con.fr k x)), (2, Fact.eq (.int .i64 0)), (3, Fact.eq (.bool false)), (15, Fact.eq (.int .i64 0)), (4, Fact.cell b4 (Con.nn k ((Rt.tp x) / (Rat.den x)))), (5, Fact.cell b5 (Con.nn k ((Rt.tp x) % (Rat.den x))))] rfl rfl rfl rfl rfl rfl info24 ?_ ?_
    · exact fcs ⟨.inr ⟨rfl, safe_cell _ (by omega)⟩, fcs ⟨.inr ⟨rfl, safe_eq _ _⟩, fcs ⟨.inr ⟨rfl, safe_eq _ _⟩, fcs ⟨.inr ⟨rfl, safe_eq _ _⟩, fcs ⟨.inr ⟨rfl, safe_cell _ (by omega)⟩, fcs ⟨.inl rfl, fnl⟩⟩⟩⟩⟩⟩
    clear st; intro w4 hB hsz4 st
    have hb := hB _ _ hb (by omega) (by omega)
    clear hB
    refine sym_op st 6 (Fact.eq (.int .i64 0)) rfl (Nat.le_of_ble_eq_true rfl) rfl rfl (by kernel_rfl) (ob_copy 15 6 (.inr rfl) rfl (.inl rfl) (by kernel_rfl) rfl) ?_
    clear st; intro a5 w5 hbr st; have hs5 := hbr.size; have hb := up hb hbr; clear hbr
    refine wpList_nil ?_
    refine then_normal ?_
    refine wp_seq ?_
    refine wp_seq ?_
    refine sym_region st [(16, Fact.eq (.int .i64 0)), (17, Fact.eq (.bool false))] [] 2 (by kernel_rfl) (by kernel_rfl) (by kernel_rfl) (Nat.le_of_ble_eq_true rfl) (by kernel_rfl) rfl rfl ?_ ?_
    · refine fcs ⟨Ob.new_ (ob_copy 6 16 (.inl rfl) rfl (.inl rfl) (by kernel_rfl) rfl) (by kernel_rfl), ?_⟩
      refine fcs ⟨Ob.new_ (ob_nec 16 17 .i64 29 _ 0 0 false rfl rfl rfl (.inl rfl) (by kernel_rfl) rfl rfl) (by kernel_rfl), ?_⟩
      exact fnl
    intro a6 w6 st6 hbr6 hfr
    have hs6 := hbr6.size
    have hb := up hb hbr6
    have st : St 34 [(1, Fact.cell b1 (Con.fr k x)), (2, Fact.eq (.int .i64 0)), (3, Fact.eq (.bool false)), (4, Fact.cell b4 (Con.nn k ((Rt.tp x) / (Rat.den x)))), (5, Fact.cell b5 (Con.nn k ((Rt.tp x) % (Rat.den x)))), (17, Fact.eq (.bool false))] a6 w6 := st6.to (fcs ⟨st6.at_ 1, fcs ⟨st6.at_ 2, fcs ⟨st6.at_ 3, fcs ⟨st6.at_ 4, fcs ⟨st6.at_ 5, fcs ⟨st6.at_ 17, fnl⟩⟩⟩⟩⟩⟩)
    clear st6 hbr6 hfr
    refine wpList_nil ?_
    refine then_normal ?_
    refine wp_cond_false (st.at_ 17) ?_
    refine wp_skip ?_
    refine then_normal ?_
    refine wp_seq ?_
    refine wp_seq ?_
    refine sym_region st [(18, Fact.ptr (Con.bool (Rt.ng x))), (19, Fact.eq (.bool false)), (20, Fact.eq (.bool false)), (21, Fact.eq undef), (22, Fact.eq undef), (23, Fact.eq undef), (24, Fact.eq (.bool false))] [] 7 (by kernel_rfl) (by kernel_rfl) (by kernel_rfl) (Nat.le_of_ble_eq_true rfl) (by kernel_rfl) rfl rfl ?_ ?_
    · refine fcs ⟨Ob.new_ (ob_addr 28 0 1 18 0 (Con.fr k x) (Con.bool (Rt.ng x)) rfl rfl (.inl rfl) (by kernel_rfl) points_cell rfl (Con.fr_ng k x) field26_0) (by kernel_rfl), ?_⟩
      refine fcs ⟨Ob.new_ (ob_readb 18 19 (Rt.ng x) false hng rfl rfl (.inl rfl) (by kernel_rfl) points_ptr rfl) (by kernel_rfl), ?_⟩
      refine fcs ⟨Ob.new_ (ob_copy 19 20 (.inl rfl) rfl (.inl rfl) (by kernel_rfl) rfl) (by kernel_rfl), ?_⟩
      refine fcs ⟨Ob.new_ (ob_skip 2 20 21 true rfl rfl (by kernel_rfl) (by decide) rfl rfl rfl) (by kernel_rfl), ?_⟩
      refine fcs ⟨Ob.new_ (ob_skip 2 20 22 true rfl rfl (by kernel_rfl) (by decide) rfl rfl rfl) (by kernel_rfl), ?_⟩
      refine fcs ⟨Ob.new_ (ob_skip 2 20 23 true rfl rfl (by kernel_rfl) (by decide) rfl rfl rfl) (by kernel_rfl), ?_⟩
      refine fcs ⟨Ob.new_ (ob_pick_no 20 23 24 (.bool false) rfl rfl (.inl rfl) (by kernel_rfl) rfl rfl) (by kernel_rfl), ?_⟩
      exact fnl
    intro a7 w7 st7 hbr7 hfr
    have hs7 := hbr7.size
    have hb := up hb hbr7
    have st : St 34 [(1, Fact.cell b1 (Con.fr k x)), (2, Fact.eq (.int .i64 0)), (3, Fact.eq (.bool false)), (4, Fact.cell b4 (Con.nn k ((Rt.tp x) / (Rat.den x)))), (24, Fact.eq (.bool false))] a7 w7 := st7.to (fcs ⟨st7.at_ 1, fcs ⟨st7.at_ 2, fcs ⟨st7.at_ 3, fcs ⟨st7.at_ 4, fcs ⟨st7.at_ 24, fnl⟩⟩⟩⟩⟩)
    clear st7 hbr7 hfr
    refine wpList_nil ?_
    refine then_normal ?_
    refine wp_cond_false (st.at_ 24) ?_
    refine wp_skip ?_
    refine then_normal ?_
    refine wp_seq ?_
    have st := st.to (ks' := [(1, Fact.cell b1 (Con.fr k x)), (4, Fact.cell b4 (Con.nn k ((Rt.tp x) / (Rat.den x)))), (24, Fact.eq (.bool false))]) (fcs ⟨st.at_ 1, fcs ⟨st.at_ 4, fcs ⟨st.at_ 24, fnl⟩⟩⟩)
    refine sym_region st [(28, Fact.ptr (Con.bool (Rt.ng x))), (29, Fact.eq (.bool false)), (30, Fact.agg (Con.nn k ((Rt.tp x) / (Rat.den x)))), (31, Fact.two (Fact.eq (.int .i64 (asI (Rt.sg false ((Rt.tp x) / (Rat.den x)))))) (Fact.eq (.bool (fitsI (Rt.sg false ((Rt.tp x) / (Rat.den x))))))), (32, Fact.eq (.int .i64 (asI (Rt.sg false ((Rt.tp x) / (Rat.den x)))))), (33, Fact.eq (.bool (fitsI (Rt.sg false ((Rt.tp x) / (Rat.den x)))))), (2, Fact.eq (.int .i64 (asI (Rt.sg false ((Rt.tp x) / (Rat.den x)))))), (3, Fact.eq (.bool (fitsI (Rt.sg false ((Rt.tp x) / (Rat.den x))))))] [] 8 (by kernel_rfl) (by kernel_rfl) (by kernel_rfl) (Nat.le_of_ble_eq_true rfl) (by kernel_rfl) rfl rfl ?_ ?_
    · refine fcs ⟨Ob.new_ (ob_addr 28 0 1 28 0 (Con.fr k x) (Con.bool (Rt.ng x)) rfl rfl (.inl rfl) (by kernel_rfl) points_cell rfl (Con.fr_ng k x) field26_0) (by kernel_rfl), ?_⟩
      refine fcs ⟨Ob.new_ (ob_readb 28 29 (Rt.ng x) false hng rfl rfl (.inl rfl) (by kernel_rfl) points_ptr rfl) (by kernel_rfl), ?_⟩
      refine fcs ⟨Ob.new_ (ob_read 24 4 30 (Con.nn k ((Rt.tp x) / (Rat.den x))) rfl rfl (.inl rfl) (by kernel_rfl) points_cell rfl row24 info24) (by kernel_rfl), ?_⟩
      refine fcs ⟨Ob.new_ (ob_call2 52 29 30 31 _ rfl rfl (.inl rfl) (by kernel_rfl) (by kernel_rfl) (by kernel_rfl) (q_signed k false ((Rt.tp x) / (Rat.den x)))) (by kernel_rfl), ?_⟩
      refine fcs ⟨Ob.new_ (ob_fst 31 32 (Fact.eq (.int .i64 (asI (Rt.sg false ((Rt.tp x) / (Rat.den x)))))) (Fact.eq (.bool (fitsI (Rt.sg false ((Rt.tp x) / (Rat.den x)))))) rfl rfl (.inl rfl) (by kernel_rfl) rfl rfl) (by kernel_rfl), ?_⟩
      refine fcs ⟨Ob.new_ (ob_snd 31 33 (Fact.eq (.int .i64 (asI (Rt.sg false ((Rt.tp x) / (Rat.den x)))))) (Fact.eq (.bool (fitsI (Rt.sg false ((Rt.tp x) / (Rat.den x)))))) rfl rfl (.inl rfl) (by kernel_rfl) rfl rfl) (by kernel_rfl), ?_⟩
      refine fcs ⟨Ob.new_ (ob_copy 32 2 (.inr rfl) rfl (.inl rfl) (by kernel_rfl) rfl) (by kernel_rfl), ?_⟩
      refine fcs ⟨Ob.new_ (ob_copy 33 3 (.inr rfl) rfl (.inl rfl) (by kernel_rfl) rfl) (by kernel_rfl), ?_⟩
      exact fnl
    intro a8 w8 st8 hbr8 hfr
    have hs8 := hbr8.size
    have hb := up hb hbr8
    have st : St 34 [(2, Fact.eq (.int .i64 (asI (Rt.sg false ((Rt.tp x) / (Rat.den x)))))), (3, Fact.eq (.bool (fitsI (Rt.sg false ((Rt.tp x) / (Rat.den x))))))] a8 w8 := st8.to (fcs ⟨st8.at_ 2, fcs ⟨st8.at_ 3, fnl⟩⟩)
    clear st8 hbr8 hfr
    refine wpList_nil ?_
    refine then_normal ?_
    refine wp_ret ?_
    exact sym_ret2 rfl st.defers (resAt_tmp st 2) (resAt_tmp st 3) hb (fun v u h1 h2 => by rw [Rt.floor_pos hng]; exact ⟨v, u, rfl, h1, h2⟩)
  | true =>
  by_cases hr : Rt.tp x % x.den = 0
  · have hd := decide_eq_true hr
    refine sym_calls 34 [(0, Fact.agg (Con.fr k x))] Tryd.func29 rfl rfl (Nat.le_of_ble_eq_true rfl) (fcs ⟨⟨Nat.le_of_ble_eq_true rfl, hv0⟩, fnl⟩) fun a st => ?_
    have hb := Below.refl w.heap.size w
    refine wp_seq ?_
    refine sym_region st [(1, Fact.var' (Con.fr k x)), (2, Fact.eq (.int .i64 0)), (3, Fact.eq (.bool false))] [1] 3 (by kernel_rfl) (by kernel_rfl) (by kernel_rfl) (Nat.le_of_ble_eq_true rfl) (by kernel_rfl) rfl rfl ?_ ?_
    · refine fcs ⟨obn_box 28 0 1 _ (Con.fr k x) rfl rfl rfl (by kernel_rfl) rfl rfl, ?_⟩
      refine fcs ⟨Ob.new_ (ob_const (.int .i64 0) 2 (.inr rfl) rfl (.inl rfl) rfl) (by kernel_rfl), ?_⟩
      refine fcs ⟨Ob.new_ (ob_const (.bool false) 3 (.inr rfl) rfl (.inl rfl) rfl) (by kernel_rfl), ?_⟩
      exact fnl
    intro a1 w1 st1 hbr1 hfr
    have hs1 := hbr1.size
    have hb := up hb hbr1
    obtain ⟨b1, c1⟩ := (show (Fact.var' (Con.fr k x)).holds _ _ from st1.at_ 1)
    have g1 := hfr.ge (s := 1) rfl c1.1
    have st : St 34 [(1, Fact.cell b1 (Con.fr k x)), (2, Fact.eq (.int .i64 0)), (3, Fact.eq (.bool false))] a1 w1 := st1.to (fcs ⟨c1, fcs ⟨st1.at_ 2, fcs ⟨st1.at_ 3, fnl⟩⟩⟩)
    clear st1 hbr1 hfr c1
    refine wpList_nil ?_
    refine then_normal ?_
    refine wp_seq ?_
    refine sym_region st [(8, Fact.ptr (Con.nn k (Rt.tp x))), (9, Fact.agg (Con.nn k (Rt.tp x))), (10, Fact.ptr (Con.nn k (Rat.den x))), (11, Fact.agg (Con.nn k (Rat.den x))), (12, Fact.three (Fact.agg (Con.nn k ((Rt.tp x) / (Rat.den x)))) (Fact.agg (Con.nn k ((Rt.tp x) % (Rat.den x)))) (Fact.eq (.int .i64 0))), (7, Fact.three (Fact.agg (Con.nn k ((Rt.tp x) / (Rat.den x)))) (Fact.agg (Con.nn k ((Rt.tp x) % (Rat.den x)))) (Fact.eq (.int .i64 0))), (13, Fact.agg (Con.nn k ((Rt.tp x) / (Rat.den x)))), (14, Fact.agg (Con.nn k ((Rt.tp x) % (Rat.den x)))), (15, Fact.eq (.int .i64 0)), (4, Fact.var' (Con.raw 1)), (5, Fact.var' (Con.raw 1))] [4, 5] 11 (by kernel_rfl) (by kernel_rfl) (by kernel_rfl) (Nat.le_of_ble_eq_true rfl) (by kernel_rfl) rfl rfl ?_ ?_
    · refine fcs ⟨Ob.new_ (ob_addr 28 1 1 8 1 (Con.fr k x) (Con.nn k (Rt.tp x)) rfl rfl (.inl rfl) (by kernel_rfl) points_cell rfl (Con.fr_tp k x) field26_1) (by kernel_rfl), ?_⟩
      refine fcs ⟨Ob.new_ (ob_read 24 8 9 (Con.nn k (Rt.tp x)) rfl rfl (.inl rfl) (by kernel_rfl) points_ptr rfl row24 info24) (by kernel_rfl), ?_⟩
      refine fcs ⟨Ob.new_ (ob_addr 28 2 1 10 2 (Con.fr k x) (Con.nn k (Rat.den x)) rfl rfl (.inl rfl) (by kernel_rfl) points_cell rfl (Con.fr_den k x) field26_2) (by kernel_rfl), ?_⟩
      refine fcs ⟨Ob.new_ (ob_read 24 10 11 (Con.nn k (Rat.den x)) rfl rfl (.inl rfl) (by kernel_rfl) points_ptr rfl row24 info24) (by kernel_rfl), ?_⟩
      refine fcs ⟨Ob.new_ (ob_call2 51 9 11 12 _ rfl rfl (.inl rfl) (by kernel_rfl) (by kernel_rfl) (by kernel_rfl) (n_divMod k k (Rt.tp x) (Rat.den x) x.den_nz (by omega) (by omega))) (by kernel_rfl), ?_⟩
      refine fcs ⟨Ob.new_ (ob_copy 12 7 (.inl rfl) rfl (.inl rfl) (by kernel_rfl) rfl) (by kernel_rfl), ?_⟩
      refine fcs ⟨Ob.new_ (ob_3a 7 13 (Fact.agg (Con.nn k ((Rt.tp x) / (Rat.den x)))) (Fact.agg (Con.nn k ((Rt.tp x) % (Rat.den x)))) (Fact.eq (.int .i64 0)) rfl rfl (.inl rfl) (by kernel_rfl) rfl rfl) (by kernel_rfl), ?_⟩
      refine fcs ⟨Ob.new_ (ob_3b 7 14 (Fact.agg (Con.nn k ((Rt.tp x) / (Rat.den x)))) (Fact.agg (Con.nn k ((Rt.tp x) % (Rat.den x)))) (Fact.eq (.int .i64 0)) rfl rfl (.inl rfl) (by kernel_rfl) rfl rfl) (by kernel_rfl), ?_⟩
      refine fcs ⟨Ob.new_ (ob_3c 7 15 (Fact.agg (Con.nn k ((Rt.tp x) / (Rat.den x)))) (Fact.agg (Con.nn k ((Rt.tp x) % (Rat.den x)))) (Fact.eq (.int .i64 0)) rfl rfl (.inl rfl) (by kernel_rfl) rfl rfl) (by kernel_rfl), ?_⟩
      refine fcs ⟨obn_new 24 4 _ [.slice none 0 0] rfl rfl rfl rfl rfl alloc24, ?_⟩
      refine fcs ⟨obn_new 24 5 _ [.slice none 0 0] rfl rfl rfl rfl rfl alloc24, ?_⟩
      exact fnl
    intro a2 w2 st2 hbr2 hfr
    have hs2 := hbr2.size
    have hb := up hb hbr2
    obtain ⟨b4, c4⟩ := (show (Fact.var' (Con.raw 1)).holds _ _ from st2.at_ 4)
    have g4 := hfr.ge (s := 4) rfl c4.1
    obtain ⟨b5, c5⟩ := (show (Fact.var' (Con.raw 1)).holds _ _ from st2.at_ 5)
    have g5 := hfr.ge (s := 5) rfl c5.1
    have ne4_5 := hfr.apart (s := 4) (t := 5) rfl rfl (by decide) c4.1 c5.1
    have st : St 34 [(1, Fact.cell b1 (Con.fr k x)), (2, Fact.eq (.int .i64 0)), (3, Fact.eq (.bool false)), (13, Fact.agg (Con.nn k ((Rt.tp x) / (Rat.den x)))), (14, Fact.agg (Con.nn k ((Rt.tp x) % (Rat.den x)))), (15, Fact.eq (.int .i64 0)), (4, Fact.cell b4 (Con.raw 1)), (5, Fact.cell b5 (Con.raw 1))] a2 w2 := st2.to (fcs ⟨st2.at_ 1, fcs ⟨st2.at_ 2, fcs ⟨st2.at_ 3, fcs ⟨st2.at_ 13, fcs ⟨st2.at_ 14, fcs ⟨st2.at_ 15, fcs ⟨c4, fcs ⟨c5, fnl⟩⟩⟩⟩⟩⟩⟩⟩)
    clear st2 hbr2 hfr c4 c5
    refine sym_store st 24 4 13 b4 (Con.raw 1) (Con.nn k ((Rt.tp x) / (Rat.den x))) [(1, Fact.cell b1 (Con.fr k x)), (2, Fact.eq (.int .i64 0)), (3, Fact.eq (.bool false)), (14, Fact.agg (Con.nn k ((Rt.tp x) % (Rat.den x)))), (15, Fact.eq (.int .i64 0)), (4, Fact.cell b4 (Con.nn k ((Rt.tp x) / (Rat.den x)))), (5, Fact.cell b5 (Con.raw 1))] rfl rfl rfl rfl rfl rfl info24 ?_ ?_
    · exact fcs ⟨.inr ⟨rfl, safe_cell _ (by omega)⟩, fcs ⟨.inr ⟨rfl, safe_eq _ _⟩, fcs ⟨.inr ⟨rfl, safe_eq _ _⟩, fcs ⟨.inr ⟨rfl, safe_agg _ _⟩, fcs ⟨.inr ⟨rfl, safe_eq _ _⟩, fcs ⟨.inl rfl, fcs ⟨.inr ⟨rfl, safe_cell _ (by omega)⟩, fnl⟩⟩⟩⟩⟩⟩⟩
    clear st; intro w3 hB hsz3 st
    have hb := hB _ _ hb (by omega) (by omega)
    clear hB
    refine sym_store st 24 5 14 b5 (Con.raw 1) (Con.nn k ((Rt.tp x) % (Rat.den x))) [(1, Fact.cell b1 (Con.fr k x)), (2, Fact.eq (.int .i64 0)), (3, Fact.eq (.bool false)), (15, Fact.eq (.int .i64 0)), (4, Fact.cell b4 (Con.nn k ((Rt.tp x) / (Rat.den x)))), (5, Fact.cell b5 (Con.nn k ((Rt.tp x) % (Rat.den x))))] rfl rfl rfl rfl rfl rfl info24 ?_ ?_
    · exact fcs ⟨.inr ⟨rfl, safe_cell _ (by omega)⟩, fcs ⟨.inr ⟨rfl, safe_eq _ _⟩, fcs ⟨.inr ⟨rfl, safe_eq _ _⟩, fcs ⟨.inr ⟨rfl, safe_eq _ _⟩, fcs ⟨.inr ⟨rfl, safe_cell _ (by omega)⟩, fcs ⟨.inl rfl, fnl⟩⟩⟩⟩⟩⟩
    clear st; intro w4 hB hsz4 st
    have hb := hB _ _ hb (by omega) (by omega)
    clear hB
    refine sym_op st 6 (Fact.eq (.int .i64 0)) rfl (Nat.le_of_ble_eq_true rfl) rfl rfl (by kernel_rfl) (ob_copy 15 6 (.inr rfl) rfl (.inl rfl) (by kernel_rfl) rfl) ?_
    clear st; intro a5 w5 hbr st; have hs5 := hbr.size; have hb := up hb hbr; clear hbr
    refine wpList_nil ?_
    refine then_normal ?_
    refine wp_seq ?_
    refine wp_seq ?_
    refine sym_region st [(16, Fact.eq (.int .i64 0)), (17, Fact.eq (.bool false))] [] 2 (by kernel_rfl) (by kernel_rfl) (by kernel_rfl) (Nat.le_of_ble_eq_true rfl) (by kernel_rfl) rfl rfl ?_ ?_
    · refine fcs ⟨Ob.new_ (ob_copy 6 16 (.inl rfl) rfl (.inl rfl) (by kernel_rfl) rfl) (by kernel_rfl), ?_⟩
      refine fcs ⟨Ob.new_ (ob_nec 16 17 .i64 29 _ 0 0 false rfl rfl rfl (.inl rfl) (by kernel_rfl) rfl rfl) (by kernel_rfl), ?_⟩
      exact fnl
    intro a6 w6 st6 hbr6 hfr
    have hs6 := hbr6.size
    have hb := up hb hbr6
    have st : St 34 [(1, Fact.cell b1 (Con.fr k x)), (2, Fact.eq (.int .i64 0)), (3, Fact.eq (.bool false)), (4, Fact.cell b4 (Con.nn k ((Rt.tp x) / (Rat.den x)))), (5, Fact.cell b5 (Con.nn k ((Rt.tp x) % (Rat.den x)))), (17, Fact.eq (.bool false))] a6 w6 := st6.to (fcs ⟨st6.at_ 1, fcs ⟨st6.at_ 2, fcs ⟨st6.at_ 3, fcs ⟨st6.at_ 4, fcs ⟨st6.at_ 5, fcs ⟨st6.at_ 17, fnl⟩⟩⟩⟩⟩⟩)
    clear st6 hbr6 hfr
    refine wpList_nil ?_
    refine then_normal ?_
    refine wp_cond_false (st.at_ 17) ?_
    refine wp_skip ?_
    refine then_normal ?_
    refine wp_seq ?_
    refine wp_seq ?_
    refine sym_region st [(18, Fact.ptr (Con.bool (Rt.ng x))), (19, Fact.eq (.bool true)), (20, Fact.eq (.bool true)), (21, Fact.agg (Con.nn k ((Rt.tp x) % (Rat.den x)))), (22, Fact.eq (.bool true)), (23, Fact.eq (.bool false)), (24, Fact.eq (.bool false))] [] 7 (by kernel_rfl) (by kernel_rfl) (by kernel_rfl) (Nat.le_of_ble_eq_true rfl) (by kernel_rfl) rfl rfl ?_ ?_
    · refine fcs ⟨Ob.new_ (ob_addr 28 0 1 18 0 (Con.fr k x) (Con.bool (Rt.ng x)) rfl rfl (.inl rfl) (by kernel_rfl) points_cell rfl (Con.fr_ng k x) field26_0) (by kernel_rfl), ?_⟩
      refine fcs ⟨Ob.new_ (ob_readb 18 19 (Rt.ng x) true hng rfl rfl (.inl rfl) (by kernel_rfl) points_ptr rfl) (by kernel_rfl), ?_⟩
      refine fcs ⟨Ob.new_ (ob_copy 19 20 (.inl rfl) rfl (.inl rfl) (by kernel_rfl) rfl) (by kernel_rfl), ?_⟩
      refine fcs ⟨Ob.new_ (ob_read 24 5 21 (Con.nn k ((Rt.tp x) % (Rat.den x))) rfl rfl (.inr ⟨_, _, _, rfl, rfl, by kernel_rfl, by decide, rfl⟩) (by kernel_rfl) points_cell rfl row24 info24) (by kernel_rfl), ?_⟩
      refine fcs ⟨Ob.new_ (ob_call1 32 21 22 _ rfl rfl (.inr ⟨_, _, _, rfl, rfl, by kernel_rfl, by decide, rfl⟩) (by kernel_rfl) (by kernel_rfl) (q_isZero k ((Rt.tp x) % (Rat.den x)) true hd)) (by kernel_rfl), ?_⟩
      refine fcs ⟨Ob.new_ (ob_not 22 23 true false rfl rfl rfl (.inr ⟨_, _, _, rfl, rfl, by kernel_rfl, by decide, rfl⟩) (by kernel_rfl) rfl rfl) (by kernel_rfl), ?_⟩
      refine fcs ⟨Ob.new_ (ob_pick 20 23 24 _ rfl rfl (.inl rfl) (by kernel_rfl) (by kernel_rfl) rfl rfl) (by kernel_rfl), ?_⟩
      exact fnl
    intro a7 w7 st7 hbr7 hfr
    have hs7 := hbr7.size
    have hb := up hb hbr7
    have st : St 34 [(1, Fact.cell b1 (Con.fr k x)), (2, Fact.eq (.int .i64 0)), (3, Fact.eq (.bool false)), (4, Fact.cell b4 (Con.nn k ((Rt.tp x) / (Rat.den x)))), (24, Fact.eq (.bool false))] a7 w7 := st7.to (fcs ⟨st7.at_ 1, fcs ⟨st7.at_ 2, fcs ⟨st7.at_ 3, fcs ⟨st7.at_ 4, fcs ⟨st7.at_ 24, fnl⟩⟩⟩⟩⟩)
    clear st7 hbr7 hfr
    refine wpList_nil ?_
    refine then_normal ?_
    refine wp_cond_false (st.at_ 24) ?_
    refine wp_skip ?_
    refine then_normal ?_
    refine wp_seq ?_
    have st := st.to (ks' := [(1, Fact.cell b1 (Con.fr k x)), (4, Fact.cell b4 (Con.nn k ((Rt.tp x) / (Rat.den x)))), (24, Fact.eq (.bool false))]) (fcs ⟨st.at_ 1, fcs ⟨st.at_ 4, fcs ⟨st.at_ 24, fnl⟩⟩⟩)
    refine sym_region st [(28, Fact.ptr (Con.bool (Rt.ng x))), (29, Fact.eq (.bool true)), (30, Fact.agg (Con.nn k ((Rt.tp x) / (Rat.den x)))), (31, Fact.two (Fact.eq (.int .i64 (asI (Rt.sg true ((Rt.tp x) / (Rat.den x)))))) (Fact.eq (.bool (fitsI (Rt.sg true ((Rt.tp x) / (Rat.den x))))))), (32, Fact.eq (.int .i64 (asI (Rt.sg true ((Rt.tp x) / (Rat.den x)))))), (33, Fact.eq (.bool (fitsI (Rt.sg true ((Rt.tp x) / (Rat.den x)))))), (2, Fact.eq (.int .i64 (asI (Rt.sg true ((Rt.tp x) / (Rat.den x)))))), (3, Fact.eq (.bool (fitsI (Rt.sg true ((Rt.tp x) / (Rat.den x))))))] [] 8 (by kernel_rfl) (by kernel_rfl) (by kernel_rfl) (Nat.le_of_ble_eq_true rfl) (by kernel_rfl) rfl rfl ?_ ?_
    · refine fcs ⟨Ob.new_ (ob_addr 28 0 1 28 0 (Con.fr k x) (Con.bool (Rt.ng x)) rfl rfl (.inl rfl) (by kernel_rfl) points_cell rfl (Con.fr_ng k x) field26_0) (by kernel_rfl), ?_⟩
      refine fcs ⟨Ob.new_ (ob_readb 28 29 (Rt.ng x) true hng rfl rfl (.inl rfl) (by kernel_rfl) points_ptr rfl) (by kernel_rfl), ?_⟩
      refine fcs ⟨Ob.new_ (ob_read 24 4 30 (Con.nn k ((Rt.tp x) / (Rat.den x))) rfl rfl (.inl rfl) (by kernel_rfl) points_cell rfl row24 info24) (by kernel_rfl), ?_⟩
      refine fcs ⟨Ob.new_ (ob_call2 52 29 30 31 _ rfl rfl (.inl rfl) (by kernel_rfl) (by kernel_rfl) (by kernel_rfl) (q_signed k true ((Rt.tp x) / (Rat.den x)))) (by kernel_rfl), ?_⟩
      refine fcs ⟨Ob.new_ (ob_fst 31 32 (Fact.eq (.int .i64 (asI (Rt.sg true ((Rt.tp x) / (Rat.den x)))))) (Fact.eq (.bool (fitsI (Rt.sg true ((Rt.tp x) / (Rat.den x)))))) rfl rfl (.inl rfl) (by kernel_rfl) rfl rfl) (by kernel_rfl), ?_⟩
      refine fcs ⟨Ob.new_ (ob_snd 31 33 (Fact.eq (.int .i64 (asI (Rt.sg true ((Rt.tp x) / (Rat.den x)))))) (Fact.eq (.bool (fitsI (Rt.sg true ((Rt.tp x) / (Rat.den x)))))) rfl rfl (.inl rfl) (by kernel_rfl) rfl rfl) (by kernel_rfl), ?_⟩
      refine fcs ⟨Ob.new_ (ob_copy 32 2 (.inr rfl) rfl (.inl rfl) (by kernel_rfl) rfl) (by kernel_rfl), ?_⟩
      refine fcs ⟨Ob.new_ (ob_copy 33 3 (.inr rfl) rfl (.inl rfl) (by kernel_rfl) rfl) (by kernel_rfl), ?_⟩
      exact fnl
    intro a8 w8 st8 hbr8 hfr
    have hs8 := hbr8.size
    have hb := up hb hbr8
    have st : St 34 [(2, Fact.eq (.int .i64 (asI (Rt.sg true ((Rt.tp x) / (Rat.den x)))))), (3, Fact.eq (.bool (fitsI (Rt.sg true ((Rt.tp x) / (Rat.den x))))))] a8 w8 := st8.to (fcs ⟨st8.at_ 2, fcs ⟨st8.at_ 3, fnl⟩⟩)
    clear st8 hbr8 hfr
    refine wpList_nil ?_
    refine then_normal ?_
    refine wp_ret ?_
    exact sym_ret2 rfl st.defers (resAt_tmp st 2) (resAt_tmp st 3) hb (fun v u h1 h2 => by rw [Rt.floor_neg0 hng hr]; exact ⟨v, u, rfl, h1, h2⟩)
  · have hd := decide_eq_false hr
    refine sym_calls 34 [(0, Fact.agg (Con.fr k x))] Tryd.func29 rfl rfl (Nat.le_of_ble_eq_true rfl) (fcs ⟨⟨Nat.le_of_ble_eq_true rfl, hv0⟩, fnl⟩) fun a st => ?_
    have hb := Below.refl w.heap.size w
    refine wp_seq ?_
    refine sym_region st [(1, Fact.var' (Con.fr k x)), (2, Fact.eq (.int .i64 0)), (3, Fact.eq (.bool false))] [1] 3 (by kernel_rfl) (by kernel_rfl) (by kernel_rfl) (Nat.le_of_ble_eq_true rfl) (by kernel_rfl) rfl rfl ?_ ?_
    · refine fcs ⟨obn_box 28 0 1 _ (Con.fr k x) rfl rfl rfl (by kernel_rfl) rfl rfl, ?_⟩
      refine fcs ⟨Ob.new_ (ob_const (.int .i64 0) 2 (.inr rfl) rfl (.inl rfl) rfl) (by kernel_rfl), ?_⟩
      refine fcs ⟨Ob.new_ (ob_const (.bool false) 3 (.inr rfl) rfl (.inl rfl) rfl) (by kernel_rfl), ?_⟩
      exact fnl
    intro a1 w1 st1 hbr1 hfr
    have hs1 := hbr1.size
    have hb := up hb hbr1
    obtain ⟨b1, c1⟩ := (show (Fact.var' (Con.fr k x)).holds _ _ from st1.at_ 1)
    have g1 := hfr.ge (s := 1) rfl c1.1
    have st : St 34 [(1, Fact.cell b1 (Con.fr k x)), (2, Fact.eq (.int .i64 0)), (3, Fact.eq (.bool false))] a1 w1 := st1.to (fcs ⟨c1, fcs ⟨st1.at_ 2, fcs ⟨st1.at_ 3, fnl⟩⟩⟩)
    clear st1 hbr1 hfr c1
    refine wpList_nil ?_
    refine then_normal ?_
    refine wp_seq ?_
    refine sym_region st [(8, Fact.ptr (Con.nn k (Rt.tp x))), (9, Fact.agg (Con.nn k (Rt.tp x))), (10, Fact.ptr (Con.nn k (Rat.den x))), (11, Fact.agg (Con.nn k (Rat.den x))), (12, Fact.three (Fact.agg (Con.nn k ((Rt.tp x) / (Rat.den x)))) (Fact.agg (Con.nn k ((Rt.tp x) % (Rat.den x)))) (Fact.eq (.int .i64 0))), (7, Fact.three (Fact.agg (Con.nn k ((Rt.tp x) / (Rat.den x)))) (Fact.agg (Con.nn k ((Rt.tp x) % (Rat.den x)))) (Fact.eq (.int .i64 0))), (13, Fact.agg (Con.nn k ((Rt.tp x) / (Rat.den x)))), (14, Fact.agg (Con.nn k ((Rt.tp x) % (Rat.den x)))), (15, Fact.eq (.int .i64 0)), (4, Fact.var' (Con.raw 1)), (5, Fact.var' (Con.raw 1))] [4, 5] 11 (by kernel_rfl) (by kernel_rfl) (by kernel_rfl) (Nat.le_of_ble_eq_true rfl) (by kernel_rfl) rfl rfl ?_ ?_
    · refine fcs ⟨Ob.new_ (ob_addr 28 1 1 8 1 (Con.fr k x) (Con.nn k (Rt.tp x)) rfl rfl (.inl rfl) (by kernel_rfl) points_cell rfl (Con.fr_tp k x) field26_1) (by kernel_rfl), ?_⟩
      refine fcs ⟨Ob.new_ (ob_read 24 8 9 (Con.nn k (Rt.tp x)) rfl rfl (.inl rfl) (by kernel_rfl) points_ptr rfl row24 info24) (by kernel_rfl), ?_⟩
      refine fcs ⟨Ob.new_ (ob_addr 28 2 1 10 2 (Con.fr k x) (Con.nn k (Rat.den x)) rfl rfl (.inl rfl) (by kernel_rfl) points_cell rfl (Con.fr_den k x) field26_2) (by kernel_rfl), ?_⟩
      refine fcs ⟨Ob.new_ (ob_read 24 10 11 (Con.nn k (Rat.den x)) rfl rfl (.inl rfl) (by kernel_rfl) points_ptr rfl row24 info24) (by kernel_rfl), ?_⟩
      refine fcs ⟨Ob.new_ (ob_call2 51 9 11 12 _ rfl rfl (.inl rfl) (by kernel_rfl) (by kernel_rfl) (by kernel_rfl) (n_divMod k k (Rt.tp x) (Rat.den x) x.den_nz (by omega) (by omega))) (by kernel_rfl), ?_⟩
      refine fcs ⟨Ob.new_ (ob_copy 12 7 (.inl rfl) rfl (.inl rfl) (by kernel_rfl) rfl) (by kernel_rfl), ?_⟩
      refine fcs ⟨Ob.new_ (ob_3a 7 13 (Fact.agg (Con.nn k ((Rt.tp x) / (Rat.den x)))) (Fact.agg (Con.nn k ((Rt.tp x) % (Rat.den x)))) (Fact.eq (.int .i64 0)) rfl rfl (.inl rfl) (by kernel_rfl) rfl rfl) (by kernel_rfl), ?_⟩
      refine fcs ⟨Ob.new_ (ob_3b 7 14 (Fact.agg (Con.nn k ((Rt.tp x) / (Rat.den x)))) (Fact.agg (Con.nn k ((Rt.tp x) % (Rat.den x)))) (Fact.eq (.int .i64 0)) rfl rfl (.inl rfl) (by kernel_rfl) rfl rfl) (by kernel_rfl), ?_⟩
      refine fcs ⟨Ob.new_ (ob_3c 7 15 (Fact.agg (Con.nn k ((Rt.tp x) / (Rat.den x)))) (Fact.agg (Con.nn k ((Rt.tp x) % (Rat.den x)))) (Fact.eq (.int .i64 0)) rfl rfl (.inl rfl) (by kernel_rfl) rfl rfl) (by kernel_rfl), ?_⟩
      refine fcs ⟨obn_new 24 4 _ [.slice none 0 0] rfl rfl rfl rfl rfl alloc24, ?_⟩
      refine fcs ⟨obn_new 24 5 _ [.slice none 0 0] rfl rfl rfl rfl rfl alloc24, ?_⟩
      exact fnl
    intro a2 w2 st2 hbr2 hfr
    have hs2 := hbr2.size
    have hb := up hb hbr2
    obtain ⟨b4, c4⟩ := (show (Fact.var' (Con.raw 1)).holds _ _ from st2.at_ 4)
    have g4 := hfr.ge (s := 4) rfl c4.1
    obtain ⟨b5, c5⟩ := (show (Fact.var' (Con.raw 1)).holds _ _ from st2.at_ 5)
    have g5 := hfr.ge (s := 5) rfl c5.1
    have ne4_5 := hfr.apart (s := 4) (t := 5) rfl rfl (by decide) c4.1 c5.1
    have st : St 34 [(1, Fact.cell b1 (Con.fr k x)), (2, Fact.eq (.int .i64 0)), (3, Fact.eq (.bool false)), (13, Fact.agg (Con.nn k ((Rt.tp x) / (Rat.den x)))), (14, Fact.agg (Con.nn k ((Rt.tp x) % (Rat.den x)))), (15, Fact.eq (.int .i64 0)), (4, Fact.cell b4 (Con.raw 1)), (5, Fact.cell b5 (Con.raw 1))] a2 w2 := st2.to (fcs ⟨st2.at_ 1, fcs ⟨st2.at_ 2, fcs ⟨st2.at_ 3, fcs ⟨st2.at_ 13, fcs ⟨st2.at_ 14, fcs ⟨st2.at_ 15, fcs ⟨c4, fcs ⟨c5, fnl⟩⟩⟩⟩⟩⟩⟩⟩)
    clear st2 hbr2 hfr c4 c5
    refine sym_store st 24 4 13 b4 (Con.raw 1) (Con.nn k ((Rt.tp x) / (Rat.den x))) [(1, Fact.cell b1 (Con.fr k x)), (2, Fact.eq (.int .i64 0)), (3, Fact.eq (.bool false)), (14, Fact.agg (Con.nn k ((Rt.tp x) % (Rat.den x)))), (15, Fact.eq (.int .i64 0)), (4, Fact.cell b4 (Con.nn k ((Rt.tp x) / (Rat.den x)))), (5, Fact.cell b5 (Con.raw 1))] rfl rfl rfl rfl rfl rfl info24 ?_ ?_
    · exact fcs ⟨.inr ⟨rfl, safe_cell _ (by omega)⟩, fcs ⟨.inr ⟨rfl, safe_eq _ _⟩, fcs ⟨.inr ⟨rfl, safe_eq _ _⟩, fcs ⟨.inr ⟨rfl, safe_agg _ _⟩, fcs ⟨.inr ⟨rfl, safe_eq _ _⟩, fcs ⟨.inl rfl, fcs ⟨.inr ⟨rfl, safe_cell _ (by omega)⟩, fnl⟩⟩⟩⟩⟩⟩⟩
    clear st; intro w3 hB hsz3 st
    have hb := hB _ _ hb (by omega) (by omega)
    clear hB
    refine sym_store st 24 5 14 b5 (Con.raw 1) (Con.nn k ((Rt.tp x) % (Rat.den x))) [(1, Fact.cell b1 (Con.fr k x)), (2, Fact.eq (.int .i64 0)), (3, Fact.eq (.bool false)), (15, Fact.eq (.int .i64 0)), (4, Fact.cell b4 (Con.nn k ((Rt.tp x) / (Rat.den x)))), (5, Fact.cell b5 (Con.nn k ((Rt.tp x) % (Rat.den x))))] rfl rfl rfl rfl rfl rfl info24 ?_ ?_
    · exact fcs ⟨.inr ⟨rfl, safe_cell _ (by omega)⟩, fcs ⟨.inr ⟨rfl, safe_eq _ _⟩, fcs ⟨.inr ⟨rfl, safe_eq _ _⟩, fcs ⟨.inr ⟨rfl, safe_eq _ _⟩, fcs ⟨.inr ⟨rfl, safe_cell _ (by omega)⟩, fcs ⟨.inl rfl, fnl⟩⟩⟩⟩⟩⟩
    clear st; intro w4 hB hsz4 st
    have hb := hB _ _ hb (by omega) (by omega)
    clear hB
    refine sym_op st 6 (Fact.eq (.int .i64 0)) rfl (Nat.le_of_ble_eq_true rfl) rfl rfl (by kernel_rfl) (ob_copy 15 6 (.inr rfl) rfl (.inl rfl) (by kernel_rfl) rfl) ?_
    clear st; intro a5 w5 hbr st; have hs5 := hbr.size; have hb := up hb hbr; clear hbr
    refine wpList_nil ?_
    refine then_normal ?_
    refine wp_seq ?_
    refine wp_seq ?_
    refine sym_region st [(16, Fact.eq (.int .i64 0)), (17, Fact.eq (.bool false))] [] 2 (by kernel_rfl) (by kernel_rfl) (by kernel_rfl) (Nat.le_of_ble_eq_true rfl) (by kernel_rfl) rfl rfl ?_ ?_
    · refine fcs ⟨Ob.new_ (ob_copy 6 16 (.inl rfl) rfl (.inl rfl) (by kernel_rfl) rfl) (by kernel_rfl), ?_⟩
      refine fcs ⟨Ob.new_ (ob_nec 16 17 .i64 29 _ 0 0 false rfl rfl rfl (.inl rfl) (by kernel_rfl) rfl rfl) (by kernel_rfl), ?_⟩
      exact fnl
    intro a6 w6 st6 hbr6 hfr
    have hs6 := hbr6.size
    have hb := up hb hbr6
    have st : St 34 [(1, Fact.cell b1 (Con.fr k x)), (2, Fact.eq (.int .i64 0)), (3, Fact.eq (.bool false)), (4, Fact.cell b4 (Con.nn k ((Rt.tp x) / (Rat.den x)))), (5, Fact.cell b5 (Con.nn k ((Rt.tp x) % (Rat.den x)))), (17, Fact.eq (.bool false))] a6 w6 := st6.to (fcs ⟨st6.at_ 1, fcs ⟨st6.at_ 2, fcs ⟨st6.at_ 3, fcs ⟨st6.at_ 4, fcs ⟨st6.at_ 5, fcs ⟨st6.at_ 17, fnl⟩⟩⟩⟩⟩⟩)
    clear st6 hbr6 hfr
    refine wpList_nil ?_
    refine then_normal ?_
    refine wp_cond_false (st.at_ 17) ?_
    refine wp_skip ?_
    refine then_normal ?_
    refine wp_seq ?_
    refine wp_seq ?_
    refine sym_region st [(18, Fact.ptr (Con.bool (Rt.ng x))), (19, Fact.eq (.bool true)), (20, Fact.eq (.bool true)), (21, Fact.agg (Con.nn k ((Rt.tp x) % (Rat.den x)))), (22, Fact.eq (.bool false)), (23, Fact.eq (.bool true)), (24, Fact.eq (.bool true))] [] 7 (by kernel_rfl) (by kernel_rfl) (by kernel_rfl) (Nat.le_of_ble_eq_true rfl) (by kernel_rfl) rfl rfl ?_ ?_
    · refine fcs ⟨Ob.new_ (ob_addr 28 0 1 18 0 (Con.fr k x) (Con.bool (Rt.ng x)) rfl rfl (.inl rfl) (by kernel_rfl) points_cell rfl (Con.fr_ng k x) field26_0) (by kernel_rfl), ?_⟩
      refine fcs ⟨Ob.new_ (ob_readb 18 19 (Rt.ng x) true hng rfl rfl (.inl rfl) (by kernel_rfl) points_ptr rfl) (by kernel_rfl), ?_⟩
      refine fcs ⟨Ob.new_ (ob_copy 19 20 (.inl rfl) rfl (.inl rfl) (by kernel_rfl) rfl) (by kernel_rfl), ?_⟩
      refine fcs ⟨Ob.new_ (ob_read 24 5 21 (Con.nn k ((Rt.tp x) % (Rat.den x))) rfl rfl (.inr ⟨_, _, _, rfl, rfl, by kernel_rfl, by decide, rfl⟩) (by kernel_rfl) points_cell rfl row24 info24) (by kernel_rfl), ?_⟩
      refine fcs ⟨Ob.new_ (ob_call1 32 21 22 _ rfl rfl (.inr ⟨_, _, _, rfl, rfl, by kernel_rfl, by decide, rfl⟩) (by kernel_rfl) (by kernel_rfl) (q_isZero k ((Rt.tp x) % (Rat.den x)) false hd)) (by kernel_rfl), ?_⟩
      refine fcs ⟨Ob.new_ (ob_not 22 23 false true rfl rfl rfl (.inr ⟨_, _, _, rfl, rfl, by kernel_rfl, by decide, rfl⟩) (by kernel_rfl) rfl rfl) (by kernel_rfl), ?_⟩
      refine fcs ⟨Ob.new_ (ob_pick 20 23 24 _ rfl rfl (.inl rfl) (by kernel_rfl) (by kernel_rfl) rfl rfl) (by kernel_rfl), ?_⟩
      exact fnl
    intro a7 w7 st7 hbr7 hfr
    have hs7 := hbr7.size
    have hb := up hb hbr7
    have st : St 34 [(1, Fact.cell b1 (Con.fr k x)), (2, Fact.eq (.int .i64 0)), (3, Fact.eq (.bool false)), (4, Fact.cell b4 (Con.nn k ((Rt.tp x) / (Rat.den x)))), (24, Fact.eq (.bool true))] a7 w7 := st7.to (fcs ⟨st7.at_ 1, fcs ⟨st7.at_ 2, fcs ⟨st7.at_ 3, fcs ⟨st7.at_ 4, fcs ⟨st7.at_ 24, fnl⟩⟩⟩⟩⟩)
    clear st7 hbr7 hfr
    refine wpList_nil ?_
    refine then_normal ?_
    refine wp_cond_true (st.at_ 24) ?_
    refine sym_region st [(25, Fact.agg (Con.nn k ((Rt.tp x) / (Rat.den x)))), (26, Fact.agg (Con.nn 1 1)), (27, Fact.agg (Con.nn ((max k 1) + 1) (((Rt.tp x) / (Rat.den x)) + 1)))] [] 3 (by kernel_rfl) (by kernel_rfl) (by kernel_rfl) (Nat.le_of_ble_eq_true rfl) (by kernel_rfl) rfl rfl ?_ ?_
    · refine fcs ⟨Ob.new_ (ob_read 24 4 25 (Con.nn k ((Rt.tp x) / (Rat.den x))) rfl rfl (.inl rfl) (by kernel_rfl) points_cell rfl row24 info24) (by kernel_rfl), ?_⟩
      refine fcs ⟨Ob.new_ (ob_callc 27 _ 26 _ rfl rfl (.inl rfl) (by kernel_rfl) (n_of 1 1 (by decide) (by unfold Nm.Sz; decide) (by decide))) (by kernel_rfl), ?_⟩
      refine fcs ⟨Ob.new_ (ob_call2 44 25 26 27 _ rfl rfl (.inl rfl) (by kernel_rfl) (by kernel_rfl) (by kernel_rfl) (n_addr k 1 (max k 1) ((Rt.tp x) / (Rat.den x)) 1 (by omega) (by omega) (by omega))) (by kernel_rfl), ?_⟩
      exact fnl
    intro a8 w8 st8 hbr8 hfr
    have hs8 := hbr8.size
    have hb := up hb hbr8
    have st : St 34 [(1, Fact.cell b1 (Con.fr k x)), (2, Fact.eq (.int .i64 0)), (3, Fact.eq (.bool false)), (4, Fact.cell b4 (Con.nn k ((Rt.tp x) / (Rat.den x)))), (27, Fact.agg (Con.nn ((max k 1) + 1) (((Rt.tp x) / (Rat.den x)) + 1)))] a8 w8 := st8.to (fcs ⟨st8.at_ 1, fcs ⟨st8.at_ 2, fcs ⟨st8.at_ 3, fcs ⟨st8.at_ 4, fcs ⟨st8.at_ 27, fnl⟩⟩⟩⟩⟩)
    clear st8 hbr8 hfr
    refine sym_store st 24 4 27 b4 (Con.nn k ((Rt.tp x) / (Rat.den x))) (Con.nn ((max k 1) + 1) (((Rt.tp x) / (Rat.den x)) + 1)) [(1, Fact.cell b1 (Con.fr k x)), (2, Fact.eq (.int .i64 0)), (3, Fact.eq (.bool false)), (4, Fact.cell b4 (Con.nn ((max k 1) + 1) (((Rt.tp x) / (Rat.den x)) + 1)))] rfl rfl rfl rfl rfl rfl info24 ?_ ?_
    · exact fcs ⟨.inr ⟨rfl, safe_cell _ (by omega)⟩, fcs ⟨.inr ⟨rfl, safe_eq _ _⟩, fcs ⟨.inr ⟨rfl, safe_eq _ _⟩, fcs ⟨.inl rfl, fnl⟩⟩⟩⟩
    clear st; intro w9 hB hsz9 st
    have hb := hB _ _ hb (by omega) (by omega)
    clear hB
    refine wpList_nil ?_
    refine then_normal ?_
    refine wp_seq ?_
    have st := st.to (ks' := [(1, Fact.cell b1 (Con.fr k x)), (4, Fact.cell b4 (Con.nn ((max k 1) + 1) (((Rt.tp x) / (Rat.den x)) + 1)))]) (fcs ⟨st.at_ 1, fcs ⟨st.at_ 4, fnl⟩⟩)
    refine sym_region st [(28, Fact.ptr (Con.bool (Rt.ng x))), (29, Fact.eq (.bool true)), (30, Fact.agg (Con.nn ((max k 1) + 1) (((Rt.tp x) / (Rat.den x)) + 1))), (31, Fact.two (Fact.eq (.int .i64 (asI (Rt.sg true (((Rt.tp x) / (Rat.den x)) + 1))))) (Fact.eq (.bool (fitsI (Rt.sg true (((Rt.tp x) / (Rat.den x)) + 1)))))), (32, Fact.eq (.int .i64 (asI (Rt.sg true (((Rt.tp x) / (Rat.den x)) + 1))))), (33, Fact.eq (.bool (fitsI (Rt.sg true (((Rt.tp x) / (Rat.den x)) + 1))))), (2, Fact.eq (.int .i64 (asI (Rt.sg true (((Rt.tp x) / (Rat.den x)) + 1))))), (3, Fact.eq (.bool (fitsI (Rt.sg true (((Rt.tp x) / (Rat.den x)) + 1)))))] [] 8 (by kernel_rfl) (by kernel_rfl) (by kernel_rfl) (Nat.le_of_ble_eq_true rfl) (by kernel_rfl) rfl rfl ?_ ?_
    · refine fcs ⟨Ob.new_ (ob_addr 28 0 1 28 0 (Con.fr k x) (Con.bool (Rt.ng x)) rfl rfl (.inl rfl) (by kernel_rfl) points_cell rfl (Con.fr_ng k x) field26_0) (by kernel_rfl), ?_⟩
      refine fcs ⟨Ob.new_ (ob_readb 28 29 (Rt.ng x) true hng rfl rfl (.inl rfl) (by kernel_rfl) points_ptr rfl) (by kernel_rfl), ?_⟩
      refine fcs ⟨Ob.new_ (ob_read 24 4 30 (Con.nn ((max k 1) + 1) (((Rt.tp x) / (Rat.den x)) + 1)) rfl rfl (.inl rfl) (by kernel_rfl) points_cell rfl row24 info24) (by kernel_rfl), ?_⟩
      refine fcs ⟨Ob.new_ (ob_call2 52 29 30 31 _ rfl rfl (.inl rfl) (by kernel_rfl) (by kernel_rfl) (by kernel_rfl) (q_signed ((max k 1) + 1) true (((Rt.tp x) / (Rat.den x)) + 1))) (by kernel_rfl), ?_⟩
      refine fcs ⟨Ob.new_ (ob_fst 31 32 (Fact.eq (.int .i64 (asI (Rt.sg true (((Rt.tp x) / (Rat.den x)) + 1))))) (Fact.eq (.bool (fitsI (Rt.sg true (((Rt.tp x) / (Rat.den x)) + 1))))) rfl rfl (.inl rfl) (by kernel_rfl) rfl rfl) (by kernel_rfl), ?_⟩
      refine fcs ⟨Ob.new_ (ob_snd 31 33 (Fact.eq (.int .i64 (asI (Rt.sg true (((Rt.tp x) / (Rat.den x)) + 1))))) (Fact.eq (.bool (fitsI (Rt.sg true (((Rt.tp x) / (Rat.den x)) + 1))))) rfl rfl (.inl rfl) (by kernel_rfl) rfl rfl) (by kernel_rfl), ?_⟩
      refine fcs ⟨Ob.new_ (ob_copy 32 2 (.inr rfl) rfl (.inl rfl) (by kernel_rfl) rfl) (by kernel_rfl), ?_⟩
      refine fcs ⟨Ob.new_ (ob_copy 33 3 (.inr rfl) rfl (.inl rfl) (by kernel_rfl) rfl) (by kernel_rfl), ?_⟩
      exact fnl
    intro a10 w10 st10 hbr10 hfr
    have hs10 := hbr10.size
    have hb := up hb hbr10
    have st : St 34 [(2, Fact.eq (.int .i64 (asI (Rt.sg true (((Rt.tp x) / (Rat.den x)) + 1))))), (3, Fact.eq (.bool (fitsI (Rt.sg true (((Rt.tp x) / (Rat.den x)) + 1)))))] a10 w10 := st10.to (fcs ⟨st10.at_ 2, fcs ⟨st10.at_ 3, fnl⟩⟩)
    clear st10 hbr10 hfr
    refine wpList_nil ?_
    refine then_normal ?_
    refine wp_ret ?_
    exact sym_ret2 rfl st.defers (resAt_tmp st 2) (resAt_tmp st 3) hb (fun v u h1 h2 => by rw [Rt.floor_neg1 hng hr]; exact ⟨v, u, rfl, h1, h2⟩)
end Go.Proofs.YtjfehdkfogdpgaaDoor
namespace Go.Proofs.YtjfehdkfogdpgaaDoor
open Go.RowKit
def ofB (l : List Nat) : ByteArray := ⟨(l.map Nat.toUInt8).toArray⟩
theorem Bt_ofB {l : List Nat} (h : ∀ c ∈ l, c < 256) : Bt (ofB l) = l := by
  unfold Bt ofB
  rw [List.map_map]
  conv => rhs; rw [← List.map_id l]
  refine List.map_congr_left fun c hc => ?_
  have := h c hc
  show (Nat.toUInt8 c).toNat = c
  simp [Nat.toUInt8, UInt8.toNat_ofNat']
  omega
theorem ofB_Bt (s : ByteArray) : ofB (Bt s) = s := Bt_inj (Bt_ofB (Bt_lt s))
theorem ofB_size (l : List Nat) : (ofB l).size = l.length := by simp [ofB, ByteArray.size]
set_option maxRecDepth 100000 in
set_option maxHeartbeats 1000000 in
theorem indexByte_c (s : ByteArray) (w : World) : Calls Tryd.prog 94 #[.string s, .int .u8 47] w fun e w' => e = .returned (.int .i64 (Lib.indexByte s.data.toList 47)) ∧ w = w' := by
  have hx := run_callFunc_extern Tryd.func103 (by kernel_rfl) (by kernel_rfl) (by kernel_rfl) (e := Extern.BytealgIndexByte.indexByte) (by kernel_rfl) #[.string s, .int .u8 47] w
  rw [Lib.run_indexByteString] at hx
  go_enter Tryd.func94, Tryd.ntmps94
  go_wp2
  go_ret
  exact ⟨rfl, rfl⟩
theorem toList_extract (s : ByteArray) : (s.extract 0 1).toList = s.data.toList.take 1 := by
  rw [ByteArray.toList_eq]
  simp [ByteArray.data_extract]
set_option maxHeartbeats 1000000 in
theorem hasPrefix_c (s : ByteArray) (w : World) (hs : s.size ≤ 1000000) : Calls Tryd.prog 83 #[.string s, .string ⟨#[45]⟩] w fun e w' => e = .returned (.bool (s.data.toList.take 1 == [45])) ∧ w = w' := by
  rcases Nat.eq_zero_or_pos s.size with h0 | h0
  · have e0 : (s.data.toList.take 1 == [45]) = false := by
      have : s.data.toList = [] := List.eq_nil_of_length_eq_zero (by rw [Array.length_toList]; exact h0)
      rw [this]; rfl
    have H := Lib.hid e0
    have H0 := Lib.hid h0
    have hlt : ¬ (1 : Int) ≤ (s.size : Int) := by omega
    clear e0 h0
    go_enter Tryd.func83, Tryd.ntmps83
    go_wp2
    go_ret
    exact ⟨ret_bool H.out.symm, rfl⟩
  · have hge : (1 : Int) ≤ (s.size : Int) := by omega
    have H := Lib.hid (toList_extract s)
    go_enter Tryd.func83, Tryd.ntmps83
    go_wp2
    go_ret
    exact ⟨ret_bool (by rw [H.out]), rfl⟩
set_option maxHeartbeats 1000000 in
theorem cutPrefix0_c (s : ByteArray) (w : World) (hs : s.size ≤ 1000000) (b : Bool) (hb : (s.data.toList.take 1 == [45]) = b) : Calls Tryd.prog 68 #[.string s, .string ⟨#[45]⟩] w fun e w' => e = .returned (.tuple #[.string (if b then s.extract 1 s.size else s), .bool b]) ∧ w = w' := by
  cases b with
  | false =>
    have H := Lib.hid hb
    clear hb
    go_enter Tryd.func68, Tryd.ntmps68
    go_wp2_with (refine (hasPrefix_c s w hs).mono ?_; rw [H.out]; rintro e w' ⟨rfl, rfl⟩)
    go_ret2
    exact ⟨rfl, rfl⟩
  | true =>
    have h1 : (1 : Int) ≤ (s.size : Int) := by
      rcases Nat.eq_zero_or_pos s.size with h0 | h0
      · have : s.data.toList = [] := List.eq_nil_of_length_eq_zero (by rw [Array.length_toList]; exact h0)
        rw [this] at hb; cases hb
      · omega
    have H := Lib.hid hb
    clear hb
    go_enter Tryd.func68, Tryd.ntmps68
    go_wp2_with (refine (hasPrefix_c s w hs).mono ?_; rw [H.out]; rintro e w' ⟨rfl, rfl⟩)
    go_ret2
    exact ⟨rfl, rfl⟩
set_option maxHeartbeats 1000000 in
theorem cutPrefix_c (s : ByteArray) (w : World) (hs : s.size ≤ 1000000) (b : Bool) (hb : (s.data.toList.take 1 == [45]) = b) : Calls Tryd.prog 48 #[.string s, .string ⟨#[45]⟩] w fun e w' => e = .returned (.tuple #[.string (if b then s.extract 1 s.size else s), .bool b]) ∧ w = w' := by
  have H := Lib.hid hb
  clear hb
  cases b
  all_goals
    go_enter Tryd.func48, Tryd.ntmps48
    go_wp2_with (refine (cutPrefix0_c s w hs _ H.out).mono ?_; rintro e w' ⟨rfl, rfl⟩)
    go_ret2
    exact ⟨rfl, rfl⟩
set_option maxRecDepth 100000 in
set_option maxHeartbeats 1000000 in
theorem index_c (s : ByteArray) (w : World) : Calls Tryd.prog 84 #[.string s, .string ⟨#[47]⟩] w fun e w' => e = .returned (.int .i64 (Lib.indexByte s.data.toList 47)) ∧ w = w' := by
  by_cases hq : s.toList = [47]
  · have e0 : Lib.indexByte s.data.toList 47 = 0 := by rw [← ByteArray.toList_eq, hq]; rfl
    have H := Lib.hid e0
    have h1 : (([47] : List UInt8) == s.toList) = true := by rw [hq]; rfl
    clear hq e0
    go_enter Tryd.func84, Tryd.ntmps84
    go_wp2
    go_ret
    exact ⟨ret_int (by rw [H.out]), rfl⟩
  · have h1 : (([47] : List UInt8) == s.toList) = false := beq_eq_false_iff_ne.2 fun e => hq e.symm
    clear hq
    go_enter Tryd.func84, Tryd.ntmps84
    go_wp2_with (refine (indexByte_c s w).mono ?_; rintro e w' ⟨rfl, rfl⟩)
    go_ret
    exact ⟨rfl, rfl⟩
def slashAt (s : ByteArray) (i : Int) : Value := if i < 0 then .tuple #[.string s, .string ⟨#[]⟩, .bool false] else .tuple #[.string (s.extract 0 i.toNat), .string (s.extract (i.toNat + 1) s.size), .bool true]
set_option maxRecDepth 100000 in
set_option maxHeartbeats 1000000 in
theorem cut0_c (s : ByteArray) (w : World) (hs : s.size ≤ 1000000) : Calls Tryd.prog 69 #[.string s, .string ⟨#[47]⟩] w fun e w' => e = .returned (slashAt s (Lib.indexByte s.data.toList 47)) ∧ ∃ n, w' = w.drewN n := by
  rcases Int.lt_or_le (Lib.indexByte s.data.toList 47) 0 with h0 | h0
  · have h1 : Lib.indexByte s.data.toList 47 = -1 := by have := Lib.indexByte_ge s.data.toList 47; omega
    have H := Lib.hid h1
    clear h0 h1
    go_enter Tryd.func69, Tryd.ntmps69
    go_wp2_with (refine (index_c s w).mono ?_; rw [H.out]; rintro e w' ⟨rfl, rfl⟩)
    go_ret3
    exact ⟨by rw [H.out]; rfl, 0, rfl⟩
  · obtain ⟨n, hn⟩ : ∃ n : Nat, Lib.indexByte s.data.toList 47 = n := ⟨(Lib.indexByte s.data.toList 47).toNat, by omega⟩
    have hlt : n < s.size := by
      have := (Lib.indexByte_some hn).1
      have h2 := (List.getElem?_eq_some_iff.1 this).1
      rw [Array.length_toList] at h2
      exact h2
    have H := Lib.hid hn
    have hi1 : (n : Int) + 1 ≤ (s.size : Int) := by omega
    have hi2 : (n : Int) ≤ (s.size : Int) := by omega
    have hw1 : IntKind.i64.wrap ((n : Int) + 1) = (n : Int) + 1 := IntWalk.i64_in _ (by omega)
    have hw2 : ((n : Int) + 1).toNat = n + 1 := by omega
    clear hn h0
    go_enter Tryd.func69, Tryd.ntmps69
    go_wp2_with (refine (index_c s w).mono ?_; rw [H.out]; rintro e w' ⟨rfl, rfl⟩)
    go_quiet (fail)
    go_wp2
    go_ret3
    refine ⟨?_, nq, rfl⟩
    rw [H.out]
    show _ = Ending.returned (slashAt s (n : Int))
    unfold slashAt
    rw [if_neg (by omega), Int.toNat_natCast]
    rfl
set_option maxHeartbeats 1000000 in
theorem cut_c (s : ByteArray) (w : World) (hs : s.size ≤ 1000000) : Calls Tryd.prog 49 #[.string s, .string ⟨#[47]⟩] w fun e w' => e = .returned (slashAt s (Lib.indexByte s.data.toList 47)) ∧ ∃ n, w' = w.drewN n := by
  rcases Int.lt_or_le (Lib.indexByte s.data.toList 47) 0 with h0 | h0
  · have h1 : slashAt s (Lib.indexByte s.data.toList 47) = .tuple #[.string s, .string ⟨#[]⟩, .bool false] := if_pos h0
    have H := Lib.hid h1
    clear h1
    go_enter Tryd.func49, Tryd.ntmps49
    go_wp2_with (refine (cut0_c s w hs).mono ?_; rw [H.out]; rintro e w' ⟨rfl, n, rfl⟩)
    go_ret3
    exact ⟨by rw [H.out]; rfl, n, rfl⟩
  · have h1 : slashAt s (Lib.indexByte s.data.toList 47) = .tuple #[.string (s.extract 0 (Lib.indexByte s.data.toList 47).toNat), .string (s.extract ((Lib.indexByte s.data.toList 47).toNat + 1) s.size), .bool true] := if_neg (by omega)
    have H := Lib.hid h1
    clear h1
    go_enter Tryd.func49, Tryd.ntmps49
    go_wp2_with (refine (cut0_c s w hs).mono ?_; rw [H.out]; rintro e w' ⟨rfl, n, rfl⟩)
    go_ret3
    exact ⟨by rw [H.out]; rfl, n, rfl⟩
def Byt (l : List Nat) : Prop := ∀ c ∈ l, c < 256
def bef (l : List Nat) : List Nat := l.takeWhile (fun c => c != 47)
def aft (l : List Nat) : List Nat := (l.dropWhile (fun c => c != 47)).tail
def sls (l : List Nat) : Bool := l.contains 47
def neg45 (l : List Nat) : Bool := l.head? == some 45
def unsg (l : List Nat) : List Nat := if neg45 l then l.tail else l
theorem Byt.of_sub {l m : List Nat} (h : Byt l) (hs : ∀ c ∈ m, c ∈ l) : Byt m := fun c hc => h c (hs c hc)
theorem Byt.unsg {l : List Nat} (h : Byt l) : Byt (unsg l) := h.of_sub fun c hc => by
  unfold Go.Proofs.YtjfehdkfogdpgaaDoor.unsg at hc
  split at hc
  · exact List.mem_of_mem_tail hc
  · exact hc
theorem Byt.bef {l : List Nat} (h : Byt l) : Byt (bef l) := h.of_sub fun _ hc => (List.takeWhile_sublist _).subset hc
theorem Byt.aft {l : List Nat} (h : Byt l) : Byt (aft l) := h.of_sub fun _ hc => (List.dropWhile_sublist _).subset (List.mem_of_mem_tail hc)
theorem data_toNat {l : List Nat} (h : Byt l) : (ofB l).data.toList.map UInt8.toNat = l := Bt_ofB h
theorem take45 {l : List Nat} (h : Byt l) : ((ofB l).data.toList.take 1 == [45]) = neg45 l := by
  have e := data_toNat h
  unfold neg45
  generalize (ofB l).data.toList = m at e
  subst e
  cases m with
  | nil => rfl
  | cons b m =>
    by_cases hb : b = 45
    · subst hb; simp
    · have : b.toNat ≠ 45 := fun e => hb (UInt8.toNat_inj.1 e)
      rw [beq_eq_false_iff_ne.2 (by simpa using hb), beq_eq_false_iff_ne.2 (by simpa using this)]
theorem extract_tail {l : List Nat} (h : Byt l) : (ofB l).extract 1 (ofB l).size = ofB l.tail := by
  refine Bt_inj ?_
  rw [Bt_extract _ _ _ (Nat.le_refl _), Bt_ofB h, Bt_ofB (h.of_sub fun c hc => List.mem_of_mem_tail hc), ofB_size, List.take_length, List.drop_one]
theorem idx_spec (m : List UInt8) : (Lib.indexByte m 47 = -1 → bef (m.map UInt8.toNat) = m.map UInt8.toNat ∧ sls (m.map UInt8.toNat) = false) ∧
    ∀ n : Nat, Lib.indexByte m 47 = n → bef (m.map UInt8.toNat) = (m.map UInt8.toNat).take n ∧ aft (m.map UInt8.toNat) = (m.map UInt8.toNat).drop (n + 1) ∧ sls (m.map UInt8.toNat) = true := by
  induction m with
  | nil => exact ⟨fun _ => ⟨rfl, rfl⟩, fun n h => by simp [Lib.indexByte] at h⟩
  | cons b m ih =>
    unfold Lib.indexByte
    by_cases hb : b = 47
    · subst hb
      refine ⟨fun h => by simp at h, fun n h => ?_⟩
      have : n = 0 := by simpa using h.symm
      subst this
      exact ⟨by simp [bef], by simp [aft], by simp [sls]⟩
    · have hne : b.toNat ≠ 47 := fun e => hb (UInt8.toNat_inj.1 e)
      have hbb : (b == 47) = false := beq_eq_false_iff_ne.2 hb
      have hnb : (b.toNat != 47) = true := bne_iff_ne.2 hne
      rw [hbb]
      simp only [Bool.false_eq_true, if_false, List.map_cons]
      have hbef : bef (b.toNat :: m.map UInt8.toNat) = b.toNat :: bef (m.map UInt8.toNat) := by unfold bef; rw [List.takeWhile_cons, hnb]; rfl
      have haft : aft (b.toNat :: m.map UInt8.toNat) = aft (m.map UInt8.toNat) := by unfold aft; rw [List.dropWhile_cons, hnb]; rfl
      have hsls : sls (b.toNat :: m.map UInt8.toNat) = sls (m.map UInt8.toNat) := by
        unfold sls
        rw [List.contains_cons, show (47 == b.toNat) = false from beq_eq_false_iff_ne.2 (Ne.symm hne), Bool.false_or]
      rw [hbef, haft, hsls]
      by_cases h1 : Lib.indexByte m 47 = -1
      · rw [h1]
        refine ⟨fun _ => ⟨by rw [(ih.1 h1).1], (ih.1 h1).2⟩, fun n h => ?_⟩
        simp at h
      · have hb1 : (Lib.indexByte m 47 == -1) = false := beq_eq_false_iff_ne.2 h1
        rw [hb1]
        have hge := Lib.indexByte_ge m 47
        simp only [Bool.false_eq_true, if_false]
        refine ⟨fun h => by omega, fun n h => ?_⟩
        obtain ⟨k, rfl⟩ : ∃ k, n = k + 1 := ⟨n - 1, by omega⟩
        obtain ⟨i1, i2, i3⟩ := ih.2 k (by omega)
        exact ⟨by rw [i1]; rfl, by rw [i2]; rfl, i3⟩
theorem aft_none {l : List Nat} (h : sls l = false) : aft l = [] := by
  have hall : l.dropWhile (fun c => c != 47) = [] := by
    unfold sls at h
    induction l with
    | nil => rfl
    | cons c l ih =>
      rw [List.contains_cons, Bool.or_eq_false_iff] at h
      have hc : (c != 47) = true := by
        rw [bne_iff_ne]
        rintro rfl
        have := h.1
        rw [beq_self_eq_true] at this
        cases this
      rw [List.dropWhile_cons, hc, if_pos rfl]
      exact ih h.2
  unfold aft
  rw [hall]; rfl
theorem slashAt_ofB {l : List Nat} (h : Byt l) : slashAt (ofB l) (Lib.indexByte (ofB l).data.toList 47) = .tuple #[.string (ofB (bef l)), .string (ofB (aft l)), .bool (sls l)] := by
  have e := data_toNat h
  have hs := idx_spec (ofB l).data.toList
  rw [e] at hs
  unfold slashAt
  rcases Int.lt_or_le (Lib.indexByte (ofB l).data.toList 47) 0 with h0 | h0
  · have h1 : Lib.indexByte (ofB l).data.toList 47 = -1 := by have := Lib.indexByte_ge (ofB l).data.toList 47; omega
    obtain ⟨i1, i2⟩ := hs.1 h1
    rw [if_pos h0, i1, i2, aft_none i2]
    rfl
  · obtain ⟨n, hn⟩ : ∃ n : Nat, Lib.indexByte (ofB l).data.toList 47 = n := ⟨(Lib.indexByte (ofB l).data.toList 47).toNat, by omega⟩
    obtain ⟨i1, i2, i3⟩ := hs.2 n hn
    have hlt : n < (ofB l).size := by
      have := (Lib.indexByte_some hn).1
      have h2 := (List.getElem?_eq_some_iff.1 this).1
      rw [Array.length_toList] at h2
      exact h2
    rw [if_neg (by omega), hn, Int.toNat_natCast, i1, i2, i3]
    have e1 : (ofB l).extract 0 n = ofB (l.take n) := Bt_inj (by rw [Bt_extract _ _ _ (by omega), Bt_ofB h, Bt_ofB (h.of_sub fun c hc => List.mem_of_mem_take hc), List.drop_zero])
    have e2 : (ofB l).extract (n + 1) (ofB l).size = ofB (l.drop (n + 1)) := Bt_inj (by rw [Bt_extract _ _ _ (Nat.le_refl _), Bt_ofB h, Bt_ofB (h.of_sub fun c hc => List.mem_of_mem_drop hc), ofB_size, List.take_length])
    rw [e1, e2]
end Go.Proofs.YtjfehdkfogdpgaaDoor
namespace Go.Proofs.YtjfehdkfogdpgaaDoor
open Go.RowKit
theorem parse_all (s : ByteArray) (w : World) (hs : s.size ≤ 1000000) :
    Calls Tryd.prog 50 #[.string s] w fun e w' => ParseRet s e w' ∧ Below w.heap.size w w' := by
  by_cases h : Nm.chk (Bt s) = 0
  · refine (parse_good s w hs h).mono ?_
    rintro e w' ⟨A, c, rfl, hc, hf, hb⟩
    refine ⟨⟨A, _, c, _, by rw [h]; rfl, hf.num hc (Nm.dig_nat _) ?_, fun h' => absurd h h', fun _ => rfl⟩, hb⟩
    have hall : Nm.alldec (Bt s) ∧ (Bt s).length ≤ 400 := by
      unfold Nm.chk at h
      split at h
      · omega
      · split at h
        · omega
        · split at h
          · omega
          · rename_i h2 h3
            exact ⟨by simpa using h3, by omega⟩
    refine Nat.le_trans (Nm.nat_len (k := 42) (Nat.lt_of_lt_of_le (Nm.dval_lt _ hall.1) ?_)) (by decide)
    exact Nat.le_trans (Nat.pow_le_pow_right (by omega) hall.2) ten_small
  · refine (parse_bad s w hs h).mono ?_
    rintro e w' ⟨rfl, hb⟩
    exact ⟨parse_err rfl h rfl, hb⟩
end Go.Proofs.YtjfehdkfogdpgaaDoor
namespace Go.Proofs.YtjfehdkfogdpgaaDoor
open Go.RowKit
theorem t_cutPrefix (l : List Nat) (h : Byt l) (hs : l.length ≤ 1000000) : ∀ v w, (Fact.eq (.string (ofB l))).holds v w → Calls Tryd.prog 48 #[v, .string ⟨#[45]⟩] w (Ret (Fact.two (Fact.eq (.string (ofB (unsg l)))) (Fact.eq (.bool (neg45 l)))) w) := by
  rintro v w rfl
  refine (cutPrefix_c (ofB l) w (by rw [ofB_size]; exact hs) (neg45 l) (take45 h)).mono fun e w' ⟨he, hw⟩ => ⟨_, he, by subst hw; exact Below.refl _ _, _, _, rfl, ?_, rfl⟩
  show Value.string _ = Value.string _
  unfold unsg
  split
  · rw [extract_tail h]
  · rfl
theorem t_cut (l : List Nat) (h : Byt l) (hs : l.length ≤ 1000000) : ∀ v w, (Fact.eq (.string (ofB l))).holds v w → Calls Tryd.prog 49 #[v, .string ⟨#[47]⟩] w (Ret (Fact.three (Fact.eq (.string (ofB (bef l)))) (Fact.eq (.string (ofB (aft l)))) (Fact.eq (.bool (sls l)))) w) := by
  rintro v w rfl
  refine (cut_c (ofB l) w (by rw [ofB_size]; exact hs)).mono fun e w' ⟨he, n, hw⟩ => ⟨_, he, by subst hw; exact below_drewN (Below.refl _ _) n, _, _, _, slashAt_ofB h, rfl, rfl, rfl⟩
def pv (l : List Nat) : Nat := if Nm.chk l = 0 then Nm.dval l else 0
theorem pv_sz (l : List Nat) : Nm.Sz 42 (pv l) := by
  unfold pv
  split
  · rename_i h
    have hall : Nm.alldec l ∧ l.length ≤ 400 := by
      unfold Nm.chk at h
      split at h
      · cases h
      · split at h
        · cases h
        · split at h
          · cases h
          · rename_i h1 h2 h3
            exact ⟨Classical.byContradiction h3, by omega⟩
    exact Nat.lt_of_lt_of_le (Nat.lt_of_lt_of_le (Nm.dval_lt l hall.1) (Nat.pow_le_pow_right (by omega) hall.2)) ten_small
  · exact sz_zero 42
theorem parseRet {l : List Nat} {e : Ending} {w w' : World} (hl : Byt l) (h : ParseRet (ofB l) e w') (hb : Below w.heap.size w w') : Ret (Fact.two (Fact.nn 42 (pv l)) (Fact.eq (.int .i64 (Nm.chk l : Int)))) w e w' := by
  obtain ⟨A, n, c, zs, he, hn, h1, h2⟩ := h
  rw [Bt_ofB hl] at he h1 h2
  have hz : zs = Nm.nat (pv l) := by
    unfold pv
    by_cases h0 : Nm.chk l = 0
    · rw [if_pos h0]; exact h2 h0
    · rw [if_neg h0, Nm.nat_zero]; exact h1 h0
  subst hz
  obtain rfl := hn.len
  exact ⟨_, he, hb, _, _, rfl, Fact.num_nn ⟨A, c, rfl, hn⟩ (pv_sz l), rfl⟩
theorem n_parse (l : List Nat) (h : Byt l) (hs : l.length ≤ 1000000) : ∀ v w, (Fact.eq (.string (ofB l))).holds v w → Calls Tryd.prog 50 #[v] w (Ret (Fact.two (Fact.nn 42 (pv l)) (Fact.eq (.int .i64 (Nm.chk l : Int)))) w) := by
  rintro v w rfl
  exact (parse_all (ofB l) w (by rw [ofB_size]; exact hs)).mono fun e w' ⟨h1, h2⟩ => parseRet h h1 h2
theorem n_format (k p : Nat) : ∀ v w, (Fact.nn k p).holds v w → Calls Tryd.prog 54 #[v] w (Ret (Fact.eq (.string (ofB (Nm.dec p)))) w) := by
  intro v w hv
  obtain ⟨⟨A, c, rfl, hx⟩, _⟩ := Fact.nn_num hv
  exact (format_n hx).mono fun e w' ⟨s, he, hB, hb⟩ => ⟨_, he, hb, by rw [nn_val] at hB; rw [← hB, ofB_Bt]; rfl⟩
theorem ofB_append (l m : List Nat) : ofB l ++ ofB m = ofB (l ++ m) := by
  refine ByteArray.ext ?_
  rw [ByteArray.data_append]
  simp [ofB]
section
variable {ops : Array Oper} {Q : Exit → Act → World → Prop} {F : Nat → Fact} {base : List Nat} {N : Nat} {o : Oper}
theorem ob_call_tc (f : FuncId) (t d : Nat) (c : Value) (tys : Array TypeId) (ho : o.op = .call { callee := .value (.func f), args := #[.tmp t, .const c], argTypes := tys }) (hd : o.dst = some d) (hg : GuardOk ops F base N o) (hk : known ops base o t = true) (hfn : fnOk f = true)
    (hc : ∀ v w, (F t).holds v w → Calls Tryd.prog f #[v, c] w (Ret (F d) w)) : Ob ops Q F base N o :=
  ob_enter hg fun a w hf => ⟨f, #[a.tmps.getD t undef, c], by simpa [execOp, ho, resolve, Act.eval] using run_invoke hfn _ w, (hc _ w (hf t hk)).mono fun e w' ⟨u, he, hb, hr⟩ => ⟨u, he, hb, fun s hs => by
    rw [hd] at hs; injection hs with hs; subst hs; exact hr⟩⟩
theorem ob_call_cc (f : FuncId) (d : Nat) (b c : Value) (tys : Array TypeId) (ho : o.op = .call { callee := .value (.func f), args := #[.const b, .const c], argTypes := tys }) (hd : o.dst = some d) (hg : GuardOk ops F base N o) (hfn : fnOk f = true)
    (hc : ∀ w, Calls Tryd.prog f #[b, c] w (Ret (F d) w)) : Ob ops Q F base N o :=
  ob_enter hg fun a w _ => ⟨f, #[b, c], by simpa [execOp, ho, resolve, Act.eval] using run_invoke hfn _ w, (hc w).mono fun e w' ⟨u, he, hb, hr⟩ => ⟨u, he, hb, fun s hs => by
    rw [hd] at hs; injection hs with hs; subst hs; exact hr⟩⟩
theorem ob_cat (t s d : Nat) (l m : List Nat) (hlen : l.length + m.length ≤ 1000000000) (ho : o.op = .binOp .add 9 (.tmp t) (.tmp s) 9) (hd : o.dst = some d) (hg : GuardOk ops F base N o) (hk : known ops base o t = true) (hk2 : known ops base o s = true) (hv : F t = Fact.eq (.string (ofB l))) (hv2 : F s = Fact.eq (.string (ofB m))) (hF : F d = Fact.eq (.string (ofB (l ++ m)))) : Ob ops Q F base N o :=
  ob_two t s d _ _ _ hd hg hk hk2 hv hv2 hF fun a w h1 h2 => by
    rw [← ofB_append]
    have hz : (ofB l).size + (ofB m).size ≤ 9223372036854775807 := by rw [ofB_size, ofB_size]; omega
    simp [execOp, ho, h1, h2]
    go_simp
theorem ob_catc (t d : Nat) (l m : List Nat) (c : ByteArray) (hcm : c = ofB m) (hlen : l.length + m.length ≤ 1000000000) (ho : o.op = .binOp .add 9 (.tmp t) (.const (.string c)) 9) (hd : o.dst = some d) (hg : GuardOk ops F base N o) (hk : known ops base o t = true) (hv : F t = Fact.eq (.string (ofB l))) (hF : F d = Fact.eq (.string (ofB (l ++ m)))) : Ob ops Q F base N o :=
  ob_one t d _ _ hd hg hk hv hF fun a w h1 => by
    have h3 : a.eval (.const (.string c)) = .string c := rfl
    rw [← ofB_append]
    subst hcm
    have hz : (ofB l).size + (ofB m).size ≤ 9223372036854775807 := by rw [ofB_size, ofB_size]; omega
    simp [execOp, ho, h1, h3]
    go_simp
theorem ob_ccat (t d : Nat) (l m : List Nat) (c : ByteArray) (hcm : c = ofB m) (hlen : l.length + m.length ≤ 1000000000) (ho : o.op = .binOp .add 9 (.const (.string c)) (.tmp t) 9) (hd : o.dst = some d) (hg : GuardOk ops F base N o) (hk : known ops base o t = true) (hv : F t = Fact.eq (.string (ofB l))) (hF : F d = Fact.eq (.string (ofB (m ++ l)))) : Ob ops Q F base N o :=
  ob_one t d _ _ hd hg hk hv hF fun a w h1 => by
    have h3 : a.eval (.const (.string c)) = .string c := rfl
    rw [← ofB_append]
    subst hcm
    have hz : (ofB m).size + (ofB l).size ≤ 9223372036854775807 := by rw [ofB_size, ofB_size]; omega
    simp [execOp, ho, h1, h3]
    go_simp
end
end Go.Proofs.YtjfehdkfogdpgaaDoor
namespace Go.Proofs.YtjfehdkfogdpgaaDoor
open Go.RowKit
def fmt (x : Rat) : List Nat :=
  if decide (x.den = 1) = true then (if Rt.ng x = true then [45] ++ Nm.dec (Rt.tp x) else Nm.dec (Rt.tp x))
  else ((if Rt.ng x = true then [45] ++ Nm.dec (Rt.tp x) else Nm.dec (Rt.tp x)) ++ [47]) ++ Nm.dec x.den
theorem t_cutb (l : List Nat) (h : Byt l) (hs : l.length ≤ 1000000) (b : Bool) (hb : sls l = b) : ∀ v w, (Fact.eq (.string (ofB l))).holds v w → Calls Tryd.prog 49 #[v, .string ⟨#[47]⟩] w (Ret (Fact.three (Fact.eq (.string (ofB (bef l)))) (Fact.eq (.string (ofB (aft l)))) (Fact.eq (.bool b))) w) := by
  subst hb; exact t_cut l h hs
set_option maxRecDepth 100000 in
theorem q_format (k : Nat) (x : Rat) (hp : (Nm.dec (Rt.tp x)).length ≤ 100000) (hq : (Nm.dec x.den).length ≤ 100000) : ∀ v0 w, (Fact.agg (Con.fr k x)).holds v0 w → Calls Tryd.prog 31 #[v0] w (Ret (Fact.eq (.string (ofB (fmt x)))) w) := by
  intro v0 w hv0
  cases hng : Rt.ng x with
  | false =>
    cases hd1 : decide (x.den = 1) with
    | false =>
      refine sym_calls 21 [(0, Fact.agg (Con.fr k x))] Tryd.func31 rfl rfl (Nat.le_of_ble_eq_true rfl) (fcs ⟨⟨Nat.le_of_ble_eq_true rfl, hv0⟩, fnl⟩) fun a st => ?_
      have hb := Below.refl w.heap.size w
      refine wp_seq ?_
      refine sym_region st [(1, Fact.var' (Con.fr k x)), (2, Fact.eq (.string (ofB ([]))))] [1] 2 (by kernel_rfl) (by kernel_rfl) (by kernel_rfl) (Nat.le_of_ble_eq_true rfl) (by kernel_rfl) rfl rfl ?_ ?_
      · refine fcs ⟨obn_box 28 0 1 _ (Con.fr k x) rfl rfl rfl (by kernel_rfl) rfl rfl, ?_⟩
        refine fcs ⟨Ob.new_ (ob_const (.string ⟨#[]⟩) 2 (.inr rfl) rfl (.inl rfl) rfl) (by kernel_rfl), ?_⟩
        exact fnl
      intro a1 w1 st1 hbr1 hfr
      have hs1 := hbr1.size
      have hb := up hb hbr1
      obtain ⟨b1, c1⟩ := (show (Fact.var' (Con.fr k x)).holds _ _ from st1.at_ 1)
      have g1 := hfr.ge (s := 1) rfl c1.1
      have st : St 21 [(1, Fact.cell b1 (Con.fr k x)), (2, Fact.eq (.string (ofB ([]))))] a1 w1 := st1.to (fcs ⟨c1, fcs ⟨st1.at_ 2, fnl⟩⟩)
      clear st1 hbr1 hfr c1
      refine wpList_nil ?_
      refine then_normal ?_
      refine wp_seq ?_
      refine sym_region st [(4, Fact.ptr (Con.nn k (Rt.tp x))), (5, Fact.agg (Con.nn k (Rt.tp x))), (6, Fact.eq (.string (ofB (Nm.dec (Rt.tp x))))), (3, Fact.eq (.string (ofB (Nm.dec (Rt.tp x)))))] [] 4 (by kernel_rfl) (by kernel_rfl) (by kernel_rfl) (Nat.le_of_ble_eq_true rfl) (by kernel_rfl) rfl rfl ?_ ?_
      · refine fcs ⟨Ob.new_ (ob_addr 28 1 1 4 1 (Con.fr k x) (Con.nn k (Rt.tp x)) rfl rfl (.inl rfl) (by kernel_rfl) points_cell rfl (Con.fr_tp k x) field26_1) (by kernel_rfl), ?_⟩
        refine fcs ⟨Ob.new_ (ob_read 24 4 5 (Con.nn k (Rt.tp x)) rfl rfl (.inl rfl) (by kernel_rfl) points_ptr rfl row24 info24) (by kernel_rfl), ?_⟩
        refine fcs ⟨Ob.new_ (ob_call1 54 5 6 _ rfl rfl (.inl rfl) (by kernel_rfl) (by kernel_rfl) (n_format k (Rt.tp x))) (by kernel_rfl), ?_⟩
        refine fcs ⟨Ob.new_ (ob_copy 6 3 (.inr rfl) rfl (.inl rfl) (by kernel_rfl) rfl) (by kernel_rfl), ?_⟩
        exact fnl
      intro a2 w2 st2 hbr2 hfr
      have hs2 := hbr2.size
      have hb := up hb hbr2
      have st : St 21 [(1, Fact.cell b1 (Con.fr k x)), (2, Fact.eq (.string (ofB ([])))), (3, Fact.eq (.string (ofB (Nm.dec (Rt.tp x)))))] a2 w2 := st2.to (fcs ⟨st2.at_ 1, fcs ⟨st2.at_ 2, fcs ⟨st2.at_ 3, fnl⟩⟩⟩)
      clear st2 hbr2 hfr
      refine wpList_nil ?_
      refine then_normal ?_
      refine wp_seq ?_
      refine wp_seq ?_
      refine sym_region st [(7, Fact.ptr (Con.bool (Rt.ng x))), (8, Fact.eq (.bool false))] [] 2 (by kernel_rfl) (by kernel_rfl) (by kernel_rfl) (Nat.le_of_ble_eq_true rfl) (by kernel_rfl) rfl rfl ?_ ?_
      · refine fcs ⟨Ob.new_ (ob_addr 28 0 1 7 0 (Con.fr k x) (Con.bool (Rt.ng x)) rfl rfl (.inl rfl) (by kernel_rfl) points_cell rfl (Con.fr_ng k x) field26_0) (by kernel_rfl), ?_⟩
        refine fcs ⟨Ob.new_ (ob_readb 7 8 (Rt.ng x) false hng rfl rfl (.inl rfl) (by kernel_rfl) points_ptr rfl) (by kernel_rfl), ?_⟩
        exact fnl
      intro a3 w3 st3 hbr3 hfr
      have hs3 := hbr3.size
      have hb := up hb hbr3
      have st : St 21 [(1, Fact.cell b1 (Con.fr k x)), (2, Fact.eq (.string (ofB ([])))), (3, Fact.eq (.string (ofB (Nm.dec (Rt.tp x))))), (8, Fact.eq (.bool false))] a3 w3 := st3.to (fcs ⟨st3.at_ 1, fcs ⟨st3.at_ 2, fcs ⟨st3.at_ 3, fcs ⟨st3.at_ 8, fnl⟩⟩⟩⟩)
      clear st3 hbr3 hfr
      refine wpList_nil ?_
      refine then_normal ?_
      refine wp_cond_false (st.at_ 8) ?_
      refine wp_skip ?_
      refine then_normal ?_
      refine wp_seq ?_
      refine wp_seq ?_
      refine sym_region st [(11, Fact.ptr (Con.nn k (Rat.den x))), (12, Fact.agg (Con.nn k (Rat.den x))), (13, Fact.eq (.bool false))] [] 3 (by kernel_rfl) (by kernel_rfl) (by kernel_rfl) (Nat.le_of_ble_eq_true rfl) (by kernel_rfl) rfl rfl ?_ ?_
      · refine fcs ⟨Ob.new_ (ob_addr 28 2 1 11 2 (Con.fr k x) (Con.nn k (Rat.den x)) rfl rfl (.inl rfl) (by kernel_rfl) points_cell rfl (Con.fr_den k x) field26_2) (by kernel_rfl), ?_⟩
        refine fcs ⟨Ob.new_ (ob_read 24 11 12 (Con.nn k (Rat.den x)) rfl rfl (.inl rfl) (by kernel_rfl) points_ptr rfl row24 info24) (by kernel_rfl), ?_⟩
        refine fcs ⟨Ob.new_ (ob_call1 38 12 13 _ rfl rfl (.inl rfl) (by kernel_rfl) (by kernel_rfl) (q_isOne k (Rat.den x) false hd1)) (by kernel_rfl), ?_⟩
        exact fnl
      intro a4 w4 st4 hbr4 hfr
      have hs4 := hbr4.size
      have hb := up hb hbr4
      have st : St 21 [(1, Fact.cell b1 (Con.fr k x)), (2, Fact.eq (.string (ofB ([])))), (3, Fact.eq (.string (ofB (Nm.dec (Rt.tp x))))), (13, Fact.eq (.bool false))] a4 w4 := st4.to (fcs ⟨st4.at_ 1, fcs ⟨st4.at_ 2, fcs ⟨st4.at_ 3, fcs ⟨st4.at_ 13, fnl⟩⟩⟩⟩)
      clear st4 hbr4 hfr
      refine wpList_nil ?_
      refine then_normal ?_
      refine wp_cond_false (st.at_ 13) ?_
      refine wp_skip ?_
      refine then_normal ?_
      refine wp_seq ?_
      have st := st.to (ks' := [(1, Fact.cell b1 (Con.fr k x)), (3, Fact.eq (.string (ofB (Nm.dec (Rt.tp x))))), (13, Fact.eq (.bool false))]) (fcs ⟨st.at_ 1, fcs ⟨st.at_ 3, fcs ⟨st.at_ 13, fnl⟩⟩⟩)
      refine sym_region st [(15, Fact.eq (.string (ofB (Nm.dec (Rt.tp x))))), (16, Fact.eq (.string (ofB ((Nm.dec (Rt.tp x)) ++ ([47]))))), (17, Fact.ptr (Con.nn k (Rat.den x))), (18, Fact.agg (Con.nn k (Rat.den x))), (19, Fact.eq (.string (ofB (Nm.dec (Rat.den x))))), (20, Fact.eq (.string (ofB (((Nm.dec (Rt.tp x)) ++ ([47])) ++ (Nm.dec (Rat.den x)))))), (2, Fact.eq (.string (ofB (((Nm.dec (Rt.tp x)) ++ ([47])) ++ (Nm.dec (Rat.den x))))))] [] 7 (by kernel_rfl) (by kernel_rfl) (by kernel_rfl) (Nat.le_of_ble_eq_true rfl) (by kernel_rfl) rfl rfl ?_ ?_
      · refine fcs ⟨Ob.new_ (ob_copy 3 15 (.inl rfl) rfl (.inl rfl) (by kernel_rfl) rfl) (by kernel_rfl), ?_⟩
        refine fcs ⟨Ob.new_ (ob_catc 15 16 (Nm.dec (Rt.tp x)) ([47]) _ rfl (by simp only [List.length_cons, List.length_nil]; omega) rfl rfl (.inl rfl) (by kernel_rfl) rfl rfl) (by kernel_rfl), ?_⟩
        refine fcs ⟨Ob.new_ (ob_addr 28 2 1 17 2 (Con.fr k x) (Con.nn k (Rat.den x)) rfl rfl (.inl rfl) (by kernel_rfl) points_cell rfl (Con.fr_den k x) field26_2) (by kernel_rfl), ?_⟩
        refine fcs ⟨Ob.new_ (ob_read 24 17 18 (Con.nn k (Rat.den x)) rfl rfl (.inl rfl) (by kernel_rfl) points_ptr rfl row24 info24) (by kernel_rfl), ?_⟩
        refine fcs ⟨Ob.new_ (ob_call1 54 18 19 _ rfl rfl (.inl rfl) (by kernel_rfl) (by kernel_rfl) (n_format k (Rat.den x))) (by kernel_rfl), ?_⟩
        refine fcs ⟨Ob.new_ (ob_cat 16 19 20 ((Nm.dec (Rt.tp x)) ++ ([47])) (Nm.dec (Rat.den x)) (by simp only [List.length_append, List.length_cons, List.length_nil]; omega) rfl rfl (.inl rfl) (by kernel_rfl) (by kernel_rfl) rfl rfl rfl) (by kernel_rfl), ?_⟩
        refine fcs ⟨Ob.new_ (ob_copy 20 2 (.inr rfl) rfl (.inl rfl) (by kernel_rfl) rfl) (by kernel_rfl), ?_⟩
        exact fnl
      intro a5 w5 st5 hbr5 hfr
      have hs5 := hbr5.size
      have hb := up hb hbr5
      have st : St 21 [(2, Fact.eq (.string (ofB (((Nm.dec (Rt.tp x)) ++ ([47])) ++ (Nm.dec (Rat.den x))))))] a5 w5 := st5.to (fcs ⟨st5.at_ 2, fnl⟩)
      clear st5 hbr5 hfr
      refine wpList_nil ?_
      refine then_normal ?_
      refine wp_ret ?_
      exact sym_ret1 rfl st.defers (resAt_tmp st 2) hb (fun _ h => by rw [show fmt x = (Nm.dec (Rt.tp x) ++ [47]) ++ Nm.dec x.den from by unfold fmt; rw [hng, hd1]; rfl]; exact h)
    | true =>
      refine sym_calls 21 [(0, Fact.agg (Con.fr k x))] Tryd.func31 rfl rfl (Nat.le_of_ble_eq_true rfl) (fcs ⟨⟨Nat.le_of_ble_eq_true rfl, hv0⟩, fnl⟩) fun a st => ?_
      have hb := Below.refl w.heap.size w
      refine wp_seq ?_
      refine sym_region st [(1, Fact.var' (Con.fr k x)), (2, Fact.eq (.string (ofB ([]))))] [1] 2 (by kernel_rfl) (by kernel_rfl) (by kernel_rfl) (Nat.le_of_ble_eq_true rfl) (by kernel_rfl) rfl rfl ?_ ?_
      · refine fcs ⟨obn_box 28 0 1 _ (Con.fr k x) rfl rfl rfl (by kernel_rfl) rfl rfl, ?_⟩
        refine fcs ⟨Ob.new_ (ob_const (.string ⟨#[]⟩) 2 (.inr rfl) rfl (.inl rfl) rfl) (by kernel_rfl), ?_⟩
        exact fnl
      intro a1 w1 st1 hbr1 hfr
      have hs1 := hbr1.size
      have hb := up hb hbr1
      obtain ⟨b1, c1⟩ := (show (Fact.var' (Con.fr k x)).holds _ _ from st1.at_ 1)
      have g1 := hfr.ge (s := 1) rfl c1.1
      have st : St 21 [(1, Fact.cell b1 (Con.fr k x)), (2, Fact.eq (.string (ofB ([]))))] a1 w1 := st1.to (fcs ⟨c1, fcs ⟨st1.at_ 2, fnl⟩⟩)
      clear st1 hbr1 hfr c1
      refine wpList_nil ?_
      refine then_normal ?_
      refine wp_seq ?_
      refine sym_region st [(4, Fact.ptr (Con.nn k (Rt.tp x))), (5, Fact.agg (Con.nn k (Rt.tp x))), (6, Fact.eq (.string (ofB (Nm.dec (Rt.tp x))))), (3, Fact.eq (.string (ofB (Nm.dec (Rt.tp x)))))] [] 4 (by kernel_rfl) (by kernel_rfl) (by kernel_rfl) (Nat.le_of_ble_eq_true rfl) (by kernel_rfl) rfl rfl ?_ ?_
      · refine fcs ⟨Ob.new_ (ob_addr 28 1 1 4 1 (Con.fr k x) (Con.nn k (Rt.tp x)) rfl rfl (.inl rfl) (by kernel_rfl) points_cell rfl (Con.fr_tp k x) field26_1) (by kernel_rfl), ?_⟩
        refine fcs ⟨Ob.new_ (ob_read 24 4 5 (Con.nn k (Rt.tp x)) rfl rfl (.inl rfl) (by kernel_rfl) points_ptr rfl row24 info24) (by kernel_rfl), ?_⟩
        refine fcs ⟨Ob.new_ (ob_call1 54 5 6 _ rfl rfl (.inl rfl) (by kernel_rfl) (by kernel_rfl) (n_format k (Rt.tp x))) (by kernel_rfl), ?_⟩
        refine fcs ⟨Ob.new_ (ob_copy 6 3 (.inr rfl) rfl (.inl rfl) (by kernel_rfl) rfl) (by kernel_rfl), ?_⟩
        exact fnl
      intro a2 w2 st2 hbr2 hfr
      have hs2 := hbr2.size
      have hb := up hb hbr2
      have st : St 21 [(1, Fact.cell b1 (Con.fr k x)), (2, Fact.eq (.string (ofB ([])))), (3, Fact.eq (.string (ofB (Nm.dec (Rt.tp x)))))] a2 w2 := st2.to (fcs ⟨st2.at_ 1, fcs ⟨st2.at_ 2, fcs ⟨st2.at_ 3, fnl⟩⟩⟩)
      clear st2 hbr2 hfr
      refine wpList_nil ?_
      refine then_normal ?_
      refine wp_seq ?_
      refine wp_seq ?_
      refine sym_region st [(7, Fact.ptr (Con.bool (Rt.ng x))), (8, Fact.eq (.bool false))] [] 2 (by kernel_rfl) (by kernel_rfl) (by kernel_rfl) (Nat.le_of_ble_eq_true rfl) (by kernel_rfl) rfl rfl ?_ ?_
      · refine fcs ⟨Ob.new_ (ob_addr 28 0 1 7 0 (Con.fr k x) (Con.bool (Rt.ng x)) rfl rfl (.inl rfl) (by kernel_rfl) points_cell rfl (Con.fr_ng k x) field26_0) (by kernel_rfl), ?_⟩
        refine fcs ⟨Ob.new_ (ob_readb 7 8 (Rt.ng x) false hng rfl rfl (.inl rfl) (by kernel_rfl) points_ptr rfl) (by kernel_rfl), ?_⟩
        exact fnl
      intro a3 w3 st3 hbr3 hfr
      have hs3 := hbr3.size
      have hb := up hb hbr3
      have st : St 21 [(1, Fact.cell b1 (Con.fr k x)), (2, Fact.eq (.string (ofB ([])))), (3, Fact.eq (.string (ofB (Nm.dec (Rt.tp x))))), (8, Fact.eq (.bool false))] a3 w3 := st3.to (fcs ⟨st3.at_ 1, fcs ⟨st3.at_ 2, fcs ⟨st3.at_ 3, fcs ⟨st3.at_ 8, fnl⟩⟩⟩⟩)
      clear st3 hbr3 hfr
      refine wpList_nil ?_
      refine then_normal ?_
      refine wp_cond_false (st.at_ 8) ?_
      refine wp_skip ?_
      refine then_normal ?_
      refine wp_seq ?_
      refine wp_seq ?_
      refine sym_region st [(11, Fact.ptr (Con.nn k (Rat.den x))), (12, Fact.agg (Con.nn k (Rat.den x))), (13, Fact.eq (.bool true))] [] 3 (by kernel_rfl) (by kernel_rfl) (by kernel_rfl) (Nat.le_of_ble_eq_true rfl) (by kernel_rfl) rfl rfl ?_ ?_
      · refine fcs ⟨Ob.new_ (ob_addr 28 2 1 11 2 (Con.fr k x) (Con.nn k (Rat.den x)) rfl rfl (.inl rfl) (by kernel_rfl) points_cell rfl (Con.fr_den k x) field26_2) (by kernel_rfl), ?_⟩
        refine fcs ⟨Ob.new_ (ob_read 24 11 12 (Con.nn k (Rat.den x)) rfl rfl (.inl rfl) (by kernel_rfl) points_ptr rfl row24 info24) (by kernel_rfl), ?_⟩
        refine fcs ⟨Ob.new_ (ob_call1 38 12 13 _ rfl rfl (.inl rfl) (by kernel_rfl) (by kernel_rfl) (q_isOne k (Rat.den x) true hd1)) (by kernel_rfl), ?_⟩
        exact fnl
      intro a4 w4 st4 hbr4 hfr
      have hs4 := hbr4.size
      have hb := up hb hbr4
      have st : St 21 [(1, Fact.cell b1 (Con.fr k x)), (2, Fact.eq (.string (ofB ([])))), (3, Fact.eq (.string (ofB (Nm.dec (Rt.tp x))))), (13, Fact.eq (.bool true))] a4 w4 := st4.to (fcs ⟨st4.at_ 1, fcs ⟨st4.at_ 2, fcs ⟨st4.at_ 3, fcs ⟨st4.at_ 13, fnl⟩⟩⟩⟩)
      clear st4 hbr4 hfr
      refine wpList_nil ?_
      refine then_normal ?_
      refine wp_cond_true (st.at_ 13) ?_
      refine wp_seq ?_
      have st := st.to (ks' := [(1, Fact.cell b1 (Con.fr k x)), (3, Fact.eq (.string (ofB (Nm.dec (Rt.tp x))))), (13, Fact.eq (.bool true))]) (fcs ⟨st.at_ 1, fcs ⟨st.at_ 3, fcs ⟨st.at_ 13, fnl⟩⟩⟩)
      refine sym_region st [(14, Fact.eq (.string (ofB (Nm.dec (Rt.tp x))))), (2, Fact.eq (.string (ofB (Nm.dec (Rt.tp x)))))] [] 2 (by kernel_rfl) (by kernel_rfl) (by kernel_rfl) (Nat.le_of_ble_eq_true rfl) (by kernel_rfl) rfl rfl ?_ ?_
      · refine fcs ⟨Ob.new_ (ob_copy 3 14 (.inl rfl) rfl (.inl rfl) (by kernel_rfl) rfl) (by kernel_rfl), ?_⟩
        refine fcs ⟨Ob.new_ (ob_copy 14 2 (.inr rfl) rfl (.inl rfl) (by kernel_rfl) rfl) (by kernel_rfl), ?_⟩
        exact fnl
      intro a5 w5 st5 hbr5 hfr
      have hs5 := hbr5.size
      have hb := up hb hbr5
      have st : St 21 [(1, Fact.cell b1 (Con.fr k x)), (3, Fact.eq (.string (ofB (Nm.dec (Rt.tp x))))), (2, Fact.eq (.string (ofB (Nm.dec (Rt.tp x)))))] a5 w5 := st5.to (fcs ⟨st5.at_ 1, fcs ⟨st5.at_ 3, fcs ⟨st5.at_ 2, fnl⟩⟩⟩)
      clear st5 hbr5 hfr
      refine wpList_nil ?_
      refine then_normal ?_
      refine wp_ret ?_
      exact sym_ret1 rfl st.defers (resAt_tmp st 2) hb (fun _ h => by rw [show fmt x = Nm.dec (Rt.tp x) from by unfold fmt; rw [hng, hd1]; rfl]; exact h)
  | true =>
    cases hd1 : decide (x.den = 1) with
    | false =>
      refine sym_calls 21 [(0, Fact.agg (Con.fr k x))] Tryd.func31 rfl rfl (Nat.le_of_ble_eq_true rfl) (fcs ⟨⟨Nat.le_of_ble_eq_true rfl, hv0⟩, fnl⟩) fun a st => ?_
      have hb := Below.refl w.heap.size w
      refine wp_seq ?_
      refine sym_region st [(1, Fact.var' (Con.fr k x)), (2, Fact.eq (.string (ofB ([]))))] [1] 2 (by kernel_rfl) (by kernel_rfl) (by kernel_rfl) (Nat.le_of_ble_eq_true rfl) (by kernel_rfl) rfl rfl ?_ ?_
      · refine fcs ⟨obn_box 28 0 1 _ (Con.fr k x) rfl rfl rfl (by kernel_rfl) rfl rfl, ?_⟩
        refine fcs ⟨Ob.new_ (ob_const (.string ⟨#[]⟩) 2 (.inr rfl) rfl (.inl rfl) rfl) (by kernel_rfl), ?_⟩
        exact fnl
      intro a1 w1 st1 hbr1 hfr
      have hs1 := hbr1.size
      have hb := up hb hbr1
      obtain ⟨b1, c1⟩ := (show (Fact.var' (Con.fr k x)).holds _ _ from st1.at_ 1)
      have g1 := hfr.ge (s := 1) rfl c1.1
      have st : St 21 [(1, Fact.cell b1 (Con.fr k x)), (2, Fact.eq (.string (ofB ([]))))] a1 w1 := st1.to (fcs ⟨c1, fcs ⟨st1.at_ 2, fnl⟩⟩)
      clear st1 hbr1 hfr c1
      refine wpList_nil ?_
      refine then_normal ?_
      refine wp_seq ?_
      refine sym_region st [(4, Fact.ptr (Con.nn k (Rt.tp x))), (5, Fact.agg (Con.nn k (Rt.tp x))), (6, Fact.eq (.string (ofB (Nm.dec (Rt.tp x))))), (3, Fact.eq (.string (ofB (Nm.dec (Rt.tp x)))))] [] 4 (by kernel_rfl) (by kernel_rfl) (by kernel_rfl) (Nat.le_of_ble_eq_true rfl) (by kernel_rfl) rfl rfl ?_ ?_
      · refine fcs ⟨Ob.new_ (ob_addr 28 1 1 4 1 (Con.fr k x) (Con.nn k (Rt.tp x)) rfl rfl (.inl rfl) (by kernel_rfl) points_cell rfl (Con.fr_tp k x) field26_1) (by kernel_rfl), ?_⟩
        refine fcs ⟨Ob.new_ (ob_read 24 4 5 (Con.nn k (Rt.tp x)) rfl rfl (.inl rfl) (by kernel_rfl) points_ptr rfl row24 info24) (by kernel_rfl), ?_⟩
        refine fcs ⟨Ob.new_ (ob_call1 54 5 6 _ rfl rfl (.inl rfl) (by kernel_rfl) (by kernel_rfl) (n_format k (Rt.tp x))) (by kernel_rfl), ?_⟩
        refine fcs ⟨Ob.new_ (ob_copy 6 3 (.inr rfl) rfl (.inl rfl) (by kernel_rfl) rfl) (by kernel_rfl), ?_⟩
        exact fnl
      intro a2 w2 st2 hbr2 hfr
      have hs2 := hbr2.size
      have hb := up hb hbr2
      have st : St 21 [(1, Fact.cell b1 (Con.fr k x)), (2, Fact.eq (.string (ofB ([])))), (3, Fact.eq (.string (ofB (Nm.dec (Rt.tp x)))))] a2 w2 := st2.to (fcs ⟨st2.at_ 1, fcs ⟨st2.at_ 2, fcs ⟨st2.at_ 3, fnl⟩⟩⟩)
      clear st2 hbr2 hfr
      refine wpList_nil ?_
      refine then_normal ?_
      refine wp_seq ?_
      refine wp_seq ?_
      refine sym_region st [(7, Fact.ptr (Con.bool (Rt.ng x))), (8, Fact.eq (.bool true))] [] 2 (by kernel_rfl) (by kernel_rfl) (by kernel_rfl) (Nat.le_of_ble_eq_true rfl) (by kernel_rfl) rfl rfl ?_ ?_
      · refine fcs ⟨Ob.new_ (ob_addr 28 0 1 7 0 (Con.fr k x) (Con.bool (Rt.ng x)) rfl rfl (.inl rfl) (by kernel_rfl) points_cell rfl (Con.fr_ng k x) field26_0) (by kernel_rfl), ?_⟩
        refine fcs ⟨Ob.new_ (ob_readb 7 8 (Rt.ng x) true hng rfl rfl (.inl rfl) (by kernel_rfl) points_ptr rfl) (by kernel_rfl), ?_⟩
        exact fnl
      intro a3 w3 st3 hbr3 hfr
      have hs3 := hbr3.size
      have hb := up hb hbr3
      have st : St 21 [(1, Fact.cell b1 (Con.fr k x)), (2, Fact.eq (.string (ofB ([])))), (3, Fact.eq (.string (ofB (Nm.dec (Rt.tp x))))), (8, Fact.eq (.bool true))] a3 w3 := st3.to (fcs ⟨st3.at_ 1, fcs ⟨st3.at_ 2, fcs ⟨st3.at_ 3, fcs ⟨st3.at_ 8, fnl⟩⟩⟩⟩)
      clear st3 hbr3 hfr
      refine wpList_nil ?_
      refine then_normal ?_
      refine wp_cond_true (st.at_ 8) ?_
      refine wp_region_lit ?_
      refine sym_op st 9 (Fact.eq (.string (ofB (Nm.dec (Rt.tp x))))) rfl (Nat.le_of_ble_eq_true rfl) rfl rfl (by kernel_rfl) (ob_copy 3 9 (.inl rfl) rfl (.inl rfl) (by kernel_rfl) rfl) ?_
      clear st; intro a5 w5 hbr st; have hs5 := hbr.size; have hb := up hb hbr; clear hbr
      refine sym_op st 10 (Fact.eq (.string (ofB (([45]) ++ (Nm.dec (Rt.tp x)))))) rfl (Nat.le_of_ble_eq_true rfl) rfl rfl (by kernel_rfl) (ob_ccat 9 10 (Nm.dec (Rt.tp x)) ([45]) _ rfl (by simp only [List.length_cons, List.length_nil]; omega) rfl rfl (.inl rfl) (by kernel_rfl) rfl rfl) ?_
      clear st; intro a6 w6 hbr st; have hs6 := hbr.size; have hb := up hb hbr; clear hbr
      have st := st.to (ks' := [(1, Fact.cell b1 (Con.fr k x)), (2, Fact.eq (.string (ofB ([])))), (8, Fact.eq (.bool true)), (9, Fact.eq (.string (ofB (Nm.dec (Rt.tp x))))), (10, Fact.eq (.string (ofB (([45]) ++ (Nm.dec (Rt.tp x))))))]) (fcs ⟨st.at_ 1, fcs ⟨st.at_ 2, fcs ⟨st.at_ 8, fcs ⟨st.at_ 9, fcs ⟨st.at_ 10, fnl⟩⟩⟩⟩⟩)
      refine sym_op st 3 (Fact.eq (.string (ofB (([45]) ++ (Nm.dec (Rt.tp x)))))) rfl (Nat.le_of_ble_eq_true rfl) rfl rfl (by kernel_rfl) (ob_copy 10 3 (.inr rfl) rfl (.inl rfl) (by kernel_rfl) rfl) ?_
      clear st; intro a7 w7 hbr st; have hs7 := hbr.size; have hb := up hb hbr; clear hbr
      refine wpList_nil ?_
      refine then_normal ?_
      refine wp_seq ?_
      refine wp_seq ?_
      refine sym_region st [(11, Fact.ptr (Con.nn k (Rat.den x))), (12, Fact.agg (Con.nn k (Rat.den x))), (13, Fact.eq (.bool false))] [] 3 (by kernel_rfl) (by kernel_rfl) (by kernel_rfl) (Nat.le_of_ble_eq_true rfl) (by kernel_rfl) rfl rfl ?_ ?_
      · refine fcs ⟨Ob.new_ (ob_addr 28 2 1 11 2 (Con.fr k x) (Con.nn k (Rat.den x)) rfl rfl (.inl rfl) (by kernel_rfl) points_cell rfl (Con.fr_den k x) field26_2) (by kernel_rfl), ?_⟩
        refine fcs ⟨Ob.new_ (ob_read 24 11 12 (Con.nn k (Rat.den x)) rfl rfl (.inl rfl) (by kernel_rfl) points_ptr rfl row24 info24) (by kernel_rfl), ?_⟩
        refine fcs ⟨Ob.new_ (ob_call1 38 12 13 _ rfl rfl (.inl rfl) (by kernel_rfl) (by kernel_rfl) (q_isOne k (Rat.den x) false hd1)) (by kernel_rfl), ?_⟩
        exact fnl
      intro a8 w8 st8 hbr8 hfr
      have hs8 := hbr8.size
      have hb := up hb hbr8
      have st : St 21 [(1, Fact.cell b1 (Con.fr k x)), (2, Fact.eq (.string (ofB ([])))), (3, Fact.eq (.string (ofB (([45]) ++ (Nm.dec (Rt.tp x)))))), (13, Fact.eq (.bool false))] a8 w8 := st8.to (fcs ⟨st8.at_ 1, fcs ⟨st8.at_ 2, fcs ⟨st8.at_ 3, fcs ⟨st8.at_ 13, fnl⟩⟩⟩⟩)
      clear st8 hbr8 hfr
      refine wpList_nil ?_
      refine then_normal ?_
      refine wp_cond_false (st.at_ 13) ?_
      refine wp_skip ?_
      refine then_normal ?_
      refine wp_seq ?_
      have st := st.to (ks' := [(1, Fact.cell b1 (Con.fr k x)), (3, Fact.eq (.string (ofB (([45]) ++ (Nm.dec (Rt.tp x)))))), (13, Fact.eq (.bool false))]) (fcs ⟨st.at_ 1, fcs ⟨st.at_ 3, fcs ⟨st.at_ 13, fnl⟩⟩⟩)
      refine sym_region st [(15, Fact.eq (.string (ofB (([45]) ++ (Nm.dec (Rt.tp x)))))), (16, Fact.eq (.string (ofB ((([45]) ++ (Nm.dec (Rt.tp x))) ++ ([47]))))), (17, Fact.ptr (Con.nn k (Rat.den x))), (18, Fact.agg (Con.nn k (Rat.den x))), (19, Fact.eq (.string (ofB (Nm.dec (Rat.den x))))), (20, Fact.eq (.string (ofB (((([45]) ++ (Nm.dec (Rt.tp x))) ++ ([47])) ++ (Nm.dec (Rat.den x)))))), (2, Fact.eq (.string (ofB (((([45]) ++ (Nm.dec (Rt.tp x))) ++ ([47])) ++ (Nm.dec (Rat.den x))))))] [] 7 (by kernel_rfl) (by kernel_rfl) (by kernel_rfl) (Nat.le_of_ble_eq_true rfl) (by kernel_rfl) rfl rfl ?_ ?_
      · refine fcs ⟨Ob.new_ (ob_copy 3 15 (.inl rfl) rfl (.inl rfl) (by kernel_rfl) rfl) (by kernel_rfl), ?_⟩
        refine fcs ⟨Ob.new_ (ob_catc 15 16 (([45]) ++ (Nm.dec (Rt.tp x))) ([47]) _ rfl (by simp only [List.length_append, List.length_cons, List.length_nil]; omega) rfl rfl (.inl rfl) (by kernel_rfl) rfl rfl) (by kernel_rfl), ?_⟩
        refine fcs ⟨Ob.new_ (ob_addr 28 2 1 17 2 (Con.fr k x) (Con.nn k (Rat.den x)) rfl rfl (.inl rfl) (by kernel_rfl) points_cell rfl (Con.fr_den k x) field26_2) (by kernel_rfl), ?_⟩
        refine fcs ⟨Ob.new_ (ob_read 24 17 18 (Con.nn k (Rat.den x)) rfl rfl (.inl rfl) (by kernel_rfl) points_ptr rfl row24 info24) (by kernel_rfl), ?_⟩
        refine fcs ⟨Ob.new_ (ob_call1 54 18 19 _ rfl rfl (.inl rfl) (by kernel_rfl) (by kernel_rfl) (n_format k (Rat.den x))) (by kernel_rfl), ?_⟩
        refine fcs ⟨Ob.new_ (ob_cat 16 19 20 ((([45]) ++ (Nm.dec (Rt.tp x))) ++ ([47])) (Nm.dec (Rat.den x)) (by simp only [List.length_append, List.length_cons, List.length_nil]; omega) rfl rfl (.inl rfl) (by kernel_rfl) (by kernel_rfl) rfl rfl rfl) (by kernel_rfl), ?_⟩
        refine fcs ⟨Ob.new_ (ob_copy 20 2 (.inr rfl) rfl (.inl rfl) (by kernel_rfl) rfl) (by kernel_rfl), ?_⟩
        exact fnl
      intro a9 w9 st9 hbr9 hfr
      have hs9 := hbr9.size
      have hb := up hb hbr9
      have st : St 21 [(2, Fact.eq (.string (ofB (((([45]) ++ (Nm.dec (Rt.tp x))) ++ ([47])) ++ (Nm.dec (Rat.den x))))))] a9 w9 := st9.to (fcs ⟨st9.at_ 2, fnl⟩)
      clear st9 hbr9 hfr
      refine wpList_nil ?_
      refine then_normal ?_
      refine wp_ret ?_
      exact sym_ret1 rfl st.defers (resAt_tmp st 2) hb (fun _ h => by rw [show fmt x = (([45] ++ Nm.dec (Rt.tp x)) ++ [47]) ++ Nm.dec x.den from by unfold fmt; rw [hng, hd1]; rfl]; exact h)
    | true =>
      refine sym_calls 21 [(0, Fact.agg (Con.fr k x))] Tryd.func31 rfl rfl (Nat.le_of_ble_eq_true rfl) (fcs ⟨⟨Nat.le_of_ble_eq_true rfl, hv0⟩, fnl⟩) fun a st => ?_
      have hb := Below.refl w.heap.size w
      refine wp_seq ?_
      refine sym_region st [(1, Fact.var' (Con.fr k x)), (2, Fact.eq (.string (ofB ([]))))] [1] 2 (by kernel_rfl) (by kernel_rfl) (by kernel_rfl) (Nat.le_of_ble_eq_true rfl) (by kernel_rfl) rfl rfl ?_ ?_
      · refine fcs ⟨obn_box 28 0 1 _ (Con.fr k x) rfl rfl rfl (by kernel_rfl) rfl rfl, ?_⟩
        refine fcs ⟨Ob.new_ (ob_const (.string ⟨#[]⟩) 2 (.inr rfl) rfl (.inl rfl) rfl) (by kernel_rfl), ?_⟩
        exact fnl
      intro a1 w1 st1 hbr1 hfr
      have hs1 := hbr1.size
      have hb := up hb hbr1
      obtain ⟨b1, c1⟩ := (show (Fact.var' (Con.fr k x)).holds _ _ from st1.at_ 1)
      have g1 := hfr.ge (s := 1) rfl c1.1
      have st : St 21 [(1, Fact.cell b1 (Con.fr k x)), (2, Fact.eq (.string (ofB ([]))))] a1 w1 := st1.to (fcs ⟨c1, fcs ⟨st1.at_ 2, fnl⟩⟩)
      clear st1 hbr1 hfr c1
      refine wpList_nil ?_
      refine then_normal ?_
      refine wp_seq ?_
      refine sym_region st [(4, Fact.ptr (Con.nn k (Rt.tp x))), (5, Fact.agg (Con.nn k (Rt.tp x))), (6, Fact.eq (.string (ofB (Nm.dec (Rt.tp x))))), (3, Fact.eq (.string (ofB (Nm.dec (Rt.tp x)))))] [] 4 (by kernel_rfl) (by kernel_rfl) (by kernel_rfl) (Nat.le_of_ble_eq_true rfl) (by kernel_rfl) rfl rfl ?_ ?_
      · refine fcs ⟨Ob.new_ (ob_addr 28 1 1 4 1 (Con.fr k x) (Con.nn k (Rt.tp x)) rfl rfl (.inl rfl) (by kernel_rfl) points_cell rfl (Con.fr_tp k x) field26_1) (by kernel_rfl), ?_⟩
        refine fcs ⟨Ob.new_ (ob_read 24 4 5 (Con.nn k (Rt.tp x)) rfl rfl (.inl rfl) (by kernel_rfl) points_ptr rfl row24 info24) (by kernel_rfl), ?_⟩
        refine fcs ⟨Ob.new_ (ob_call1 54 5 6 _ rfl rfl (.inl rfl) (by kernel_rfl) (by kernel_rfl) (n_format k (Rt.tp x))) (by kernel_rfl), ?_⟩
        refine fcs ⟨Ob.new_ (ob_copy 6 3 (.inr rfl) rfl (.inl rfl) (by kernel_rfl) rfl) (by kernel_rfl), ?_⟩
        exact fnl
      intro a2 w2 st2 hbr2 hfr
      have hs2 := hbr2.size
      have hb := up hb hbr2
      have st : St 21 [(1, Fact.cell b1 (Con.fr k x)), (2, Fact.eq (.string (ofB ([])))), (3, Fact.eq (.string (ofB (Nm.dec (Rt.tp x)))))] a2 w2 := st2.to (fcs ⟨st2.at_ 1, fcs ⟨st2.at_ 2, fcs ⟨st2.at_ 3, fnl⟩⟩⟩)
      clear st2 hbr2 hfr
      refine wpList_nil ?_
      refine then_normal ?_
      refine wp_seq ?_
      refine wp_seq ?_
      refine sym_region st [(7, Fact.ptr (Con.bool (Rt.ng x))), (8, Fact.eq (.bool true))] [] 2 (by kernel_rfl) (by kernel_rfl) (by kernel_rfl) (Nat.le_of_ble_eq_true rfl) (by kernel_rfl) rfl rfl ?_ ?_
      · refine fcs ⟨Ob.new_ (ob_addr 28 0 1 7 0 (Con.fr k x) (Con.bool (Rt.ng x)) rfl rfl (.inl rfl) (by kernel_rfl) points_cell rfl (Con.fr_ng k x) field26_0) (by kernel_rfl), ?_⟩
        refine fcs ⟨Ob.new_ (ob_readb 7 8 (Rt.ng x) true hng rfl rfl (.inl rfl) (by kernel_rfl) points_ptr rfl) (by kernel_rfl), ?_⟩
        exact fnl
      intro a3 w3 st3 hbr3 hfr
      have hs3 := hbr3.size
      have hb := up hb hbr3
      have st : St 21 [(1, Fact.cell b1 (Con.fr k x)), (2, Fact.eq (.string (ofB ([])))), (3, Fact.eq (.string (ofB (Nm.dec (Rt.tp x))))), (8, Fact.eq (.bool true))] a3 w3 := st3.to (fcs ⟨st3.at_ 1, fcs ⟨st3.at_ 2, fcs ⟨st3.at_ 3, fcs ⟨st3.at_ 8, fnl⟩⟩⟩⟩)
      clear st3 hbr3 hfr
      refine wpList_nil ?_
      refine then_normal ?_
      refine wp_cond_true (st.at_ 8) ?_
      refine wp_region_lit ?_
      refine sym_op st 9 (Fact.eq (.string (ofB (Nm.dec (Rt.tp x))))) rfl (Nat.le_of_ble_eq_true rfl) rfl rfl (by kernel_rfl) (ob_copy 3 9 (.inl rfl) rfl (.inl rfl) (by kernel_rfl) rfl) ?_
      clear st; intro a5 w5 hbr st; have hs5 := hbr.size; have hb := up hb hbr; clear hbr
      refine sym_op st 10 (Fact.eq (.string (ofB (([45]) ++ (Nm.dec (Rt.tp x)))))) rfl (Nat.le_of_ble_eq_true rfl) rfl rfl (by kernel_rfl) (ob_ccat 9 10 (Nm.dec (Rt.tp x)) ([45]) _ rfl (by simp only [List.length_cons, List.length_nil]; omega) rfl rfl (.inl rfl) (by kernel_rfl) rfl rfl) ?_
      clear st; intro a6 w6 hbr st; have hs6 := hbr.size; have hb := up hb hbr; clear hbr
      have st := st.to (ks' := [(1, Fact.cell b1 (Con.fr k x)), (2, Fact.eq (.string (ofB ([])))), (8, Fact.eq (.bool true)), (9, Fact.eq (.string (ofB (Nm.dec (Rt.tp x))))), (10, Fact.eq (.string (ofB (([45]) ++ (Nm.dec (Rt.tp x))))))]) (fcs ⟨st.at_ 1, fcs ⟨st.at_ 2, fcs ⟨st.at_ 8, fcs ⟨st.at_ 9, fcs ⟨st.at_ 10, fnl⟩⟩⟩⟩⟩)
      refine sym_op st 3 (Fact.eq (.string (ofB (([45]) ++ (Nm.dec (Rt.tp x)))))) rfl (Nat.le_of_ble_eq_true rfl) rfl rfl (by kernel_rfl) (ob_copy 10 3 (.inr rfl) rfl (.inl rfl) (by kernel_rfl) rfl) ?_
      clear st; intro a7 w7 hbr st; have hs7 := hbr.size; have hb := up hb hbr; clear hbr
      refine wpList_nil ?_
      refine then_normal ?_
      refine wp_seq ?_
      refine wp_seq ?_
      refine sym_region st [(11, Fact.ptr (Con.nn k (Rat.den x))), (12, Fact.agg (Con.nn k (Rat.den x))), (13, Fact.eq (.bool true))] [] 3 (by kernel_rfl) (by kernel_rfl) (by kernel_rfl) (Nat.le_of_ble_eq_true rfl) (by kernel_rfl) rfl rfl ?_ ?_
      · refine fcs ⟨Ob.new_ (ob_addr 28 2 1 11 2 (Con.fr k x) (Con.nn k (Rat.den x)) rfl rfl (.inl rfl) (by kernel_rfl) points_cell rfl (Con.fr_den k x) field26_2) (by kernel_rfl), ?_⟩
        refine fcs ⟨Ob.new_ (ob_read 24 11 12 (Con.nn k (Rat.den x)) rfl rfl (.inl rfl) (by kernel_rfl) points_ptr rfl row24 info24) (by kernel_rfl), ?_⟩
        refine fcs ⟨Ob.new_ (ob_call1 38 12 13 _ rfl rfl (.inl rfl) (by kernel_rfl) (by kernel_rfl) (q_isOne k (Rat.den x) true hd1)) (by kernel_rfl), ?_⟩
        exact fnl
      intro a8 w8 st8 hbr8 hfr
      have hs8 := hbr8.size
      have hb := up hb hbr8
      have st : St 21 [(1, Fact.cell b1 (Con.fr k x)), (2, Fact.eq (.string (ofB ([])))), (3, Fact.eq (.string (ofB (([45]) ++ (Nm.dec (Rt.tp x)))))), (13, Fact.eq (.bool true))] a8 w8 := st8.to (fcs ⟨st8.at_ 1, fcs ⟨st8.at_ 2, fcs ⟨st8.at_ 3, fcs ⟨st8.at_ 13, fnl⟩⟩⟩⟩)
      clear st8 hbr8 hfr
      refine wpList_nil ?_
      refine then_normal ?_
      refine wp_cond_true (st.at_ 13) ?_
      refine wp_seq ?_
      have st := st.to (ks' := [(1, Fact.cell b1 (Con.fr k x)), (3, Fact.eq (.string (ofB (([45]) ++ (Nm.dec (Rt.tp x)))))), (13, Fact.eq (.bool true))]) (fcs ⟨st.at_ 1, fcs ⟨st.at_ 3, fcs ⟨st.at_ 13, fnl⟩⟩⟩)
      refine sym_region st [(14, Fact.eq (.string (ofB (([45]) ++ (Nm.dec (Rt.tp x)))))), (2, Fact.eq (.string (ofB (([45]) ++ (Nm.dec (Rt.tp x))))))] [] 2 (by kernel_rfl) (by kernel_rfl) (by kernel_rfl) (Nat.le_of_ble_eq_true rfl) (by kernel_rfl) rfl rfl ?_ ?_
      · refine fcs ⟨Ob.new_ (ob_copy 3 14 (.inl rfl) rfl (.inl rfl) (by kernel_rfl) rfl) (by kernel_rfl), ?_⟩
        refine fcs ⟨Ob.new_ (ob_copy 14 2 (.inr rfl) rfl (.inl rfl) (by kernel_rfl) rfl) (by kernel_rfl), ?_⟩
        exact fnl
      intro a9 w9 st9 hbr9 hfr
      have hs9 := hbr9.size
      have hb := up hb hbr9
      have st : St 21 [(1, Fact.cell b1 (Con.fr k x)), (3, Fact.eq (.string (ofB (([45]) ++ (Nm.dec (Rt.tp x)))))), (2, Fact.eq (.string (ofB (([45]) ++ (Nm.dec (Rt.tp x))))))] a9 w9 := st9.to (fcs ⟨st9.at_ 1, fcs ⟨st9.at_ 3, fcs ⟨st9.at_ 2, fnl⟩⟩⟩)
      clear st9 hbr9 hfr
      refine wpList_nil ?_
      refine then_normal ?_
      refine wp_ret ?_
      exact sym_ret1 rfl st.defers (resAt_tmp st 2) hb (fun _ h => by rw [show fmt x = [45] ++ Nm.dec (Rt.tp x) from by unfold fmt; rw [hng, hd1]; rfl]; exact h)
theorem unsg_len (l : List Nat) : (unsg l).length ≤ l.length := by
  unfold unsg
  split
  · rw [List.length_tail]; omega
  · exact Nat.le_refl _
theorem bef_len (l : List Nat) : (bef l).length ≤ l.length := (List.takeWhile_sublist _).length_le
theorem aft_len (l : List Nat) : (aft l).length ≤ l.length := by
  unfold aft
  rw [List.length_tail]
  have := (List.dropWhile_sublist (l := l) (fun c => c != 47)).length_le
  omega
set_option maxRecDepth 100000 in
theorem q_parse_b2 (l : List Nat) (h : Byt l) (hs : l.length ≤ 1000000) (hcb : ((Nm.chk (bef (unsg l)) : Int) != 0) = false) (hsl : sls (unsg l) = true) (hca : ((Nm.chk (aft (unsg l)) : Int) != 0) = false) (hone : decide (pv (aft (unsg l)) = 1) = false) (hvl : vldT (neg45 l) (pv (bef (unsg l))) (pv (aft (unsg l))) = false) : ∀ v0 w, (Fact.eq (.string (ofB l))).holds v0 w → Calls Tryd.prog 28 #[v0] w (Ret (Fact.two (Fact.agg (Con.tri 1 1 false 0 0)) (Fact.eq (.int .i64 2))) w) := by
  intro v0 w hv0
  have hsu : (unsg l).length ≤ 1000000 := Nat.le_trans (unsg_len l) hs
  have hsb : (bef (unsg l)).length ≤ 1000000 := Nat.le_trans (bef_len _) hsu
  have hsa : (aft (unsg l)).length ≤ 1000000 := Nat.le_trans (aft_len _) hsu
  refine sym_calls 60 [(0, Fact.eq (.string (ofB l)))] Tryd.func28 rfl rfl (Nat.le_of_ble_eq_true rfl) (fcs ⟨⟨Nat.le_of_ble_eq_true rfl, hv0⟩, fnl⟩) fun a st => ?_
  have hb := Below.refl w.heap.size w
  refine wp_seq ?_
  refine sym_region st [(2, Fact.var' (Con.raw 3)), (3, Fact.eq (.int .i64 0))] [2] 2 (by kernel_rfl) (by kernel_rfl) (by kernel_rfl) (Nat.le_of_ble_eq_true rfl) (by kernel_rfl) rfl rfl ?_ ?_
  · refine fcs ⟨obn_new 28 2 _ [.bool false, .slice none 0 0, .slice none 0 0] rfl rfl rfl rfl rfl alloc26, ?_⟩
    refine fcs ⟨Ob.new_ (ob_const (.int .i64 0) 3 (.inr rfl) rfl (.inl rfl) rfl) (by kernel_rfl), ?_⟩
    exact fnl
  intro a1 w1 st1 hbr1 hfr
  have hs1 := hbr1.size
  have hb := up hb hbr1
  obtain ⟨b2, c2⟩ := (show (Fact.var' (Con.raw 3)).holds _ _ from st1.at_ 2)
  have g2 := hfr.ge (s := 2) rfl c2.1
  have st : St 60 [(0, Fact.eq (.string (ofB l))), (2, Fact.cell b2 (Con.raw 3)), (3, Fact.eq (.int .i64 0))] a1 w1 := st1.to (fcs ⟨st1.at_ 0, fcs ⟨c2, fcs ⟨st1.at_ 3, fnl⟩⟩⟩)
  clear st1 hbr1 hfr c2
  refine wpList_nil ?_
  refine then_normal ?_
  refine wp_seq ?_
  refine sym_region st [(14, Fact.eq (.string (ofB l))), (15, Fact.two (Fact.eq (.string (ofB (unsg l)))) (Fact.eq (.bool (neg45 l)))), (13, Fact.two (Fact.eq (.string (ofB (unsg l)))) (Fact.eq (.bool (neg45 l)))), (16, Fact.eq (.string (ofB (unsg l)))), (17, Fact.eq (.bool (neg45 l))), (4, Fact.eq (.string (ofB (unsg l)))), (5, Fact.eq (.bool (neg45 l)))] [] 7 (by kernel_rfl) (by kernel_rfl) (by kernel_rfl) (Nat.le_of_ble_eq_true rfl) (by kernel_rfl) rfl rfl ?_ ?_
  · refine fcs ⟨Ob.new_ (ob_copy 0 14 (.inl rfl) rfl (.inl rfl) (by kernel_rfl) rfl) (by kernel_rfl), ?_⟩
    refine fcs ⟨Ob.new_ (ob_call_tc 48 14 15 (.string ⟨#[45]⟩) _ rfl rfl (.inl rfl) (by kernel_rfl) (by kernel_rfl) (t_cutPrefix l h hs)) (by kernel_rfl), ?_⟩
    refine fcs ⟨Ob.new_ (ob_copy 15 13 (.inl rfl) rfl (.inl rfl) (by kernel_rfl) rfl) (by kernel_rfl), ?_⟩
    refine fcs ⟨Ob.new_ (ob_fst 13 16 (Fact.eq (.string (ofB (unsg l)))) (Fact.eq (.bool (neg45 l))) rfl rfl (.inl rfl) (by kernel_rfl) rfl rfl) (by kernel_rfl), ?_⟩
    refine fcs ⟨Ob.new_ (ob_snd 13 17 (Fact.eq (.string (ofB (unsg l)))) (Fact.eq (.bool (neg45 l))) rfl rfl (.inl rfl) (by kernel_rfl) rfl rfl) (by kernel_rfl), ?_⟩
    refine fcs ⟨Ob.new_ (ob_copy 16 4 (.inr rfl) rfl (.inl rfl) (by kernel_rfl) rfl) (by kernel_rfl), ?_⟩
    refine fcs ⟨Ob.new_ (ob_copy 17 5 (.inr rfl) rfl (.inl rfl) (by kernel_rfl) rfl) (by kernel_rfl), ?_⟩
    exact fnl
  intro a2 w2 st2 hbr2 hfr
  have hs2 := hbr2.size
  have hb := up hb hbr2
  have st : St 60 [(2, Fact.cell b2 (Con.raw 3)), (3, Fact.eq (.int .i64 0)), (4, Fact.eq (.string (ofB (unsg l)))), (5, Fact.eq (.bool (neg45 l)))] a2 w2 := st2.to (fcs ⟨st2.at_ 2, fcs ⟨st2.at_ 3, fcs ⟨st2.at_ 4, fcs ⟨st2.at_ 5, fnl⟩⟩⟩⟩)
  clear st2 hbr2 hfr
  refine wpList_nil ?_
  refine then_normal ?_
  refine wp_seq ?_
  refine sym_region st [(19, Fact.eq (.string (ofB (unsg l)))), (20, Fact.three (Fact.eq (.string (ofB (bef (unsg l))))) (Fact.eq (.string (ofB (aft (unsg l))))) (Fact.eq (.bool true))), (18, Fact.three (Fact.eq (.string (ofB (bef (unsg l))))) (Fact.eq (.string (ofB (aft (unsg l))))) (Fact.eq (.bool true))), (21, Fact.eq (.string (ofB (bef (unsg l))))), (22, Fact.eq (.string (ofB (aft (unsg l))))), (23, Fact.eq (.bool true)), (6, Fact.eq (.string (ofB (bef (unsg l))))), (7, Fact.eq (.string (ofB (aft (unsg l))))), (8, Fact.eq (.bool true))] [] 9 (by kernel_rfl) (by kernel_rfl) (by kernel_rfl) (Nat.le_of_ble_eq_true rfl) (by kernel_rfl) rfl rfl ?_ ?_
  · refine fcs ⟨Ob.new_ (ob_copy 4 19 (.inl rfl) rfl (.inl rfl) (by kernel_rfl) rfl) (by kernel_rfl), ?_⟩
    refine fcs ⟨Ob.new_ (ob_call_tc 49 19 20 (.string ⟨#[47]⟩) _ rfl rfl (.inl rfl) (by kernel_rfl) (by kernel_rfl) (t_cutb (unsg l) h.unsg hsu true hsl)) (by kernel_rfl), ?_⟩
    refine fcs ⟨Ob.new_ (ob_copy 20 18 (.inl rfl) rfl (.inl rfl) (by kernel_rfl) rfl) (by kernel_rfl), ?_⟩
    refine fcs ⟨Ob.new_ (ob_3a 18 21 (Fact.eq (.string (ofB (bef (unsg l))))) (Fact.eq (.string (ofB (aft (unsg l))))) (Fact.eq (.bool true)) rfl rfl (.inl rfl) (by kernel_rfl) rfl rfl) (by kernel_rfl), ?_⟩
    refine fcs ⟨Ob.new_ (ob_3b 18 22 (Fact.eq (.string (ofB (bef (unsg l))))) (Fact.eq (.string (ofB (aft (unsg l))))) (Fact.eq (.bool true)) rfl rfl (.inl rfl) (by kernel_rfl) rfl rfl) (by kernel_rfl), ?_⟩
    refine fcs ⟨Ob.new_ (ob_3c 18 23 (Fact.eq (.string (ofB (bef (unsg l))))) (Fact.eq (.string (ofB (aft (unsg l))))) (Fact.eq (.bool true)) rfl rfl (.inl rfl) (by kernel_rfl) rfl rfl) (by kernel_rfl), ?_⟩
    refine fcs ⟨Ob.new_ (ob_copy 21 6 (.inr rfl) rfl (.inl rfl) (by kernel_rfl) rfl) (by kernel_rfl), ?_⟩
    refine fcs ⟨Ob.new_ (ob_copy 22 7 (.inr rfl) rfl (.inl rfl) (by kernel_rfl) rfl) (by kernel_rfl), ?_⟩
    refine fcs ⟨Ob.new_ (ob_copy 23 8 (.inr rfl) rfl (.inl rfl) (by kernel_rfl) rfl) (by kernel_rfl), ?_⟩
    exact fnl
  intro a3 w3 st3 hbr3 hfr
  have hs3 := hbr3.size
  have hb := up hb hbr3
  have st : St 60 [(2, Fact.cell b2 (Con.raw 3)), (3, Fact.eq (.int .i64 0)), (5, Fact.eq (.bool (neg45 l))), (6, Fact.eq (.string (ofB (bef (unsg l))))), (7, Fact.eq (.string (ofB (aft (unsg l))))), (8, Fact.eq (.bool true))] a3 w3 := st3.to (fcs ⟨st3.at_ 2, fcs ⟨st3.at_ 3, fcs ⟨st3.at_ 5, fcs ⟨st3.at_ 6, fcs ⟨st3.at_ 7, fcs ⟨st3.at_ 8, fnl⟩⟩⟩⟩⟩⟩)
  clear st3 hbr3 hfr
  refine wpList_nil ?_
  refine then_normal ?_
  refine wp_seq ?_
  refine sym_region st [(25, Fact.eq (.string (ofB (bef (unsg l))))), (26, Fact.two (Fact.agg (Con.nn 42 (pv (bef (unsg l))))) (Fact.eq (.int .i64 (Nm.chk (bef (unsg l)) : Int)))), (24, Fact.two (Fact.agg (Con.nn 42 (pv (bef (unsg l))))) (Fact.eq (.int .i64 (Nm.chk (bef (unsg l)) : Int)))), (27, Fact.agg (Con.nn 42 (pv (bef (unsg l))))), (28, Fact.eq (.int .i64 (Nm.chk (bef (unsg l)) : Int))), (9, Fact.var' (Con.raw 1))] [9] 6 (by kernel_rfl) (by kernel_rfl) (by kernel_rfl) (Nat.le_of_ble_eq_true rfl) (by kernel_rfl) rfl rfl ?_ ?_
  · refine fcs ⟨Ob.new_ (ob_copy 6 25 (.inl rfl) rfl (.inl rfl) (by kernel_rfl) rfl) (by kernel_rfl), ?_⟩
    refine fcs ⟨Ob.new_ (ob_call1 50 25 26 _ rfl rfl (.inl rfl) (by kernel_rfl) (by kernel_rfl) (n_parse (bef (unsg l)) h.unsg.bef hsb)) (by kernel_rfl), ?_⟩
    refine fcs ⟨Ob.new_ (ob_copy 26 24 (.inl rfl) rfl (.inl rfl) (by kernel_rfl) rfl) (by kernel_rfl), ?_⟩
    refine fcs ⟨Ob.new_ (ob_fst 24 27 (Fact.agg (Con.nn 42 (pv (bef (unsg l))))) (Fact.eq (.int .i64 (Nm.chk (bef (unsg l)) : Int))) rfl rfl (.inl rfl) (by kernel_rfl) rfl rfl) (by kernel_rfl), ?_⟩
    refine fcs ⟨Ob.new_ (ob_snd 24 28 (Fact.agg (Con.nn 42 (pv (bef (unsg l))))) (Fact.eq (.int .i64 (Nm.chk (bef (unsg l)) : Int))) rfl rfl (.inl rfl) (by kernel_rfl) rfl rfl) (by kernel_rfl), ?_⟩
    refine fcs ⟨obn_new 24 9 _ [.slice none 0 0] rfl rfl rfl rfl rfl alloc24, ?_⟩
    exact fnl
  intro a4 w4 st4 hbr4 hfr
  have hs4 := hbr4.size
  have hb := up hb hbr4
  obtain ⟨b9, c9⟩ := (show (Fact.var' (Con.raw 1)).holds _ _ from st4.at_ 9)
  have g9 := hfr.ge (s := 9) rfl c9.1
  have st : St 60 [(2, Fact.cell b2 (Con.raw 3)), (3, Fact.eq (.int .i64 0)), (5, Fact.eq (.bool (neg45 l))), (7, Fact.eq (.string (ofB (aft (unsg l))))), (8, Fact.eq (.bool true)), (27, Fact.agg (Con.nn 42 (pv (bef (unsg l))))), (28, Fact.eq (.int .i64 (Nm.chk (bef (unsg l)) : Int))), (9, Fact.cell b9 (Con.raw 1))] a4 w4 := st4.to (fcs ⟨st4.at_ 2, fcs ⟨st4.at_ 3, fcs ⟨st4.at_ 5, fcs ⟨st4.at_ 7, fcs ⟨st4.at_ 8, fcs ⟨st4.at_ 27, fcs ⟨st4.at_ 28, fcs ⟨c9, fnl⟩⟩⟩⟩⟩⟩⟩⟩)
  clear st4 hbr4 hfr c9
  refine sym_store st 24 9 27 b9 (Con.raw 1) (Con.nn 42 (pv (bef (unsg l)))) [(2, Fact.cell b2 (Con.raw 3)), (3, Fact.eq (.int .i64 0)), (5, Fact.eq (.bool (neg45 l))), (7, Fact.eq (.string (ofB (aft (unsg l))))), (8, Fact.eq (.bool true)), (28, Fact.eq (.int .i64 (Nm.chk (bef (unsg l)) : Int))), (9, Fact.cell b9 (Con.nn 42 (pv (bef (unsg l)))))] rfl rfl rfl rfl rfl rfl info24 ?_ ?_
  · exact fcs ⟨.inr ⟨rfl, safe_cell _ (by omega)⟩, fcs ⟨.inr ⟨rfl, safe_eq _ _⟩, fcs ⟨.inr ⟨rfl, safe_eq _ _⟩, fcs ⟨.inr ⟨rfl, safe_eq _ _⟩, fcs ⟨.inr ⟨rfl, safe_eq _ _⟩, fcs ⟨.inr ⟨rfl, safe_eq _ _⟩, fcs ⟨.inl rfl, fnl⟩⟩⟩⟩⟩⟩⟩
  clear st; intro w5 hB hsz5 st
  have hb := hB _ _ hb (by omega) (by omega)
  clear hB
  refine sym_op st 10 (Fact.eq (.int .i64 (Nm.chk (bef (unsg l)) : Int))) rfl (Nat.le_of_ble_eq_true rfl) rfl rfl (by kernel_rfl) (ob_copy 28 10 (.inr rfl) rfl (.inl rfl) (by kernel_rfl) rfl) ?_
  clear st; intro a6 w6 hbr st; have hs6 := hbr.size; have hb := up hb hbr; clear hbr
  refine wpList_nil ?_
  refine then_normal ?_
  refine wp_seq ?_
  refine wp_seq ?_
  refine sym_region st [(29, Fact.eq (.int .i64 (Nm.chk (bef (unsg l)) : Int))), (30, Fact.eq (.bool false))] [] 2 (by kernel_rfl) (by kernel_rfl) (by kernel_rfl) (Nat.le_of_ble_eq_true rfl) (by kernel_rfl) rfl rfl ?_ ?_
  · refine fcs ⟨Ob.new_ (ob_copy 10 29 (.inl rfl) rfl (.inl rfl) (by kernel_rfl) rfl) (by kernel_rfl), ?_⟩
    refine fcs ⟨Ob.new_ (ob_nec 29 30 .i64 29 _ (Nm.chk (bef (unsg l)) : Int) 0 false hcb rfl rfl (.inl rfl) (by kernel_rfl) rfl rfl) (by kernel_rfl), ?_⟩
    exact fnl
  intro a7 w7 st7 hbr7 hfr
  have hs7 := hbr7.size
  have hb := up hb hbr7
  have st : St 60 [(2, Fact.cell b2 (Con.raw 3)), (3, Fact.eq (.int .i64 0)), (5, Fact.eq (.bool (neg45 l))), (7, Fact.eq (.string (ofB (aft (unsg l))))), (8, Fact.eq (.bool true)), (9, Fact.cell b9 (Con.nn 42 (pv (bef (unsg l))))), (10, Fact.eq (.int .i64 (Nm.chk (bef (unsg l)) : Int))), (30, Fact.eq (.bool false))] a7 w7 := st7.to (fcs ⟨st7.at_ 2, fcs ⟨st7.at_ 3, fcs ⟨st7.at_ 5, fcs ⟨st7.at_ 7, fcs ⟨st7.at_ 8, fcs ⟨st7.at_ 9, fcs ⟨st7.at_ 10, fcs ⟨st7.at_ 30, fnl⟩⟩⟩⟩⟩⟩⟩⟩)
  clear st7 hbr7 hfr
  refine wpList_nil ?_
  refine then_normal ?_
  refine wp_cond_false (st.at_ 30) ?_
  refine wp_skip ?_
  refine then_normal ?_
  refine wp_seq ?_
  refine sym_region st [(33, Fact.agg (Con.nn 1 1)), (11, Fact.var' (Con.raw 1))] [11] 2 (by kernel_rfl) (by kernel_rfl) (by kernel_rfl) (Nat.le_of_ble_eq_true rfl) (by kernel_rfl) rfl rfl ?_ ?_
  · refine fcs ⟨Ob.new_ (ob_callc 27 _ 33 _ rfl rfl (.inl rfl) (by kernel_rfl) (n_of 1 1 (by decide) (by unfold Nm.Sz; decide) (by decide))) (by kernel_rfl), ?_⟩
    refine fcs ⟨obn_new 24 11 _ [.slice none 0 0] rfl rfl rfl rfl rfl alloc24, ?_⟩
    exact fnl
  intro a8 w8 st8 hbr8 hfr
  have hs8 := hbr8.size
  have hb := up hb hbr8
  obtain ⟨b11, c11⟩ := (show (Fact.var' (Con.raw 1)).holds _ _ from st8.at_ 11)
  have g11 := hfr.ge (s := 11) rfl c11.1
  have st : St 60 [(2, Fact.cell b2 (Con.raw 3)), (3, Fact.eq (.int .i64 0)), (5, Fact.eq (.bool (neg45 l))), (7, Fact.eq (.string (ofB (aft (unsg l))))), (8, Fact.eq (.bool true)), (9, Fact.cell b9 (Con.nn 42 (pv (bef (unsg l))))), (10, Fact.eq (.int .i64 (Nm.chk (bef (unsg l)) : Int))), (33, Fact.agg (Con.nn 1 1)), (11, Fact.cell b11 (Con.raw 1))] a8 w8 := st8.to (fcs ⟨st8.at_ 2, fcs ⟨st8.at_ 3, fcs ⟨st8.at_ 5, fcs ⟨st8.at_ 7, fcs ⟨st8.at_ 8, fcs ⟨st8.at_ 9, fcs ⟨st8.at_ 10, fcs ⟨st8.at_ 33, fcs ⟨c11, fnl⟩⟩⟩⟩⟩⟩⟩⟩⟩)
  clear st8 hbr8 hfr c11
  refine sym_store st 24 11 33 b11 (Con.raw 1) (Con.nn 1 1) [(2, Fact.cell b2 (Con.raw 3)), (3, Fact.eq (.int .i64 0)), (5, Fact.eq (.bool (neg45 l))), (7, Fact.eq (.string (ofB (aft (unsg l))))), (8, Fact.eq (.bool true)), (9, Fact.cell b9 (Con.nn 42 (pv (bef (unsg l))))), (10, Fact.eq (.int .i64 (Nm.chk (bef (unsg l)) : Int))), (11, Fact.cell b11 (Con.nn 1 1))] rfl rfl rfl rfl rfl rfl info24 ?_ ?_
  · exact fcs ⟨.inr ⟨rfl, safe_cell _ (by omega)⟩, fcs ⟨.inr ⟨rfl, safe_eq _ _⟩, fcs ⟨.inr ⟨rfl, safe_eq _ _⟩, fcs ⟨.inr ⟨rfl, safe_eq _ _⟩, fcs ⟨.inr ⟨rfl, safe_eq _ _⟩, fcs ⟨.inr ⟨rfl, safe_cell _ (by omega)⟩, fcs ⟨.inr ⟨rfl, safe_eq _ _⟩, fcs ⟨.inl rfl, fnl⟩⟩⟩⟩⟩⟩⟩⟩
  clear st; intro w9 hB hsz9 st
  have hb := hB _ _ hb (by omega) (by omega)
  clear hB
  refine wpList_nil ?_
  refine then_normal ?_
  refine wp_seq ?_
  refine wp_seq ?_
  refine sym_region st [(34, Fact.eq (.bool true))] [] 1 (by kernel_rfl) (by kernel_rfl) (by kernel_rfl) (Nat.le_of_ble_eq_true rfl) (by kernel_rfl) rfl rfl ?_ ?_
  · refine fcs ⟨Ob.new_ (ob_copy 8 34 (.inl rfl) rfl (.inl rfl) (by kernel_rfl) rfl) (by kernel_rfl), ?_⟩
    exact fnl
  intro a10 w10 st10 hbr10 hfr
  have hs10 := hbr10.size
  have hb := up hb hbr10
  have st : St 60 [(2, Fact.cell b2 (Con.raw 3)), (3, Fact.eq (.int .i64 0)), (5, Fact.eq (.bool (neg45 l))), (7, Fact.eq (.string (ofB (aft (unsg l))))), (8, Fact.eq (.bool true)), (9, Fact.cell b9 (Con.nn 42 (pv (bef (unsg l))))), (10, Fact.eq (.int .i64 (Nm.chk (bef (unsg l)) : Int))), (11, Fact.cell b11 (Con.nn 1 1)), (34, Fact.eq (.bool true))] a10 w10 := st10.to (fcs ⟨st10.at_ 2, fcs ⟨st10.at_ 3, fcs ⟨st10.at_ 5, fcs ⟨st10.at_ 7, fcs ⟨st10.at_ 8, fcs ⟨st10.at_ 9, fcs ⟨st10.at_ 10, fcs ⟨st10.at_ 11, fcs ⟨st10.at_ 34, fnl⟩⟩⟩⟩⟩⟩⟩⟩⟩)
  clear st10 hbr10 hfr
  refine wpList_nil ?_
  refine then_normal ?_
  refine wp_cond_true (st.at_ 34) ?_
  refine wp_seq ?_
  have st := st.to (ks' := [(2, Fact.cell b2 (Con.raw 3)), (3, Fact.eq (.int .i64 0)), (5, Fact.eq (.bool (neg45 l))), (7, Fact.eq (.string (ofB (aft (unsg l))))), (8, Fact.eq (.bool true)), (9, Fact.cell b9 (Con.nn 42 (pv (bef (unsg l))))), (11, Fact.cell b11 (Con.nn 1 1)), (34, Fact.eq (.bool true))]) (fcs ⟨st.at_ 2, fcs ⟨st.at_ 3, fcs ⟨st.at_ 5, fcs ⟨st.at_ 7, fcs ⟨st.at_ 8, fcs ⟨st.at_ 9, fcs ⟨st.at_ 11, fcs ⟨st.at_ 34, fnl⟩⟩⟩⟩⟩⟩⟩⟩)
  refine sym_region st [(36, Fact.eq (.string (ofB (aft (unsg l))))), (37, Fact.two (Fact.agg (Con.nn 42 (pv (aft (unsg l))))) (Fact.eq (.int .i64 (Nm.chk (aft (unsg l)) : Int)))), (35, Fact.two (Fact.agg (Con.nn 42 (pv (aft (unsg l))))) (Fact.eq (.int .i64 (Nm.chk (aft (unsg l)) : Int)))), (38, Fact.agg (Con.nn 42 (pv (aft (unsg l))))), (39, Fact.eq (.int .i64 (Nm.chk (aft (unsg l)) : Int)))] [] 5 (by kernel_rfl) (by kernel_rfl) (by kernel_rfl) (Nat.le_of_ble_eq_true rfl) (by kernel_rfl) rfl rfl ?_ ?_
  · refine fcs ⟨Ob.new_ (ob_copy 7 36 (.inl rfl) rfl (.inl rfl) (by kernel_rfl) rfl) (by kernel_rfl), ?_⟩
    refine fcs ⟨Ob.new_ (ob_call1 50 36 37 _ rfl rfl (.inl rfl) (by kernel_rfl) (by kernel_rfl) (n_parse (aft (unsg l)) h.unsg.aft hsa)) (by kernel_rfl), ?_⟩
    refine fcs ⟨Ob.new_ (ob_copy 37 35 (.inl rfl) rfl (.inl rfl) (by kernel_rfl) rfl) (by kernel_rfl), ?_⟩
    refine fcs ⟨Ob.new_ (ob_fst 35 38 (Fact.agg (Con.nn 42 (pv (aft (unsg l))))) (Fact.eq (.int .i64 (Nm.chk (aft (unsg l)) : Int))) rfl rfl (.inl rfl) (by kernel_rfl) rfl rfl) (by kernel_rfl), ?_⟩
    refine fcs ⟨Ob.new_ (ob_snd 35 39 (Fact.agg (Con.nn 42 (pv (aft (unsg l))))) (Fact.eq (.int .i64 (Nm.chk (aft (unsg l)) : Int))) rfl rfl (.inl rfl) (by kernel_rfl) rfl rfl) (by kernel_rfl), ?_⟩
    exact fnl
  intro a11 w11 st11 hbr11 hfr
  have hs11 := hbr11.size
  have hb := up hb hbr11
  have st : St 60 [(2, Fact.cell b2 (Con.raw 3)), (3, Fact.eq (.int .i64 0)), (5, Fact.eq (.bool (neg45 l))), (8, Fact.eq (.bool true)), (9, Fact.cell b9 (Con.nn 42 (pv (bef (unsg l))))), (11, Fact.cell b11 (Con.nn 1 1)), (38, Fact.agg (Con.nn 42 (pv (aft (unsg l))))), (39, Fact.eq (.int .i64 (Nm.chk (aft (unsg l)) : Int)))] a11 w11 := st11.to (fcs ⟨st11.at_ 2, fcs ⟨st11.at_ 3, fcs ⟨st11.at_ 5, fcs ⟨st11.at_ 8, fcs ⟨st11.at_ 9, fcs ⟨st11.at_ 11, fcs ⟨st11.at_ 38, fcs ⟨st11.at_ 39, fnl⟩⟩⟩⟩⟩⟩⟩⟩)
  clear st11 hbr11 hfr
  refine sym_store st 24 11 38 b11 (Con.nn 1 1) (Con.nn 42 (pv (aft (unsg l)))) [(2, Fact.cell b2 (Con.raw 3)), (3, Fact.eq (.int .i64 0)), (5, Fact.eq (.bool (neg45 l))), (8, Fact.eq (.bool true)), (9, Fact.cell b9 (Con.nn 42 (pv (bef (unsg l))))), (11, Fact.cell b11 (Con.nn 42 (pv (aft (unsg l))))), (39, Fact.eq (.int .i64 (Nm.chk (aft (unsg l)) : Int)))] rfl rfl rfl rfl rfl rfl info24 ?_ ?_
  · exact fcs ⟨.inr ⟨rfl, safe_cell _ (by omega)⟩, fcs ⟨.inr ⟨rfl, safe_eq _ _⟩, fcs ⟨.inr ⟨rfl, safe_eq _ _⟩, fcs ⟨.inr ⟨rfl, safe_eq _ _⟩, fcs ⟨.inr ⟨rfl, safe_cell _ (by omega)⟩, fcs ⟨.inl rfl, fcs ⟨.inr ⟨rfl, safe_eq _ _⟩, fnl⟩⟩⟩⟩⟩⟩⟩
  clear st; intro w12 hB hsz12 st
  have hb := hB _ _ hb (by omega) (by omega)
  clear hB
  refine sym_op st 10 (Fact.eq (.int .i64 (Nm.chk (aft (unsg l)) : Int))) rfl (Nat.le_of_ble_eq_true rfl) rfl rfl (by kernel_rfl) (ob_copy 39 10 (.inr rfl) rfl (.inl rfl) (by kernel_rfl) rfl) ?_
  clear st; intro a13 w13 hbr st; have hs13 := hbr.size; have hb := up hb hbr; clear hbr
  refine wpList_nil ?_
  refine then_normal ?_
  refine wp_seq ?_
  refine sym_region st [(40, Fact.eq (.int .i64 (Nm.chk (aft (unsg l)) : Int))), (41, Fact.eq (.bool false))] [] 2 (by kernel_rfl) (by kernel_rfl) (by kernel_rfl) (Nat.le_of_ble_eq_true rfl) (by kernel_rfl) rfl rfl ?_ ?_
  · refine fcs ⟨Ob.new_ (ob_copy 10 40 (.inl rfl) rfl (.inl rfl) (by kernel_rfl) rfl) (by kernel_rfl), ?_⟩
    refine fcs ⟨Ob.new_ (ob_nec 40 41 .i64 29 _ (Nm.chk (aft (unsg l)) : Int) 0 false hca rfl rfl (.inl rfl) (by kernel_rfl) rfl rfl) (by kernel_rfl), ?_⟩
    exact fnl
  intro a14 w14 st14 hbr14 hfr
  have hs14 := hbr14.size
  have hb := up hb hbr14
  have st : St 60 [(2, Fact.cell b2 (Con.raw 3)), (3, Fact.eq (.int .i64 0)), (5, Fact.eq (.bool (neg45 l))), (8, Fact.eq (.bool true)), (9, Fact.cell b9 (Con.nn 42 (pv (bef (unsg l))))), (11, Fact.cell b11 (Con.nn 42 (pv (aft (unsg l))))), (10, Fact.eq (.int .i64 (Nm.chk (aft (unsg l)) : Int))), (41, Fact.eq (.bool false))] a14 w14 := st14.to (fcs ⟨st14.at_ 2, fcs ⟨st14.at_ 3, fcs ⟨st14.at_ 5, fcs ⟨st14.at_ 8, fcs ⟨st14.at_ 9, fcs ⟨st14.at_ 11, fcs ⟨st14.at_ 10, fcs ⟨st14.at_ 41, fnl⟩⟩⟩⟩⟩⟩⟩⟩)
  clear st14 hbr14 hfr
  refine wpList_nil ?_
  refine then_normal ?_
  refine wp_cond_false (st.at_ 41) ?_
  refine wp_skip ?_
  refine then_normal ?_
  refine wp_seq ?_
  refine sym_region st [(44, Fact.eq (.bool (neg45 l))), (45, Fact.agg (Con.nn 42 (pv (bef (unsg l))))), (46, Fact.agg (Con.nn 42 (pv (aft (unsg l))))), (47, Fact.agg (Con.tri 42 42 (neg45 l) (pv (bef (unsg l))) (pv (aft (unsg l))))), (12, Fact.var' (Con.raw 3))] [12] 5 (by kernel_rfl) (by kernel_rfl) (by kernel_rfl) (Nat.le_of_ble_eq_true rfl) (by kernel_rfl) rfl rfl ?_ ?_
  · refine fcs ⟨Ob.new_ (ob_copy 5 44 (.inl rfl) rfl (.inl rfl) (by kernel_rfl) rfl) (by kernel_rfl), ?_⟩
    refine fcs ⟨Ob.new_ (ob_read 24 9 45 (Con.nn 42 (pv (bef (unsg l)))) rfl rfl (.inl rfl) (by kernel_rfl) points_cell rfl row24 info24) (by kernel_rfl), ?_⟩
    refine fcs ⟨Ob.new_ (ob_read 24 11 46 (Con.nn 42 (pv (aft (unsg l)))) rfl rfl (.inl rfl) (by kernel_rfl) points_cell rfl row24 info24) (by kernel_rfl), ?_⟩
    refine fcs ⟨Ob.new_ (ob_buildtri 44 45 46 47 42 42 (pv (bef (unsg l))) (pv (aft (unsg l))) (neg45 l) rfl rfl (.inl rfl) (by kernel_rfl) (by kernel_rfl) (by kernel_rfl) rfl rfl rfl rfl) (by kernel_rfl), ?_⟩
    refine fcs ⟨obn_new 28 12 _ [.bool false, .slice none 0 0, .slice none 0 0] rfl rfl rfl rfl rfl alloc26, ?_⟩
    exact fnl
  intro a15 w15 st15 hbr15 hfr
  have hs15 := hbr15.size
  have hb := up hb hbr15
  obtain ⟨b12, c12⟩ := (show (Fact.var' (Con.raw 3)).holds _ _ from st15.at_ 12)
  have g12 := hfr.ge (s := 12) rfl c12.1
  have st : St 60 [(2, Fact.cell b2 (Con.raw 3)), (3, Fact.eq (.int .i64 0)), (8, Fact.eq (.bool true)), (11, Fact.cell b11 (Con.nn 42 (pv (aft (unsg l))))), (47, Fact.agg (Con.tri 42 42 (neg45 l) (pv (bef (unsg l))) (pv (aft (unsg l))))), (12, Fact.cell b12 (Con.raw 3))] a15 w15 := st15.to (fcs ⟨st15.at_ 2, fcs ⟨st15.at_ 3, fcs ⟨st15.at_ 8, fcs ⟨st15.at_ 11, fcs ⟨st15.at_ 47, fcs ⟨c12, fnl⟩⟩⟩⟩⟩⟩)
  clear st15 hbr15 hfr c12
  refine sym_store st 28 12 47 b12 (Con.raw 3) (Con.tri 42 42 (neg45 l) (pv (bef (unsg l))) (pv (aft (unsg l)))) [(2, Fact.cell b2 (Con.raw 3)), (3, Fact.eq (.int .i64 0)), (8, Fact.eq (.bool true)), (11, Fact.cell b11 (Con.nn 42 (pv (aft (unsg l))))), (12, Fact.cell b12 (Con.tri 42 42 (neg45 l) (pv (bef (unsg l))) (pv (aft (unsg l)))))] rfl rfl rfl rfl rfl rfl info26 ?_ ?_
  · exact fcs ⟨.inr ⟨rfl, safe_cell _ (by omega)⟩, fcs ⟨.inr ⟨rfl, safe_eq _ _⟩, fcs ⟨.inr ⟨rfl, safe_eq _ _⟩, fcs ⟨.inr ⟨rfl, safe_cell _ (by omega)⟩, fcs ⟨.inl rfl, fnl⟩⟩⟩⟩⟩
  clear st; intro w16 hB hsz16 st
  have hb := hB _ _ hb (by omega) (by omega)
  clear hB
  refine wpList_nil ?_
  refine then_normal ?_
  refine wp_seq ?_
  refine wp_seq ?_
  refine sym_region st [(48, Fact.eq (.bool true)), (49, Fact.eq (.bool true)), (50, Fact.agg (Con.nn 42 (pv (aft (unsg l))))), (51, Fact.eq (.bool false)), (52, Fact.eq (.bool false)), (53, Fact.eq (.bool false)), (54, Fact.agg (Con.tri 42 42 (neg45 l) (pv (bef (unsg l))) (pv (aft (unsg l))))), (55, Fact.eq (.bool false)), (56, Fact.eq (.bool true)), (57, Fact.eq (.bool true))] [] 10 (by kernel_rfl) (by kernel_rfl) (by kernel_rfl) (Nat.le_of_ble_eq_true rfl) (by kernel_rfl) rfl rfl ?_ ?_
  · refine fcs ⟨Ob.new_ (ob_copy 8 48 (.inl rfl) rfl (.inl rfl) (by kernel_rfl) rfl) (by kernel_rfl), ?_⟩
    refine fcs ⟨Ob.new_ (ob_copy 48 49 (.inl rfl) rfl (.inl rfl) (by kernel_rfl) rfl) (by kernel_rfl), ?_⟩
    refine fcs ⟨Ob.new_ (ob_read 24 11 50 (Con.nn 42 (pv (aft (unsg l)))) rfl rfl (.inr ⟨_, _, _, rfl, rfl, by kernel_rfl, by decide, rfl⟩) (by kernel_rfl) points_cell rfl row24 info24) (by kernel_rfl), ?_⟩
    refine fcs ⟨Ob.new_ (ob_call1 38 50 51 _ rfl rfl (.inr ⟨_, _, _, rfl, rfl, by kernel_rfl, by decide, rfl⟩) (by kernel_rfl) (by kernel_rfl) (q_isOne 42 (pv (aft (unsg l))) false hone)) (by kernel_rfl), ?_⟩
    refine fcs ⟨Ob.new_ (ob_pick 49 51 52 _ rfl rfl (.inl rfl) (by kernel_rfl) (by kernel_rfl) rfl rfl) (by kernel_rfl), ?_⟩
    refine fcs ⟨Ob.new_ (ob_copy 52 53 (.inl rfl) rfl (.inl rfl) (by kernel_rfl) rfl) (by kernel_rfl), ?_⟩
    refine fcs ⟨Ob.new_ (ob_read 28 12 54 (Con.tri 42 42 (neg45 l) (pv (bef (unsg l))) (pv (aft (unsg l)))) rfl rfl (.inr ⟨_, _, _, rfl, rfl, by kernel_rfl, by decide, rfl⟩) (by kernel_rfl) points_cell rfl row26 info26) (by kernel_rfl), ?_⟩
    refine fcs ⟨Ob.new_ (ob_call1 16 54 55 _ rfl rfl (.inr ⟨_, _, _, rfl, rfl, by kernel_rfl, by decide, rfl⟩) (by kernel_rfl) (by kernel_rfl) (q_valid_tri 42 42 (neg45 l) (pv (bef (unsg l))) (pv (aft (unsg l))) (by omega) (by omega) false hvl)) (by kernel_rfl), ?_⟩
    refine fcs ⟨Ob.new_ (ob_not 55 56 false true rfl rfl rfl (.inr ⟨_, _, _, rfl, rfl, by kernel_rfl, by decide, rfl⟩) (by kernel_rfl) rfl rfl) (by kernel_rfl), ?_⟩
    refine fcs ⟨Ob.new_ (ob_pick_else 53 56 57 (.bool true) rfl rfl (.inl rfl) (by kernel_rfl) (by kernel_rfl) rfl rfl) (by kernel_rfl), ?_⟩
    exact fnl
  intro a17 w17 st17 hbr17 hfr
  have hs17 := hbr17.size
  have hb := up hb hbr17
  have st : St 60 [(2, Fact.cell b2 (Con.raw 3)), (3, Fact.eq (.int .i64 0)), (12, Fact.cell b12 (Con.tri 42 42 (neg45 l) (pv (bef (unsg l))) (pv (aft (unsg l))))), (57, Fact.eq (.bool true))] a17 w17 := st17.to (fcs ⟨st17.at_ 2, fcs ⟨st17.at_ 3, fcs ⟨st17.at_ 12, fcs ⟨st17.at_ 57, fnl⟩⟩⟩⟩)
  clear st17 hbr17 hfr
  refine wpList_nil ?_
  refine then_normal ?_
  refine wp_cond_true (st.at_ 57) ?_
  refine wp_seq ?_
  have st := st.to (ks' := [(2, Fact.cell b2 (Con.raw 3)), (12, Fact.cell b12 (Con.tri 42 42 (neg45 l) (pv (bef (unsg l))) (pv (aft (unsg l))))), (57, Fact.eq (.bool true))]) (fcs ⟨st.at_ 2, fcs ⟨st.at_ 12, fcs ⟨st.at_ 57, fnl⟩⟩⟩)
  refine sym_region st [(58, Fact.agg (Con.tri 1 1 false 0 0))] [] 1 (by kernel_rfl) (by kernel_rfl) (by kernel_rfl) (Nat.le_of_ble_eq_true rfl) (by kernel_rfl) rfl rfl ?_ ?_
  · refine fcs ⟨Ob.new_ (ob_buildzero 58 rfl rfl (.inl rfl) rfl) (by kernel_rfl), ?_⟩
    exact fnl
  intro a18 w18 st18 hbr18 hfr
  have hs18 := hbr18.size
  have hb := up hb hbr18
  have st : St 60 [(2, Fact.cell b2 (Con.raw 3)), (12, Fact.cell b12 (Con.tri 42 42 (neg45 l) (pv (bef (unsg l))) (pv (aft (unsg l))))), (58, Fact.agg (Con.tri 1 1 false 0 0))] a18 w18 := st18.to (fcs ⟨st18.at_ 2, fcs ⟨st18.at_ 12, fcs ⟨st18.at_ 58, fnl⟩⟩⟩)
  clear st18 hbr18 hfr
  refine sym_store st 28 2 58 b2 (Con.raw 3) (Con.tri 1 1 false 0 0) [(2, Fact.cell b2 (Con.tri 1 1 false 0 0)), (12, Fact.cell b12 (Con.tri 42 42 (neg45 l) (pv (bef (unsg l))) (pv (aft (unsg l)))))] rfl rfl rfl rfl rfl rfl info26 ?_ ?_
  · exact fcs ⟨.inl rfl, fcs ⟨.inr ⟨rfl, safe_cell _ (by omega)⟩, fnl⟩⟩
  clear st; intro w19 hB hsz19 st
  have hb := hB _ _ hb (by omega) (by omega)
  clear hB
  refine sym_op st 3 (Fact.eq (.int .i64 2)) rfl (Nat.le_of_ble_eq_true rfl) rfl rfl (by kernel_rfl) (ob_const (.int .i64 2) 3 (.inr rfl) rfl (.inl rfl) rfl) ?_
  clear st; intro a20 w20 hbr st; have hs20 := hbr.size; have hb := up hb hbr; clear hbr
  refine wpList_nil ?_
  refine then_normal ?_
  refine wp_ret ?_
  exact sym_ret2 rfl st.defers (resAt_cell st 2 b2 28 (Con.tri 1 1 false 0 0) rfl row26 info26) (resAt_tmp st 3) hb (fun v u h1 h2 => ⟨v, u, rfl, h1, h2⟩)
end Go.Proofs.YtjfehdkfogdpgaaDoor
namespace Go.Proofs.YtjfehdkfogdpgaaDoor
open Go.RowKit
theorem dec_sz {k p : Nat} (hk : k ≤ 41) (h : Nm.Sz k p) : (Nm.dec p).length ≤ 400 := by
  have h1 : (4294967296 : Nat) ^ 41 < 10 ^ 400 := by decide +kernel
  have h2 : 4294967296 ^ k ≤ 4294967296 ^ 41 := Nat.pow_le_pow_right (by decide) hk
  exact Nat.le_of_not_lt (Nm.dec_short (Nat.lt_of_lt_of_le h (Nat.le_trans h2 (Nat.le_of_lt h1))))
theorem q_formatk (k : Nat) (x : Rat) (hk : k ≤ 41) (l : List Nat) (hl : fmt x = l) : ∀ v w, (Fact.agg (Con.fr k x)).holds v w → Calls Tryd.prog 31 #[v] w (Ret (Fact.eq (.string (ofB l))) w) := by
  intro v w hv
  have z := Fact.fr_sz hv
  have h1 := dec_sz hk z.1
  have h2 := dec_sz hk z.2
  subst hl
  exact q_format k x (by omega) (by omega) v w hv
theorem q_floorb (k : Nat) (x : Rat) (hk : k + 1 ≤ 400) (n : Int) (b : Bool) (hn : asI x.floor = n) (hb : fitsI x.floor = b) : ∀ v w, (Fact.agg (Con.fr k x)).holds v w → Calls Tryd.prog 29 #[v] w (Ret (Fact.two (Fact.eq (.int .i64 n)) (Fact.eq (.bool b))) w) := by
  subst hn hb; exact q_floor k x hk
theorem q_ratio_c (n m : Int) (h : -9223372036854775808 ≤ n ∧ n ≤ 9223372036854775807) (h2 : -9223372036854775808 ≤ m ∧ m ≤ 9223372036854775807) (hm : Int.natAbs m ≠ 0) (x : Rat) (hx : Rt.of ((decide (n < 0)) != (decide (m < 0))) (Int.natAbs n) (Int.natAbs m) = x) : ∀ w, Calls Tryd.prog 6 #[.int .i64 n, .int .i64 m] w (Ret (Fact.two (Fact.fr 2 x) (Fact.eq (.int .i64 0))) w) := by
  subst hx; exact fun w => q_ratio_of n m h h2 hm _ _ w rfl rfl
theorem q_ratio_c0 (n m : Int) (h : -9223372036854775808 ≤ n ∧ n ≤ 9223372036854775807) (h2 : -9223372036854775808 ≤ m ∧ m ≤ 9223372036854775807) (hm : Int.natAbs m = 0) : ∀ w, Calls Tryd.prog 6 #[.int .i64 n, .int .i64 m] w (Ret (Fact.two (Fact.agg (Con.tri 1 1 false 0 0)) (Fact.eq (.int .i64 8))) w) := fun w => q_ratio0 n m h h2 hm _ _ w rfl rfl
theorem byt_lit {l : List Nat} (h : l.all (fun c => decide (c < 256)) = true) : Byt l := fun c hc => of_decide_eq_true (List.all_eq_true.1 h c hc)
set_option maxRecDepth 100000 in
theorem w_awake  : ∀ w, Calls Tryd.prog 12 #[] w (Ret (Fact.eq (.bool true)) w) := by
  intro w
  refine sym_calls 77 [] Tryd.func12 rfl rfl (Nat.le_of_ble_eq_true rfl) (fnl) fun a st => ?_
  have hb := Below.refl w.heap.size w
  refine wp_seq ?_
  refine sym_region st [(0, Fact.eq (.bool false))] [] 1 (by kernel_rfl) (by kernel_rfl) (by kernel_rfl) (Nat.le_of_ble_eq_true rfl) (by kernel_rfl) rfl rfl ?_ ?_
  · refine fcs ⟨Ob.new_ (ob_const (.bool false) 0 (.inr rfl) rfl (.inl rfl) rfl) (by kernel_rfl), ?_⟩
    exact fnl
  intro a1 w1 st1 hbr1 hfr
  have hs1 := hbr1.size
  have hb := up hb hbr1
  have st : St 77 [(0, Fact.eq (.bool false))] a1 w1 := st1.to (fcs ⟨st1.at_ 0, fnl⟩)
  clear st1 hbr1 hfr
  refine wpList_nil ?_
  refine then_normal ?_
  refine wp_seq ?_
  refine sym_region st [(14, Fact.two (Fact.agg (Con.fr 2 (1 / 3 : Rat))) (Fact.eq (.int .i64 0))), (13, Fact.two (Fact.agg (Con.fr 2 (1 / 3 : Rat))) (Fact.eq (.int .i64 0))), (15, Fact.agg (Con.fr 2 (1 / 3 : Rat))), (16, Fact.eq (.int .i64 0)), (1, Fact.var' (Con.raw 3))] [1] 5 (by kernel_rfl) (by kernel_rfl) (by kernel_rfl) (Nat.le_of_ble_eq_true rfl) (by kernel_rfl) rfl rfl ?_ ?_
  · refine fcs ⟨Ob.new_ (ob_call_cc 6 14 (.int .i64 1) (.int .i64 3) _ rfl rfl (.inl rfl) (by kernel_rfl) (q_ratio_c (1) (3) (by decide) (by decide) (by decide) (1 / 3 : Rat) (by kernel_rfl))) (by kernel_rfl), ?_⟩
    refine fcs ⟨Ob.new_ (ob_copy 14 13 (.inl rfl) rfl (.inl rfl) (by kernel_rfl) rfl) (by kernel_rfl), ?_⟩
    refine fcs ⟨Ob.new_ (ob_fst 13 15 (Fact.agg (Con.fr 2 (1 / 3 : Rat))) (Fact.eq (.int .i64 0)) rfl rfl (.inl rfl) (by kernel_rfl) rfl rfl) (by kernel_rfl), ?_⟩
    refine fcs ⟨Ob.new_ (ob_snd 13 16 (Fact.agg (Con.fr 2 (1 / 3 : Rat))) (Fact.eq (.int .i64 0)) rfl rfl (.inl rfl) (by kernel_rfl) rfl rfl) (by kernel_rfl), ?_⟩
    refine fcs ⟨obn_new 28 1 _ [.bool false, .slice none 0 0, .slice none 0 0] rfl rfl rfl rfl rfl alloc26, ?_⟩
    exact fnl
  intro a2 w2 st2 hbr2 hfr
  have hs2 := hbr2.size
  have hb := up hb hbr2
  obtain ⟨b1, c1⟩ := (show (Fact.var' (Con.raw 3)).holds _ _ from st2.at_ 1)
  have g1 := hfr.ge (s := 1) rfl c1.1
  have st : St 77 [(0, Fact.eq (.bool false)), (15, Fact.agg (Con.fr 2 (1 / 3 : Rat))), (16, Fact.eq (.int .i64 0)), (1, Fact.cell b1 (Con.raw 3))] a2 w2 := st2.to (fcs ⟨st2.at_ 0, fcs ⟨st2.at_ 15, fcs ⟨st2.at_ 16, fcs ⟨c1, fnl⟩⟩⟩⟩)
  clear st2 hbr2 hfr c1
  refine sym_store st 28 1 15 b1 (Con.raw 3) (Con.fr 2 (1 / 3 : Rat)) [(0, Fact.eq (.bool false)), (16, Fact.eq (.int .i64 0)), (1, Fact.cell b1 (Con.fr 2 (1 / 3 : Rat)))] rfl rfl rfl rfl rfl rfl info26 ?_ ?_
  · exact fcs ⟨.inr ⟨rfl, safe_eq _ _⟩, fcs ⟨.inr ⟨rfl, safe_eq _ _⟩, fcs ⟨.inl rfl, fnl⟩⟩⟩
  clear st; intro w3 hB hsz3 st
  have hb := hB _ _ hb (by omega) (by omega)
  clear hB
  refine sym_op st 2 (Fact.eq (.int .i64 0)) rfl (Nat.le_of_ble_eq_true rfl) rfl rfl (by kernel_rfl) (ob_copy 16 2 (.inr rfl) rfl (.inl rfl) (by kernel_rfl) rfl) ?_
  clear st; intro a4 w4 hbr st; have hs4 := hbr.size; have hb := up hb hbr; clear hbr
  refine wpList_nil ?_
  refine then_normal ?_
  refine wp_seq ?_
  refine sym_region st [(18, Fact.two (Fact.agg (Con.fr 2 (1 / 6 : Rat))) (Fact.eq (.int .i64 0))), (17, Fact.two (Fact.agg (Con.fr 2 (1 / 6 : Rat))) (Fact.eq (.int .i64 0))), (19, Fact.agg (Con.fr 2 (1 / 6 : Rat))), (20, Fact.eq (.int .i64 0)), (3, Fact.var' (Con.raw 3))] [3] 5 (by kernel_rfl) (by kernel_rfl) (by kernel_rfl) (Nat.le_of_ble_eq_true rfl) (by kernel_rfl) rfl rfl ?_ ?_
  · refine fcs ⟨Ob.new_ (ob_call_cc 6 18 (.int .i64 1) (.int .i64 6) _ rfl rfl (.inl rfl) (by kernel_rfl) (q_ratio_c (1) (6) (by decide) (by decide) (by decide) (1 / 6 : Rat) (by kernel_rfl))) (by kernel_rfl), ?_⟩
    refine fcs ⟨Ob.new_ (ob_copy 18 17 (.inl rfl) rfl (.inl rfl) (by kernel_rfl) rfl) (by kernel_rfl), ?_⟩
    refine fcs ⟨Ob.new_ (ob_fst 17 19 (Fact.agg (Con.fr 2 (1 / 6 : Rat))) (Fact.eq (.int .i64 0)) rfl rfl (.inl rfl) (by kernel_rfl) rfl rfl) (by kernel_rfl), ?_⟩
    refine fcs ⟨Ob.new_ (ob_snd 17 20 (Fact.agg (Con.fr 2 (1 / 6 : Rat))) (Fact.eq (.int .i64 0)) rfl rfl (.inl rfl) (by kernel_rfl) rfl rfl) (by kernel_rfl), ?_⟩
    refine fcs ⟨obn_new 28 3 _ [.bool false, .slice none 0 0, .slice none 0 0] rfl rfl rfl rfl rfl alloc26, ?_⟩
    exact fnl
  intro a5 w5 st5 hbr5 hfr
  have hs5 := hbr5.size
  have hb := up hb hbr5
  obtain ⟨b3, c3⟩ := (show (Fact.var' (Con.raw 3)).holds _ _ from st5.at_ 3)
  have g3 := hfr.ge (s := 3) rfl c3.1
  have st : St 77 [(0, Fact.eq (.bool false)), (1, Fact.cell b1 (Con.fr 2 (1 / 3 : Rat))), (2, Fact.eq (.int .i64 0)), (19, Fact.agg (Con.fr 2 (1 / 6 : Rat))), (20, Fact.eq (.int .i64 0)), (3, Fact.cell b3 (Con.raw 3))] a5 w5 := st5.to (fcs ⟨st5.at_ 0, fcs ⟨st5.at_ 1, fcs ⟨st5.at_ 2, fcs ⟨st5.at_ 19, fcs ⟨st5.at_ 20, fcs ⟨c3, fnl⟩⟩⟩⟩⟩⟩)
  clear st5 hbr5 hfr c3
  refine sym_store st 28 3 19 b3 (Con.raw 3) (Con.fr 2 (1 / 6 : Rat)) [(0, Fact.eq (.bool false)), (1, Fact.cell b1 (Con.fr 2 (1 / 3 : Rat))), (2, Fact.eq (.int .i64 0)), (20, Fact.eq (.int .i64 0)), (3, Fact.cell b3 (Con.fr 2 (1 / 6 : Rat)))] rfl rfl rfl rfl rfl rfl info26 ?_ ?_
  · exact fcs ⟨.inr ⟨rfl, safe_eq _ _⟩, fcs ⟨.inr ⟨rfl, safe_cell _ (by omega)⟩, fcs ⟨.inr ⟨rfl, safe_eq _ _⟩, fcs ⟨.inr ⟨rfl, safe_eq _ _⟩, fcs ⟨.inl rfl, fnl⟩⟩⟩⟩⟩
  clear st; intro w6 hB hsz6 st
  have hb := hB _ _ hb (by omega) (by omega)
  clear hB
  refine sym_op st 4 (Fact.eq (.int .i64 0)) rfl (Nat.le_of_ble_eq_true rfl) rfl rfl (by kernel_rfl) (ob_copy 20 4 (.inr rfl) rfl (.inl rfl) (by kernel_rfl) rfl) ?_
  clear st; intro a7 w7 hbr st; have hs7 := hbr.size; have hb := up hb hbr; clear hbr
  refine wpList_nil ?_
  refine then_normal ?_
  refine wp_seq ?_
  refine sym_region st [(22, Fact.two (Fact.agg (Con.fr 2 (1 / 2 : Rat))) (Fact.eq (.int .i64 0))), (21, Fact.two (Fact.agg (Con.fr 2 (1 / 2 : Rat))) (Fact.eq (.int .i64 0))), (23, Fact.agg (Con.fr 2 (1 / 2 : Rat))), (24, Fact.eq (.int .i64 0)), (5, Fact.var' (Con.raw 3))] [5] 5 (by kernel_rfl) (by kernel_rfl) (by kernel_rfl) (Nat.le_of_ble_eq_true rfl) (by kernel_rfl) rfl rfl ?_ ?_
  · refine fcs ⟨Ob.new_ (ob_call_cc 6 22 (.int .i64 (-1)) (.int .i64 (-2)) _ rfl rfl (.inl rfl) (by kernel_rfl) (q_ratio_c (-1) (-2) (by decide) (by decide) (by decide) (1 / 2 : Rat) (by kernel_rfl))) (by kernel_rfl), ?_⟩
    refine fcs ⟨Ob.new_ (ob_copy 22 21 (.inl rfl) rfl (.inl rfl) (by kernel_rfl) rfl) (by kernel_rfl), ?_⟩
    refine fcs ⟨Ob.new_ (ob_fst 21 23 (Fact.agg (Con.fr 2 (1 / 2 : Rat))) (Fact.eq (.int .i64 0)) rfl rfl (.inl rfl) (by kernel_rfl) rfl rfl) (by kernel_rfl), ?_⟩
    refine fcs ⟨Ob.new_ (ob_snd 21 24 (Fact.agg (Con.fr 2 (1 / 2 : Rat))) (Fact.eq (.int .i64 0)) rfl rfl (.inl rfl) (by kernel_rfl) rfl rfl) (by kernel_rfl), ?_⟩
    refine fcs ⟨obn_new 28 5 _ [.bool false, .slice none 0 0, .slice none 0 0] rfl rfl rfl rfl rfl alloc26, ?_⟩
    exact fnl
  intro a8 w8 st8 hbr8 hfr
  have hs8 := hbr8.size
  have hb := up hb hbr8
  obtain ⟨b5, c5⟩ := (show (Fact.var' (Con.raw 3)).holds _ _ from st8.at_ 5)
  have g5 := hfr.ge (s := 5) rfl c5.1
  have st : St 77 [(0, Fact.eq (.bool false)), (1, Fact.cell b1 (Con.fr 2 (1 / 3 : Rat))), (2, Fact.eq (.int .i64 0)), (3, Fact.cell b3 (Con.fr 2 (1 / 6 : Rat))), (4, Fact.eq (.int .i64 0)), (23, Fact.agg (Con.fr 2 (1 / 2 : Rat))), (24, Fact.eq (.int .i64 0)), (5, Fact.cell b5 (Con.raw 3))] a8 w8 := st8.to (fcs ⟨st8.at_ 0, fcs ⟨st8.at_ 1, fcs ⟨st8.at_ 2, fcs ⟨st8.at_ 3, fcs ⟨st8.at_ 4, fcs ⟨st8.at_ 23, fcs ⟨st8.at_ 24, fcs ⟨c5, fnl⟩⟩⟩⟩⟩⟩⟩⟩)
  clear st8 hbr8 hfr c5
  refine sym_store st 28 5 23 b5 (Con.raw 3) (Con.fr 2 (1 / 2 : Rat)) [(0, Fact.eq (.bool false)), (1, Fact.cell b1 (Con.fr 2 (1 / 3 : Rat))), (2, Fact.eq (.int .i64 0)), (3, Fact.cell b3 (Con.fr 2 (1 / 6 : Rat))), (4, Fact.eq (.int .i64 0)), (24, Fact.eq (.int .i64 0)), (5, Fact.cell b5 (Con.fr 2 (1 / 2 : Rat)))] rfl rfl rfl rfl rfl rfl info26 ?_ ?_
  · exact fcs ⟨.inr ⟨rfl, safe_eq _ _⟩, fcs ⟨.inr ⟨rfl, safe_cell _ (by omega)⟩, fcs ⟨.inr ⟨rfl, safe_eq _ _⟩, fcs ⟨.inr ⟨rfl, safe_cell _ (by omega)⟩, fcs ⟨.inr ⟨rfl, safe_eq _ _⟩, fcs ⟨.inr ⟨rfl, safe_eq _ _⟩, fcs ⟨.inl rfl, fnl⟩⟩⟩⟩⟩⟩⟩
  clear st; intro w9 hB hsz9 st
  have hb := hB _ _ hb (by omega) (by omega)
  clear hB
  refine sym_op st 6 (Fact.eq (.int .i64 0)) rfl (Nat.le_of_ble_eq_true rfl) rfl rfl (by kernel_rfl) (ob_copy 24 6 (.inr rfl) rfl (.inl rfl) (by kernel_rfl) rfl) ?_
  clear st; intro a10 w10 hbr st; have hs10 := hbr.size; have hb := up hb hbr; clear hbr
  refine wpList_nil ?_
  refine then_normal ?_
  refine wp_seq ?_
  refine sym_region st [(26, Fact.two (Fact.agg (Con.tri 1 1 false 0 0)) (Fact.eq (.int .i64 8))), (25, Fact.two (Fact.agg (Con.tri 1 1 false 0 0)) (Fact.eq (.int .i64 8))), (27, Fact.agg (Con.tri 1 1 false 0 0)), (28, Fact.eq (.int .i64 8)), (7, Fact.var' (Con.raw 3))] [7] 5 (by kernel_rfl) (by kernel_rfl) (by kernel_rfl) (Nat.le_of_ble_eq_true rfl) (by kernel_rfl) rfl rfl ?_ ?_
  · refine fcs ⟨Ob.new_ (ob_call_cc 6 26 (.int .i64 1) (.int .i64 0) _ rfl rfl (.inl rfl) (by kernel_rfl) (q_ratio_c0 (1) (0) (by decide) (by decide) (by decide))) (by kernel_rfl), ?_⟩
    refine fcs ⟨Ob.new_ (ob_copy 26 25 (.inl rfl) rfl (.inl rfl) (by kernel_rfl) rfl) (by kernel_rfl), ?_⟩
    refine fcs ⟨Ob.new_ (ob_fst 25 27 (Fact.agg (Con.tri 1 1 false 0 0)) (Fact.eq (.int .i64 8)) rfl rfl (.inl rfl) (by kernel_rfl) rfl rfl) (by kernel_rfl), ?_⟩
    refine fcs ⟨Ob.new_ (ob_snd 25 28 (Fact.agg (Con.tri 1 1 false 0 0)) (Fact.eq (.int .i64 8)) rfl rfl (.inl rfl) (by kernel_rfl) rfl rfl) (by kernel_rfl), ?_⟩
    refine fcs ⟨obn_new 28 7 _ [.bool false, .slice none 0 0, .slice none 0 0] rfl rfl rfl rfl rfl alloc26, ?_⟩
    exact fnl
  intro a11 w11 st11 hbr11 hfr
  have hs11 := hbr11.size
  have hb := up hb hbr11
  obtain ⟨b7, c7⟩ := (show (Fact.var' (Con.raw 3)).holds _ _ from st11.at_ 7)
  have g7 := hfr.ge (s := 7) rfl c7.1
  have st : St 77 [(0, Fact.eq (.bool false)), (1, Fact.cell b1 (Con.fr 2 (1 / 3 : Rat))), (2, Fact.eq (.int .i64 0)), (3, Fact.cell b3 (Con.fr 2 (1 / 6 : Rat))), (4, Fact.eq (.int .i64 0)), (5, Fact.cell b5 (Con.fr 2 (1 / 2 : Rat))), (6, Fact.eq (.int .i64 0)), (27, Fact.agg (Con.tri 1 1 false 0 0)), (28, Fact.eq (.int .i64 8)), (7, Fact.cell b7 (Con.raw 3))] a11 w11 := st11.to (fcs ⟨st11.at_ 0, fcs ⟨st11.at_ 1, fcs ⟨st11.at_ 2, fcs ⟨st11.at_ 3, fcs ⟨st11.at_ 4, fcs ⟨st11.at_ 5, fcs ⟨st11.at_ 6, fcs ⟨st11.at_ 27, fcs ⟨st11.at_ 28, fcs ⟨c7, fnl⟩⟩⟩⟩⟩⟩⟩⟩⟩⟩)
  clear st11 hbr11 hfr c7
  refine sym_store st 28 7 27 b7 (Con.raw 3) (Con.tri 1 1 false 0 0) [(0, Fact.eq (.bool false)), (1, Fact.cell b1 (Con.fr 2 (1 / 3 : Rat))), (2, Fact.eq (.int .i64 0)), (3, Fact.cell b3 (Con.fr 2 (1 / 6 : Rat))), (4, Fact.eq (.int .i64 0)), (5, Fact.cell b5 (Con.fr 2 (1 / 2 : Rat))), (6, Fact.eq (.int .i64 0)), (28, Fact.eq (.int .i64 8)), (7, Fact.cell b7 (Con.tri 1 1 false 0 0))] rfl rfl rfl rfl rfl rfl info26 ?_ ?_
  · exact fcs ⟨.inr ⟨rfl, safe_eq _ _⟩, fcs ⟨.inr ⟨rfl, safe_cell _ (by omega)⟩, fcs ⟨.inr ⟨rfl, safe_eq _ _⟩, fcs ⟨.inr ⟨rfl, safe_cell _ (by omega)⟩, fcs ⟨.inr ⟨rfl, safe_eq _ _⟩, fcs ⟨.inr ⟨rfl, safe_cell _ (by omega)⟩, fcs ⟨.inr ⟨rfl, safe_eq _ _⟩, fcs ⟨.inr ⟨rfl, safe_eq _ _⟩, fcs ⟨.inl rfl, fnl⟩⟩⟩⟩⟩⟩⟩⟩⟩
  clear st; intro w12 hB hsz12 st
  have hb := hB _ _ hb (by omega) (by omega)
  clear hB
  refine sym_op st 8 (Fact.eq (.int .i64 8)) rfl (Nat.le_of_ble_eq_true rfl) rfl rfl (by kernel_rfl) (ob_copy 28 8 (.inr rfl) rfl (.inl rfl) (by kernel_rfl) rfl) ?_
  clear st; intro a13 w13 hbr st; have hs13 := hbr.size; have hb := up hb hbr; clear hbr
  refine wpList_nil ?_
  refine then_normal ?_
  refine wp_seq ?_
  refine sym_region st [(30, Fact.two (Fact.agg (Con.tri 1 1 false 0 0)) (Fact.eq (.int .i64 2))), (29, Fact.two (Fact.agg (Con.tri 1 1 false 0 0)) (Fact.eq (.int .i64 2))), (31, Fact.agg (Con.tri 1 1 false 0 0)), (32, Fact.eq (.int .i64 2)), (9, Fact.var' (Con.raw 3))] [9] 5 (by kernel_rfl) (by kernel_rfl) (by kernel_rfl) (Nat.le_of_ble_eq_true rfl) (by kernel_rfl) rfl rfl ?_ ?_
  · refine fcs ⟨Ob.new_ (ob_callc 28 _ 30 _ rfl rfl (.inl rfl) (by kernel_rfl) (fun w => q_parse_b2 [50, 47, 52] (byt_lit rfl) (Nat.le_of_ble_eq_true rfl) (by kernel_rfl) (by kernel_rfl) (by kernel_rfl) (by kernel_rfl) (by kernel_rfl) _ w rfl)) (by kernel_rfl), ?_⟩
    refine fcs ⟨Ob.new_ (ob_copy 30 29 (.inl rfl) rfl (.inl rfl) (by kernel_rfl) rfl) (by kernel_rfl), ?_⟩
    refine fcs ⟨Ob.new_ (ob_fst 29 31 (Fact.agg (Con.tri 1 1 false 0 0)) (Fact.eq (.int .i64 2)) rfl rfl (.inl rfl) (by kernel_rfl) rfl rfl) (by kernel_rfl), ?_⟩
    refine fcs ⟨Ob.new_ (ob_snd 29 32 (Fact.agg (Con.tri 1 1 false 0 0)) (Fact.eq (.int .i64 2)) rfl rfl (.inl rfl) (by kernel_rfl) rfl rfl) (by kernel_rfl), ?_⟩
    refine fcs ⟨obn_new 28 9 _ [.bool false, .slice none 0 0, .slice none 0 0] rfl rfl rfl rfl rfl alloc26, ?_⟩
    exact fnl
  intro a14 w14 st14 hbr14 hfr
  have hs14 := hbr14.size
  have hb := up hb hbr14
  obtain ⟨b9, c9⟩ := (show (Fact.var' (Con.raw 3)).holds _ _ from st14.at_ 9)
  have g9 := hfr.ge (s := 9) rfl c9.1
  have st : St 77 [(0, Fact.eq (.bool false)), (1, Fact.cell b1 (Con.fr 2 (1 / 3 : Rat))), (2, Fact.eq (.int .i64 0)), (3, Fact.cell b3 (Con.fr 2 (1 / 6 : Rat))), (4, Fact.eq (.int .i64 0)), (5, Fact.cell b5 (Con.fr 2 (1 / 2 : Rat))), (6, Fact.eq (.int .i64 0)), (8, Fact.eq (.int .i64 8)), (31, Fact.agg (Con.tri 1 1 false 0 0)), (32, Fact.eq (.int .i64 2)), (9, Fact.cell b9 (Con.raw 3))] a14 w14 := st14.to (fcs ⟨st14.at_ 0, fcs ⟨st14.at_ 1, fcs ⟨st14.at_ 2, fcs ⟨st14.at_ 3, fcs ⟨st14.at_ 4, fcs ⟨st14.at_ 5, fcs ⟨st14.at_ 6, fcs ⟨st14.at_ 8, fcs ⟨st14.at_ 31, fcs ⟨st14.at_ 32, fcs ⟨c9, fnl⟩⟩⟩⟩⟩⟩⟩⟩⟩⟩⟩)
  clear st14 hbr14 hfr c9
  refine sym_store st 28 9 31 b9 (Con.raw 3) (Con.tri 1 1 false 0 0) [(0, Fact.eq (.bool false)), (1, Fact.cell b1 (Con.fr 2 (1 / 3 : Rat))), (2, Fact.eq (.int .i64 0)), (3, Fact.cell b3 (Con.fr 2 (1 / 6 : Rat))), (4, Fact.eq (.int .i64 0)), (5, Fact.cell b5 (Con.fr 2 (1 / 2 : Rat))), (6, Fact.eq (.int .i64 0)), (8, Fact.eq (.int .i64 8)), (32, Fact.eq (.int .i64 2)), (9, Fact.cell b9 (Con.tri 1 1 false 0 0))] rfl rfl rfl rfl rfl rfl info26 ?_ ?_
  · exact fcs ⟨.inr ⟨rfl, safe_eq _ _⟩, fcs ⟨.inr ⟨rfl, safe_cell _ (by omega)⟩, fcs ⟨.inr ⟨rfl, safe_eq _ _⟩, fcs ⟨.inr ⟨rfl, safe_cell _ (by omega)⟩, fcs ⟨.inr ⟨rfl, safe_eq _ _⟩, fcs ⟨.inr ⟨rfl, safe_cell _ (by omega)⟩, fcs ⟨.inr ⟨rfl, safe_eq _ _⟩, fcs ⟨.inr ⟨rfl, safe_eq _ _⟩, fcs ⟨.inr ⟨rfl, safe_eq _ _⟩, fcs ⟨.inl rfl, fnl⟩⟩⟩⟩⟩⟩⟩⟩⟩⟩
  clear st; intro w15 hB hsz15 st
  have hb := hB _ _ hb (by omega) (by omega)
  clear hB
  refine sym_op st 10 (Fact.eq (.int .i64 2)) rfl (Nat.le_of_ble_eq_true rfl) rfl rfl (by kernel_rfl) (ob_copy 32 10 (.inr rfl) rfl (.inl rfl) (by kernel_rfl) rfl) ?_
  clear st; intro a16 w16 hbr st; have hs16 := hbr.size; have hb := up hb hbr; clear hbr
  refine wpList_nil ?_
  refine then_normal ?_
  refine wp_seq ?_
  refine sym_region st [(34, Fact.agg (Con.fr 2 (1 / 2 : Rat))), (35, Fact.agg (Con.fr 2 (-(1 / 2 : Rat)))), (36, Fact.two (Fact.eq (.int .i64 (-1))) (Fact.eq (.bool true))), (33, Fact.two (Fact.eq (.int .i64 (-1))) (Fact.eq (.bool true))), (37, Fact.eq (.int .i64 (-1))), (38, Fact.eq (.bool true)), (11, Fact.eq (.int .i64 (-1))), (12, Fact.eq (.bool true))] [] 8 (by kernel_rfl) (by kernel_rfl) (by kernel_rfl) (Nat.le_of_ble_eq_true rfl) (by kernel_rfl) rfl rfl ?_ ?_
  · refine fcs ⟨Ob.new_ (ob_read 28 5 34 (Con.fr 2 (1 / 2 : Rat)) rfl rfl (.inl rfl) (by kernel_rfl) points_cell rfl row26 info26) (by kernel_rfl), ?_⟩
    refine fcs ⟨Ob.new_ (ob_call1 30 34 35 _ rfl rfl (.inl rfl) (by kernel_rfl) (by kernel_rfl) (q_neg 2 (1 / 2 : Rat))) (by kernel_rfl), ?_⟩
    refine fcs ⟨Ob.new_ (ob_call1 29 35 36 _ rfl rfl (.inl rfl) (by kernel_rfl) (by kernel_rfl) (q_floorb 2 (-(1 / 2 : Rat)) (by omega) (-1) true (by kernel_rfl) (by kernel_rfl))) (by kernel_rfl), ?_⟩
    refine fcs ⟨Ob.new_ (ob_copy 36 33 (.inl rfl) rfl (.inl rfl) (by kernel_rfl) rfl) (by kernel_rfl), ?_⟩
    refine fcs ⟨Ob.new_ (ob_fst 33 37 (Fact.eq (.int .i64 (-1))) (Fact.eq (.bool true)) rfl rfl (.inl rfl) (by kernel_rfl) rfl rfl) (by kernel_rfl), ?_⟩
    refine fcs ⟨Ob.new_ (ob_snd 33 38 (Fact.eq (.int .i64 (-1))) (Fact.eq (.bool true)) rfl rfl (.inl rfl) (by kernel_rfl) rfl rfl) (by kernel_rfl), ?_⟩
    refine fcs ⟨Ob.new_ (ob_copy 37 11 (.inr rfl) rfl (.inl rfl) (by kernel_rfl) rfl) (by kernel_rfl), ?_⟩
    refine fcs ⟨Ob.new_ (ob_copy 38 12 (.inr rfl) rfl (.inl rfl) (by kernel_rfl) rfl) (by kernel_rfl), ?_⟩
    exact fnl
  intro a17 w17 st17 hbr17 hfr
  have hs17 := hbr17.size
  have hb := up hb hbr17
  have st : St 77 [(0, Fact.eq (.bool false)), (1, Fact.cell b1 (Con.fr 2 (1 / 3 : Rat))), (2, Fact.eq (.int .i64 0)), (3, Fact.cell b3 (Con.fr 2 (1 / 6 : Rat))), (4, Fact.eq (.int .i64 0)), (5, Fact.cell b5 (Con.fr 2 (1 / 2 : Rat))), (6, Fact.eq (.int .i64 0)), (8, Fact.eq (.int .i64 8)), (10, Fact.eq (.int .i64 2)), (11, Fact.eq (.int .i64 (-1))), (12, Fact.eq (.bool true))] a17 w17 := st17.to (fcs ⟨st17.at_ 0, fcs ⟨st17.at_ 1, fcs ⟨st17.at_ 2, fcs ⟨st17.at_ 3, fcs ⟨st17.at_ 4, fcs ⟨st17.at_ 5, fcs ⟨st17.at_ 6, fcs ⟨st17.at_ 8, fcs ⟨st17.at_ 10, fcs ⟨st17.at_ 11, fcs ⟨st17.at_ 12, fnl⟩⟩⟩⟩⟩⟩⟩⟩⟩⟩⟩)
  clear st17 hbr17 hfr
  refine wpList_nil ?_
  refine then_normal ?_
  refine wp_seq ?_
  have st := st.to (ks' := [(1, Fact.cell b1 (Con.fr 2 (1 / 3 : Rat))), (2, Fact.eq (.int .i64 0)), (3, Fact.cell b3 (Con.fr 2 (1 / 6 : Rat))), (4, Fact.eq (.int .i64 0)), (5, Fact.cell b5 (Con.fr 2 (1 / 2 : Rat))), (6, Fact.eq (.int .i64 0)), (8, Fact.eq (.int .i64 8)), (10, Fact.eq (.int .i64 2)), (11, Fact.eq (.int .i64 (-1))), (12, Fact.eq (.bool true))]) (fcs ⟨st.at_ 1, fcs ⟨st.at_ 2, fcs ⟨st.at_ 3, fcs ⟨st.at_ 4, fcs ⟨st.at_ 5, fcs ⟨st.at_ 6, fcs ⟨st.at_ 8, fcs ⟨st.at_ 10, fcs ⟨st.at_ 11, fcs ⟨st.at_ 12, fnl⟩⟩⟩⟩⟩⟩⟩⟩⟩⟩)
  refine sym_region st [(39, Fact.eq (.int .i64 0)), (40, Fact.eq (.bool true)), (41, Fact.eq (.bool true)), (42, Fact.eq (.int .i64 0)), (43, Fact.eq (.bool true)), (44, Fact.eq (.bool true)), (45, Fact.eq (.bool true)), (46, Fact.eq (.int .i64 0)), (47, Fact.eq (.bool true)), (48, Fact.eq (.bool true)), (49, Fact.eq (.bool true)), (50, Fact.eq (.int .i64 8)), (51, Fact.eq (.bool true)), (52, Fact.eq (.bool true)), (53, Fact.eq (.bool true)), (54, Fact.eq (.int .i64 2)), (55, Fact.eq (.bool true)), (56, Fact.eq (.bool true)), (57, Fact.eq (.bool true)), (58, Fact.eq (.int .i64 (-1))), (59, Fact.eq (.bool true)), (60, Fact.eq (.bool true)), (61, Fact.eq (.bool true)), (62, Fact.eq (.bool true)), (63, Fact.eq (.bool true)), (64, Fact.eq (.bool true)), (65, Fact.agg (Con.fr 2 (1 / 3 : Rat))), (66, Fact.agg (Con.fr 2 (1 / 6 : Rat))), (67, Fact.agg (Con.fr 5 ((1 / 3 : Rat) + (1 / 6 : Rat)))), (68, Fact.agg (Con.fr 2 (1 / 2 : Rat))), (69, Fact.eq (.bool true)), (70, Fact.eq (.bool true)), (71, Fact.eq (.bool true)), (72, Fact.agg (Con.fr 2 (1 / 2 : Rat))), (73, Fact.agg (Con.fr 2 (-(1 / 2 : Rat)))), (74, Fact.eq (.string (ofB ([45, 49, 47, 50])))), (75, Fact.eq (.bool true)), (76, Fact.eq (.bool true)), (0, Fact.eq (.bool true))] [] 39 (by kernel_rfl) (by kernel_rfl) (by kernel_rfl) (Nat.le_of_ble_eq_true rfl) (by kernel_rfl) rfl rfl ?_ ?_
  · refine fcs ⟨Ob.new_ (ob_copy 2 39 (.inl rfl) rfl (.inl rfl) (by kernel_rfl) rfl) (by kernel_rfl), ?_⟩
    refine fcs ⟨Ob.new_ (ob_eqc 39 40 .i64 29 _ 0 0 true rfl rfl rfl (.inl rfl) (by kernel_rfl) rfl rfl) (by kernel_rfl), ?_⟩
    refine fcs ⟨Ob.new_ (ob_copy 40 41 (.inl rfl) rfl (.inl rfl) (by kernel_rfl) rfl) (by kernel_rfl), ?_⟩
    refine fcs ⟨Ob.new_ (ob_copy 4 42 (.inl rfl) rfl (.inr ⟨_, _, _, rfl, rfl, by kernel_rfl, by decide, rfl⟩) (by kernel_rfl) rfl) (by kernel_rfl), ?_⟩
    refine fcs ⟨Ob.new_ (ob_eqc 42 43 .i64 29 _ 0 0 true rfl rfl rfl (.inr ⟨_, _, _, rfl, rfl, by kernel_rfl, by decide, rfl⟩) (by kernel_rfl) rfl rfl) (by kernel_rfl), ?_⟩
    refine fcs ⟨Ob.new_ (ob_pick 41 43 44 _ rfl rfl (.inl rfl) (by kernel_rfl) (by kernel_rfl) rfl rfl) (by kernel_rfl), ?_⟩
    refine fcs ⟨Ob.new_ (ob_copy 44 45 (.inl rfl) rfl (.inl rfl) (by kernel_rfl) rfl) (by kernel_rfl), ?_⟩
    refine fcs ⟨Ob.new_ (ob_copy 6 46 (.inl rfl) rfl (.inr ⟨_, _, _, rfl, rfl, by kernel_rfl, by decide, rfl⟩) (by kernel_rfl) rfl) (by kernel_rfl), ?_⟩
    refine fcs ⟨Ob.new_ (ob_eqc 46 47 .i64 29 _ 0 0 true rfl rfl rfl (.inr ⟨_, _, _, rfl, rfl, by kernel_rfl, by decide, rfl⟩) (by kernel_rfl) rfl rfl) (by kernel_rfl), ?_⟩
    refine fcs ⟨Ob.new_ (ob_pick 45 47 48 _ rfl rfl (.inl rfl) (by kernel_rfl) (by kernel_rfl) rfl rfl) (by kernel_rfl), ?_⟩
    refine fcs ⟨Ob.new_ (ob_copy 48 49 (.inl rfl) rfl (.inl rfl) (by kernel_rfl) rfl) (by kernel_rfl), ?_⟩
    refine fcs ⟨Ob.new_ (ob_copy 8 50 (.inl rfl) rfl (.inr ⟨_, _, _, rfl, rfl, by kernel_rfl, by decide, rfl⟩) (by kernel_rfl) rfl) (by kernel_rfl), ?_⟩
    refine fcs ⟨Ob.new_ (ob_eqc 50 51 .i64 29 _ 8 8 true rfl rfl rfl (.inr ⟨_, _, _, rfl, rfl, by kernel_rfl, by decide, rfl⟩) (by kernel_rfl) rfl rfl) (by kernel_rfl), ?_⟩
    refine fcs ⟨Ob.new_ (ob_pick 49 51 52 _ rfl rfl (.inl rfl) (by kernel_rfl) (by kernel_rfl) rfl rfl) (by kernel_rfl), ?_⟩
    refine fcs ⟨Ob.new_ (ob_copy 52 53 (.inl rfl) rfl (.inl rfl) (by kernel_rfl) rfl) (by kernel_rfl), ?_⟩
    refine fcs ⟨Ob.new_ (ob_copy 10 54 (.inl rfl) rfl (.inr ⟨_, _, _, rfl, rfl, by kernel_rfl, by decide, rfl⟩) (by kernel_rfl) rfl) (by kernel_rfl), ?_⟩
    refine fcs ⟨Ob.new_ (ob_eqc 54 55 .i64 29 _ 2 2 true rfl rfl rfl (.inr ⟨_, _, _, rfl, rfl, by kernel_rfl, by decide, rfl⟩) (by kernel_rfl) rfl rfl) (by kernel_rfl), ?_⟩
    refine fcs ⟨Ob.new_ (ob_pick 53 55 56 _ rfl rfl (.inl rfl) (by kernel_rfl) (by kernel_rfl) rfl rfl) (by kernel_rfl), ?_⟩
    refine fcs ⟨Ob.new_ (ob_copy 56 57 (.inl rfl) rfl (.inl rfl) (by kernel_rfl) rfl) (by kernel_rfl), ?_⟩
    refine fcs ⟨Ob.new_ (ob_copy 11 58 (.inl rfl) rfl (.inr ⟨_, _, _, rfl, rfl, by kernel_rfl, by decide, rfl⟩) (by kernel_rfl) rfl) (by kernel_rfl), ?_⟩
    refine fcs ⟨Ob.new_ (ob_eqc 58 59 .i64 2 _ (-1) (-1) true rfl rfl rfl (.inr ⟨_, _, _, rfl, rfl, by kernel_rfl, by decide, rfl⟩) (by kernel_rfl) rfl rfl) (by kernel_rfl), ?_⟩
    refine fcs ⟨Ob.new_ (ob_pick 57 59 60 _ rfl rfl (.inl rfl) (by kernel_rfl) (by kernel_rfl) rfl rfl) (by kernel_rfl), ?_⟩
    refine fcs ⟨Ob.new_ (ob_copy 60 61 (.inl rfl) rfl (.inl rfl) (by kernel_rfl) rfl) (by kernel_rfl), ?_⟩
    refine fcs ⟨Ob.new_ (ob_copy 12 62 (.inl rfl) rfl (.inr ⟨_, _, _, rfl, rfl, by kernel_rfl, by decide, rfl⟩) (by kernel_rfl) rfl) (by kernel_rfl), ?_⟩
    refine fcs ⟨Ob.new_ (ob_pick 61 62 63 _ rfl rfl (.inl rfl) (by kernel_rfl) (by kernel_rfl) rfl rfl) (by kernel_rfl), ?_⟩
    refine fcs ⟨Ob.new_ (ob_copy 63 64 (.inl rfl) rfl (.inl rfl) (by kernel_rfl) rfl) (by kernel_rfl), ?_⟩
    refine fcs ⟨Ob.new_ (ob_read 28 1 65 (Con.fr 2 (1 / 3 : Rat)) rfl rfl (.inr ⟨_, _, _, rfl, rfl, by kernel_rfl, by decide, rfl⟩) (by kernel_rfl) points_cell rfl row26 info26) (by kernel_rfl), ?_⟩
    refine fcs ⟨Ob.new_ (ob_read 28 3 66 (Con.fr 2 (1 / 6 : Rat)) rfl rfl (.inr ⟨_, _, _, rfl, rfl, by kernel_rfl, by decide, rfl⟩) (by kernel_rfl) points_cell rfl row26 info26) (by kernel_rfl), ?_⟩
    refine fcs ⟨Ob.new_ (ob_call2 21 65 66 67 _ rfl rfl (.inr ⟨_, _, _, rfl, rfl, by kernel_rfl, by decide, rfl⟩) (by kernel_rfl) (by kernel_rfl) (by kernel_rfl) (q_add 2 2 (1 / 3 : Rat) (1 / 6 : Rat) (by omega))) (by kernel_rfl), ?_⟩
    refine fcs ⟨Ob.new_ (ob_read 28 5 68 (Con.fr 2 (1 / 2 : Rat)) rfl rfl (.inr ⟨_, _, _, rfl, rfl, by kernel_rfl, by decide, rfl⟩) (by kernel_rfl) points_cell rfl row26 info26) (by kernel_rfl), ?_⟩
    refine fcs ⟨Ob.new_ (ob_call2 8 67 68 69 _ rfl rfl (.inr ⟨_, _, _, rfl, rfl, by kernel_rfl, by decide, rfl⟩) (by kernel_rfl) (by kernel_rfl) (by kernel_rfl) (z_same 5 2 ((1 / 3 : Rat) + (1 / 6 : Rat)) (1 / 2 : Rat) true (by kernel_rfl))) (by kernel_rfl), ?_⟩
    refine fcs ⟨Ob.new_ (ob_pick 64 69 70 _ rfl rfl (.inl rfl) (by kernel_rfl) (by kernel_rfl) rfl rfl) (by kernel_rfl), ?_⟩
    refine fcs ⟨Ob.new_ (ob_copy 70 71 (.inl rfl) rfl (.inl rfl) (by kernel_rfl) rfl) (by kernel_rfl), ?_⟩
    refine fcs ⟨Ob.new_ (ob_read 28 5 72 (Con.fr 2 (1 / 2 : Rat)) rfl rfl (.inr ⟨_, _, _, rfl, rfl, by kernel_rfl, by decide, rfl⟩) (by kernel_rfl) points_cell rfl row26 info26) (by kernel_rfl), ?_⟩
    refine fcs ⟨Ob.new_ (ob_call1 30 72 73 _ rfl rfl (.inr ⟨_, _, _, rfl, rfl, by kernel_rfl, by decide, rfl⟩) (by kernel_rfl) (by kernel_rfl) (q_neg 2 (1 / 2 : Rat))) (by kernel_rfl), ?_⟩
    refine fcs ⟨Ob.new_ (ob_call1 31 73 74 _ rfl rfl (.inr ⟨_, _, _, rfl, rfl, by kernel_rfl, by decide, rfl⟩) (by kernel_rfl) (by kernel_rfl) (q_formatk 2 (-(1 / 2 : Rat)) (by decide) [45, 49, 47, 50] (by kernel_rfl))) (by kernel_rfl), ?_⟩
    refine fcs ⟨Ob.new_ (ob_eql_str ⟨#[45, 49, 47, 50]⟩ 74 75 _ rfl rfl (.inr ⟨_, _, _, rfl, rfl, by kernel_rfl, by decide, rfl⟩) (by kernel_rfl) rfl rfl) (by kernel_rfl), ?_⟩
    refine fcs ⟨Ob.new_ (ob_pick 71 75 76 _ rfl rfl (.inl rfl) (by kernel_rfl) (by kernel_rfl) rfl rfl) (by kernel_rfl), ?_⟩
    refine fcs ⟨Ob.new_ (ob_copy 76 0 (.inr rfl) rfl (.inl rfl) (by kernel_rfl) rfl) (by kernel_rfl), ?_⟩
    exact fnl
  intro a18 w18 st18 hbr18 hfr
  have hs18 := hbr18.size
  have hb := up hb hbr18
  have st : St 77 [(0, Fact.eq (.bool true))] a18 w18 := st18.to (fcs ⟨st18.at_ 0, fnl⟩)
  clear st18 hbr18 hfr
  refine wpList_nil ?_
  refine then_normal ?_
  refine wp_ret ?_
  exact sym_ret1 rfl st.defers (resAt_tmp st 0) hb (fun _ h => h)
end Go.Proofs.YtjfehdkfogdpgaaDoor

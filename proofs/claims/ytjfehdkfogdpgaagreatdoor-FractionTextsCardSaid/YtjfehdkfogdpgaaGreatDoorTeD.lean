/-
  Contracts of magnitude, Int and Ratio, and of copied. Conditions: integers of 64 bits.
  Fractions as they come in: a sign and two slices of digits that may have leading zeros. No conditions beyond those that each names.
  Contracts of Valid (both) at whatever sign and slices of digits, and of fit. Conditions: slices of at most 300 digits.
  Obligations of operations on words and on the digits of a number. No conditions beyond those that each names.
  Contract of signed: an integer with a sign as an int64. No conditions.
  More obligations of operations on words; the floor of a fraction. No conditions beyond those that each names.
  Contracts of Floor. Conditions: numbers of at most 300 digits.
  Strings as lists of bytes; the contracts of strings.CutPrefix at "-" and strings.Cut at "/". Conditions: strings of at most 1000000 bytes.
  The law that tells which strings are numbers, and which error the others are: it returns true. No conditions.
  The contracts of texts, told by lists of bytes: cutting, numbers out of texts and into texts; joining. Conditions: texts of at most 1000000 bytes, numbers of at most 300 digits.
  Obligations of operations on texts: length, a byte, parts; where the first slash stands. Conditions: texts of at most 1000000 bytes.
-/
import Derived.Laws.Bits64b
import Derived.Lib.Bytealg
import Derived.Lib.IndexLaws
import Derived.Lib.Walk
import Derived.Lib.Strings
import Derived.Laws.Strings3
import Derived.Test.YtjfehdkfogdpgaaGreatDoorTeC
namespace Go.Proofs.YtjfehdkfogdpgaaGreatDoor
open Go.RowKit
set_option maxRecDepth 100000 in
theorem q_magnitude (n : Int) (h : -9223372036854775808 ≤ n ∧ n ≤ 9223372036854775807) : ∀ v0 w, (fI n).holds v0 w → Calls Tryz.prog 65 #[v0] w (Ret (Fact.nn 2 (Int.natAbs n)) w) := by
  intro v0 w hv0
  cases hn : decide (n < 0) with
  | false =>
    have h0 : 0 ≤ n := by have := of_decide_eq_false hn; omega
    have hc : IntKind.u64.wrap n = ((Int.natAbs n : Nat) : Int) := by rw [IntKind.wrap_u64]; omega
    refine sym_calls 12 [(0, fI n)] Tryz.func65 rfl rfl (Nat.le_of_ble_eq_true rfl) (fcs ⟨⟨Nat.le_of_ble_eq_true rfl, hv0⟩, fnl⟩) fun a st => ?_
    have hb := Below.refl w.heap.size w
    refine wp_seq ?_
    refine sym_region st [(2, Fact.var' (Con.raw 1))] [2] 1 (by kernel_rfl) (by kernel_rfl) (by kernel_rfl) (Nat.le_of_ble_eq_true rfl) (by kernel_rfl) rfl rfl ?_ ?_
    · refine fcs ⟨obn_new 24 2 _ [.slice none 0 0] rfl rfl rfl rfl rfl alloc24, ?_⟩
      exact fnl
    intro a1 w1 st1 hbr1 hfr
    have hs1 := hbr1.size
    have hb := up hb hbr1
    obtain ⟨b2, c2⟩ := (show (Fact.var' (Con.raw 1)).holds _ _ from st1.at_ 2)
    have g2 := hfr.ge (s := 2) rfl c2.1
    have st : St 12 [(0, fI n), (2, Fact.cell b2 (Con.raw 1))] a1 w1 := st1.to (fcs ⟨st1.at_ 0, fcs ⟨c2, fnl⟩⟩)
    clear st1 hbr1 hfr c2
    refine wpList_nil ?_
    refine then_normal ?_
    refine wp_seq ?_
    refine wp_seq ?_
    refine sym_region st [(3, fI n), (4, fF)] [] 2 (by kernel_rfl) (by kernel_rfl) (by kernel_rfl) (Nat.le_of_ble_eq_true rfl) (by kernel_rfl) rfl rfl ?_ ?_
    · refine fcn (ob_copy 0 3 (.inl rfl) rfl (.inl rfl) (by kernel_rfl) rfl) ?_
      refine fcn (ob_ltc 3 4 .i64 2 _ n 0 false hn rfl rfl (.inl rfl) (by kernel_rfl) rfl rfl) ?_
      exact fnl
    intro a2 w2 st2 hbr2 hfr
    have hs2 := hbr2.size
    have hb := up hb hbr2
    have st : St 12 [(0, fI n), (2, Fact.cell b2 (Con.raw 1)), (4, fF)] a2 w2 := st2.to (fcs ⟨st2.at_ 0, fcs ⟨st2.at_ 2, fcs ⟨st2.at_ 4, fnl⟩⟩⟩)
    clear st2 hbr2 hfr
    refine wpList_nil ?_
    refine then_normal ?_
    refine wp_cond_false (st.at_ 4) ?_
    refine wp_skip ?_
    refine then_normal ?_
    refine wp_seq ?_
    refine sym_region st [(9, fI n), (10, Fact.eq (.int .u64 ((Int.natAbs n : Nat) : Int))), (11, Fact.agg (Con.nn 2 (Int.natAbs n)))] [] 3 (by kernel_rfl) (by kernel_rfl) (by kernel_rfl) (Nat.le_of_ble_eq_true rfl) (by kernel_rfl) rfl rfl ?_ ?_
    · refine fcn (ob_copy 0 9 (.inl rfl) rfl (.inl rfl) (by kernel_rfl) rfl) ?_
      refine fcn (ob_conv64 9 10 n ((Int.natAbs n : Nat) : Int) hc rfl rfl (.inl rfl) (by kernel_rfl) rfl rfl) ?_
      refine fcn (ob_call1 61 10 11 _ rfl rfl (.inl rfl) (by kernel_rfl) (by kernel_rfl) (n_ofv 2 (Int.natAbs n) (amt_lt h) (of_sz (amt_lt h)) (by decide))) ?_
      exact fnl
    intro a3 w3 st3 hbr3 hfr
    have hs3 := hbr3.size
    have hb := up hb hbr3
    have st : St 12 [(2, Fact.cell b2 (Con.raw 1)), (11, Fact.agg (Con.nn 2 (Int.natAbs n)))] a3 w3 := st3.to (fcs ⟨st3.at_ 2, fcs ⟨st3.at_ 11, fnl⟩⟩)
    clear st3 hbr3 hfr
    refine sym_store st 24 2 11 b2 (Con.raw 1) (Con.nn 2 (Int.natAbs n)) [(2, Fact.cell b2 (Con.nn 2 (Int.natAbs n)))] rfl rfl rfl rfl rfl rfl info24 ?_ ?_
    · exact fcs ⟨.inl rfl, fnl⟩
    clear st; intro w4 hB hsz4 st
    have hb := hB _ _ hb (by omega) (by omega)
    clear hB
    refine wpList_nil ?_
    refine then_normal ?_
    refine wp_ret ?_
    exact sym_ret1 rfl st.defers (resAt_cell st 2 b2 24 (Con.nn 2 (Int.natAbs n)) rfl row24 info24) hb (fun _ h => h)
  | true =>
    have h0 : n < 0 := of_decide_eq_true hn
    have hc : IntKind.u64.wrap n = n + 18446744073709551616 := by rw [IntKind.wrap_u64]; omega
    have hg : IntKind.u64.wrap (-(n + 18446744073709551616)) = ((Int.natAbs n : Nat) : Int) := by rw [IntKind.wrap_u64]; omega
    refine sym_calls 12 [(0, fI n)] Tryz.func65 rfl rfl (Nat.le_of_ble_eq_true rfl) (fcs ⟨⟨Nat.le_of_ble_eq_true rfl, hv0⟩, fnl⟩) fun a st => ?_
    have hb := Below.refl w.heap.size w
    refine wp_seq ?_
    refine sym_region st [(2, Fact.var' (Con.raw 1))] [2] 1 (by kernel_rfl) (by kernel_rfl) (by kernel_rfl) (Nat.le_of_ble_eq_true rfl) (by kernel_rfl) rfl rfl ?_ ?_
    · refine fcs ⟨obn_new 24 2 _ [.slice none 0 0] rfl rfl rfl rfl rfl alloc24, ?_⟩
      exact fnl
    intro a1 w1 st1 hbr1 hfr
    have hs1 := hbr1.size
    have hb := up hb hbr1
    obtain ⟨b2, c2⟩ := (show (Fact.var' (Con.raw 1)).holds _ _ from st1.at_ 2)
    have g2 := hfr.ge (s := 2) rfl c2.1
    have st : St 12 [(0, fI n), (2, Fact.cell b2 (Con.raw 1))] a1 w1 := st1.to (fcs ⟨st1.at_ 0, fcs ⟨c2, fnl⟩⟩)
    clear st1 hbr1 hfr c2
    refine wpList_nil ?_
    refine then_normal ?_
    refine wp_seq ?_
    refine wp_seq ?_
    refine sym_region st [(3, fI n), (4, fT)] [] 2 (by kernel_rfl) (by kernel_rfl) (by kernel_rfl) (Nat.le_of_ble_eq_true rfl) (by kernel_rfl) rfl rfl ?_ ?_
    · refine fcn (ob_copy 0 3 (.inl rfl) rfl (.inl rfl) (by kernel_rfl) rfl) ?_
      refine fcn (ob_ltc 3 4 .i64 2 _ n 0 true hn rfl rfl (.inl rfl) (by kernel_rfl) rfl rfl) ?_
      exact fnl
    intro a2 w2 st2 hbr2 hfr
    have hs2 := hbr2.size
    have hb := up hb hbr2
    have st : St 12 [(0, fI n), (2, Fact.cell b2 (Con.raw 1)), (4, fT)] a2 w2 := st2.to (fcs ⟨st2.at_ 0, fcs ⟨st2.at_ 2, fcs ⟨st2.at_ 4, fnl⟩⟩⟩)
    clear st2 hbr2 hfr
    refine wpList_nil ?_
    refine then_normal ?_
    refine wp_cond_true (st.at_ 4) ?_
    refine wp_seq ?_
    refine sym_region st [(5, fI n), (6, Fact.eq (.int .u64 (n + 18446744073709551616))), (7, Fact.eq (.int .u64 ((Int.natAbs n : Nat) : Int))), (8, Fact.agg (Con.nn 2 (Int.natAbs n)))] [] 4 (by kernel_rfl) (by kernel_rfl) (by kernel_rfl) (Nat.le_of_ble_eq_true rfl) (by kernel_rfl) rfl rfl ?_ ?_
    · refine fcn (ob_copy 0 5 (.inl rfl) rfl (.inl rfl) (by kernel_rfl) rfl) ?_
      refine fcn (ob_conv64 5 6 n (n + 18446744073709551616) hc rfl rfl (.inl rfl) (by kernel_rfl) rfl rfl) ?_
      refine fcn (ob_neg64 6 7 (n + 18446744073709551616) ((Int.natAbs n : Nat) : Int) hg rfl rfl (.inl rfl) (by kernel_rfl) rfl rfl) ?_
      refine fcn (ob_call1 61 7 8 _ rfl rfl (.inl rfl) (by kernel_rfl) (by kernel_rfl) (n_ofv 2 (Int.natAbs n) (amt_lt h) (of_sz (amt_lt h)) (by decide))) ?_
      exact fnl
    intro a3 w3 st3 hbr3 hfr
    have hs3 := hbr3.size
    have hb := up hb hbr3
    have st : St 12 [(0, fI n), (2, Fact.cell b2 (Con.raw 1)), (8, Fact.agg (Con.nn 2 (Int.natAbs n)))] a3 w3 := st3.to (fcs ⟨st3.at_ 0, fcs ⟨st3.at_ 2, fcs ⟨st3.at_ 8, fnl⟩⟩⟩)
    clear st3 hbr3 hfr
    refine sym_store st 24 2 8 b2 (Con.raw 1) (Con.nn 2 (Int.natAbs n)) [(0, fI n), (2, Fact.cell b2 (Con.nn 2 (Int.natAbs n)))] rfl rfl rfl rfl rfl rfl info24 ?_ ?_
    · exact fcs ⟨.inr ⟨rfl, safe_eq _ _⟩, fcs ⟨.inl rfl, fnl⟩⟩
    clear st; intro w4 hB hsz4 st
    have hb := hB _ _ hb (by omega) (by omega)
    clear hB
    refine wpList_nil ?_
    refine then_normal ?_
    refine wp_ret ?_
    exact sym_ret1 rfl st.defers (resAt_cell st 2 b2 24 (Con.nn 2 (Int.natAbs n)) rfl row24 info24) hb (fun _ h => h)
set_option maxRecDepth 100000 in
theorem q_ratio_of (n m : Int) (h : -9223372036854775808 ≤ n ∧ n ≤ 9223372036854775807) (h2 : -9223372036854775808 ≤ m ∧ m ≤ 9223372036854775807) (hm : Int.natAbs m ≠ 0) : ∀ v0 v1 w, (fI n).holds v0 w → (fI m).holds v1 w → Calls Tryz.prog 37 #[v0, v1] w (Ret (Fact.two (Fact.fr 2 (Rt.of ((decide (n < 0)) != (decide (m < 0))) (Int.natAbs n) (Int.natAbs m))) (fI 0)) w) := by
  intro v0 v1 w hv0 hv1
  refine sym_calls 18 [(0, fI n), (1, fI m)] Tryz.func37 rfl rfl (Nat.le_of_ble_eq_true rfl) (fcs ⟨⟨Nat.le_of_ble_eq_true rfl, hv0⟩, fcs ⟨⟨Nat.le_of_ble_eq_true rfl, hv1⟩, fnl⟩⟩) fun a st => ?_
  have hb := Below.refl w.heap.size w
  refine wp_seq ?_
  refine sym_region st [(4, Fact.var' (Con.raw 3)), (5, fI 0)] [4] 2 (by kernel_rfl) (by kernel_rfl) (by kernel_rfl) (Nat.le_of_ble_eq_true rfl) (by kernel_rfl) rfl rfl ?_ ?_
  · refine fcs ⟨obn_new 26 4 _ [.bool false, .slice none 0 0, .slice none 0 0] rfl rfl rfl rfl rfl alloc26, ?_⟩
    refine fcn (ob_const (.int .i64 0) 5 (.inr rfl) rfl (.inl rfl) rfl) ?_
    exact fnl
  intro a1 w1 st1 hbr1 hfr
  have hs1 := hbr1.size
  have hb := up hb hbr1
  obtain ⟨b4, c4⟩ := (show (Fact.var' (Con.raw 3)).holds _ _ from st1.at_ 4)
  have g4 := hfr.ge (s := 4) rfl c4.1
  have st : St 18 [(0, fI n), (1, fI m), (4, Fact.cell b4 (Con.raw 3)), (5, fI 0)] a1 w1 := st1.to (fcs ⟨st1.at_ 0, fcs ⟨st1.at_ 1, fcs ⟨c4, fcs ⟨st1.at_ 5, fnl⟩⟩⟩⟩)
  clear st1 hbr1 hfr c4
  refine wpList_nil ?_
  refine then_normal ?_
  refine wp_seq ?_
  have st := st.to (ks' := [(0, fI n), (1, fI m), (4, Fact.cell b4 (Con.raw 3))]) (fcs ⟨st.at_ 0, fcs ⟨st.at_ 1, fcs ⟨st.at_ 4, fnl⟩⟩⟩)
  refine sym_region st [(6, fI n), (7, Fact.eq (.bool (decide (n < 0)))), (8, fI m), (9, Fact.eq (.bool (decide (m < 0)))), (10, Fact.eq (.bool ((decide (n < 0)) != (decide (m < 0))))), (11, fI n), (12, Fact.agg (Con.nn 2 (Int.natAbs n))), (13, fI m), (14, Fact.agg (Con.nn 2 (Int.natAbs m))), (15, Fact.two (Fact.agg (Con.fr 2 (Rt.of ((decide (n < 0)) != (decide (m < 0))) (Int.natAbs n) (Int.natAbs m)))) (fI 0)), (16, Fact.agg (Con.fr 2 (Rt.of ((decide (n < 0)) != (decide (m < 0))) (Int.natAbs n) (Int.natAbs m)))), (17, fI 0)] [] 12 (by kernel_rfl) (by kernel_rfl) (by kernel_rfl) (Nat.le_of_ble_eq_true rfl) (by kernel_rfl) rfl rfl ?_ ?_
  · refine fcn (ob_copy 0 6 (.inl rfl) rfl (.inl rfl) (by kernel_rfl) rfl) ?_
    refine fcn (ob_ltc 6 7 .i64 2 _ n 0 (decide (n < 0)) rfl rfl rfl (.inl rfl) (by kernel_rfl) rfl rfl) ?_
    refine fcn (ob_copy 1 8 (.inl rfl) rfl (.inl rfl) (by kernel_rfl) rfl) ?_
    refine fcn (ob_ltc 8 9 .i64 2 _ m 0 (decide (m < 0)) rfl rfl rfl (.inl rfl) (by kernel_rfl) rfl rfl) ?_
    refine fcn (ob_neb 7 9 10 (decide (n < 0)) (decide (m < 0)) ((decide (n < 0)) != (decide (m < 0))) rfl rfl rfl (.inl rfl) (by kernel_rfl) (by kernel_rfl) rfl rfl rfl) ?_
    refine fcn (ob_copy 0 11 (.inl rfl) rfl (.inl rfl) (by kernel_rfl) rfl) ?_
    refine fcn (ob_call1 65 11 12 _ rfl rfl (.inl rfl) (by kernel_rfl) (by kernel_rfl) (q_magnitude n h)) ?_
    refine fcn (ob_copy 1 13 (.inl rfl) rfl (.inl rfl) (by kernel_rfl) rfl) ?_
    refine fcn (ob_call1 65 13 14 _ rfl rfl (.inl rfl) (by kernel_rfl) (by kernel_rfl) (q_magnitude m h2)) ?_
    refine fcn (ob_call3 51 10 12 14 15 _ rfl rfl (.inl rfl) (by kernel_rfl) (by kernel_rfl) (by kernel_rfl) (by kernel_rfl) (q_make 2 2 2 ((decide (n < 0)) != (decide (m < 0))) (Int.natAbs n) (Int.natAbs m) hm (by omega) (by omega) (by omega))) ?_
    refine fcn (ob_fst 15 16 (Fact.agg (Con.fr 2 (Rt.of ((decide (n < 0)) != (decide (m < 0))) (Int.natAbs n) (Int.natAbs m)))) (fI 0) rfl rfl (.inl rfl) (by kernel_rfl) rfl rfl) ?_
    refine fcn (ob_snd 15 17 (Fact.agg (Con.fr 2 (Rt.of ((decide (n < 0)) != (decide (m < 0))) (Int.natAbs n) (Int.natAbs m)))) (fI 0) rfl rfl (.inl rfl) (by kernel_rfl) rfl rfl) ?_
    exact fnl
  intro a2 w2 st2 hbr2 hfr
  have hs2 := hbr2.size
  have hb := up hb hbr2
  have st : St 18 [(4, Fact.cell b4 (Con.raw 3)), (16, Fact.agg (Con.fr 2 (Rt.of ((decide (n < 0)) != (decide (m < 0))) (Int.natAbs n) (Int.natAbs m)))), (17, fI 0)] a2 w2 := st2.to (fcs ⟨st2.at_ 4, fcs ⟨st2.at_ 16, fcs ⟨st2.at_ 17, fnl⟩⟩⟩)
  clear st2 hbr2 hfr
  refine sym_store st 26 4 16 b4 (Con.raw 3) (Con.fr 2 (Rt.of ((decide (n < 0)) != (decide (m < 0))) (Int.natAbs n) (Int.natAbs m))) [(4, Fact.cell b4 (Con.fr 2 (Rt.of ((decide (n < 0)) != (decide (m < 0))) (Int.natAbs n) (Int.natAbs m)))), (17, fI 0)] rfl rfl rfl rfl rfl rfl info26 ?_ ?_
  · exact fcs ⟨.inl rfl, fcs ⟨.inr ⟨rfl, safe_eq _ _⟩, fnl⟩⟩
  clear st; intro w3 hB hsz3 st
  have hb := hB _ _ hb (by omega) (by omega)
  clear hB
  refine sym_op st 5 (fI 0) rfl (Nat.le_of_ble_eq_true rfl) rfl rfl (by kernel_rfl) (ob_copy 17 5 (.inr rfl) rfl (.inl rfl) (by kernel_rfl) rfl) ?_
  clear st; intro a4 w4 hbr st; have hs4 := hbr.size; have hb := up hb hbr; clear hbr
  refine wpList_nil ?_
  refine then_normal ?_
  refine wp_ret ?_
  exact sym_ret2 rfl st.defers (resAt_cell st 4 b4 26 (Con.fr 2 (Rt.of ((decide (n < 0)) != (decide (m < 0))) (Int.natAbs n) (Int.natAbs m))) rfl row26 info26) (resAt_tmp st 5) hb (fun v u h1 h2 => ⟨v, u, rfl, h1, h2⟩)
set_option maxRecDepth 100000 in
theorem q_ratio0 (n m : Int) (h : -9223372036854775808 ≤ n ∧ n ≤ 9223372036854775807) (h2 : -9223372036854775808 ≤ m ∧ m ≤ 9223372036854775807) (hm : Int.natAbs m = 0) : ∀ v0 v1 w, (fI n).holds v0 w → (fI m).holds v1 w → Calls Tryz.prog 37 #[v0, v1] w (Ret (Fact.two (Fact.agg (Con.tri 1 1 false 0 0)) (fI 8)) w) := by
  intro v0 v1 w hv0 hv1
  refine sym_calls 18 [(0, fI n), (1, fI m)] Tryz.func37 rfl rfl (Nat.le_of_ble_eq_true rfl) (fcs ⟨⟨Nat.le_of_ble_eq_true rfl, hv0⟩, fcs ⟨⟨Nat.le_of_ble_eq_true rfl, hv1⟩, fnl⟩⟩) fun a st => ?_
  have hb := Below.refl w.heap.size w
  refine wp_seq ?_
  refine sym_region st [(4, Fact.var' (Con.raw 3)), (5, fI 0)] [4] 2 (by kernel_rfl) (by kernel_rfl) (by kernel_rfl) (Nat.le_of_ble_eq_true rfl) (by kernel_rfl) rfl rfl ?_ ?_
  · refine fcs ⟨obn_new 26 4 _ [.bool false, .slice none 0 0, .slice none 0 0] rfl rfl rfl rfl rfl alloc26, ?_⟩
    refine fcn (ob_const (.int .i64 0) 5 (.inr rfl) rfl (.inl rfl) rfl) ?_
    exact fnl
  intro a1 w1 st1 hbr1 hfr
  have hs1 := hbr1.size
  have hb := up hb hbr1
  obtain ⟨b4, c4⟩ := (show (Fact.var' (Con.raw 3)).holds _ _ from st1.at_ 4)
  have g4 := hfr.ge (s := 4) rfl c4.1
  have st : St 18 [(0, fI n), (1, fI m), (4, Fact.cell b4 (Con.raw 3)), (5, fI 0)] a1 w1 := st1.to (fcs ⟨st1.at_ 0, fcs ⟨st1.at_ 1, fcs ⟨c4, fcs ⟨st1.at_ 5, fnl⟩⟩⟩⟩)
  clear st1 hbr1 hfr c4
  refine wpList_nil ?_
  refine then_normal ?_
  refine wp_seq ?_
  have st := st.to (ks' := [(0, fI n), (1, fI m), (4, Fact.cell b4 (Con.raw 3))]) (fcs ⟨st.at_ 0, fcs ⟨st.at_ 1, fcs ⟨st.at_ 4, fnl⟩⟩⟩)
  refine sym_region st [(6, fI n), (7, Fact.eq (.bool (decide (n < 0)))), (8, fI m), (9, Fact.eq (.bool (decide (m < 0)))), (10, Fact.eq (.bool ((decide (n < 0)) != (decide (m < 0))))), (11, fI n), (12, Fact.agg (Con.nn 2 (Int.natAbs n))), (13, fI m), (14, Fact.agg (Con.nn 2 (Int.natAbs m))), (15, Fact.two (Fact.agg (Con.tri 1 1 false 0 0)) (fI 8)), (16, Fact.agg (Con.tri 1 1 false 0 0)), (17, fI 8)] [] 12 (by kernel_rfl) (by kernel_rfl) (by kernel_rfl) (Nat.le_of_ble_eq_true rfl) (by kernel_rfl) rfl rfl ?_ ?_
  · refine fcn (ob_copy 0 6 (.inl rfl) rfl (.inl rfl) (by kernel_rfl) rfl) ?_
    refine fcn (ob_ltc 6 7 .i64 2 _ n 0 (decide (n < 0)) rfl rfl rfl (.inl rfl) (by kernel_rfl) rfl rfl) ?_
    refine fcn (ob_copy 1 8 (.inl rfl) rfl (.inl rfl) (by kernel_rfl) rfl) ?_
    refine fcn (ob_ltc 8 9 .i64 2 _ m 0 (decide (m < 0)) rfl rfl rfl (.inl rfl) (by kernel_rfl) rfl rfl) ?_
    refine fcn (ob_neb 7 9 10 (decide (n < 0)) (decide (m < 0)) ((decide (n < 0)) != (decide (m < 0))) rfl rfl rfl (.inl rfl) (by kernel_rfl) (by kernel_rfl) rfl rfl rfl) ?_
    refine fcn (ob_copy 0 11 (.inl rfl) rfl (.inl rfl) (by kernel_rfl) rfl) ?_
    refine fcn (ob_call1 65 11 12 _ rfl rfl (.inl rfl) (by kernel_rfl) (by kernel_rfl) (q_magnitude n h)) ?_
    refine fcn (ob_copy 1 13 (.inl rfl) rfl (.inl rfl) (by kernel_rfl) rfl) ?_
    refine fcn (ob_call1 65 13 14 _ rfl rfl (.inl rfl) (by kernel_rfl) (by kernel_rfl) (q_magnitude m h2)) ?_
    refine fcn (ob_call3 51 10 12 14 15 _ rfl rfl (.inl rfl) (by kernel_rfl) (by kernel_rfl) (by kernel_rfl) (by kernel_rfl) (q_make0 2 2 ((decide (n < 0)) != (decide (m < 0))) (Int.natAbs n) (Int.natAbs m) hm)) ?_
    refine fcn (ob_fst 15 16 (Fact.agg (Con.tri 1 1 false 0 0)) (fI 8) rfl rfl (.inl rfl) (by kernel_rfl) rfl rfl) ?_
    refine fcn (ob_snd 15 17 (Fact.agg (Con.tri 1 1 false 0 0)) (fI 8) rfl rfl (.inl rfl) (by kernel_rfl) rfl rfl) ?_
    exact fnl
  intro a2 w2 st2 hbr2 hfr
  have hs2 := hbr2.size
  have hb := up hb hbr2
  have st : St 18 [(4, Fact.cell b4 (Con.raw 3)), (16, Fact.agg (Con.tri 1 1 false 0 0)), (17, fI 8)] a2 w2 := st2.to (fcs ⟨st2.at_ 4, fcs ⟨st2.at_ 16, fcs ⟨st2.at_ 17, fnl⟩⟩⟩)
  clear st2 hbr2 hfr
  refine sym_store st 26 4 16 b4 (Con.raw 3) (Con.tri 1 1 false 0 0) [(4, Fact.cell b4 (Con.tri 1 1 false 0 0)), (17, fI 8)] rfl rfl rfl rfl rfl rfl info26 ?_ ?_
  · exact fcs ⟨.inl rfl, fcs ⟨.inr ⟨rfl, safe_eq _ _⟩, fnl⟩⟩
  clear st; intro w3 hB hsz3 st
  have hb := hB _ _ hb (by omega) (by omega)
  clear hB
  refine sym_op st 5 (fI 8) rfl (Nat.le_of_ble_eq_true rfl) rfl rfl (by kernel_rfl) (ob_copy 17 5 (.inr rfl) rfl (.inl rfl) (by kernel_rfl) rfl) ?_
  clear st; intro a4 w4 hbr st; have hs4 := hbr.size; have hb := up hb hbr; clear hbr
  refine wpList_nil ?_
  refine then_normal ?_
  refine wp_ret ?_
  exact sym_ret2 rfl st.defers (resAt_cell st 4 b4 26 (Con.tri 1 1 false 0 0) rfl row26 info26) (resAt_tmp st 5) hb (fun v u h1 h2 => ⟨v, u, rfl, h1, h2⟩)
end Go.Proofs.YtjfehdkfogdpgaaGreatDoor
namespace Go.Proofs.YtjfehdkfogdpgaaGreatDoor
open Go.RowKit
def Con.any_ (zs : List Nat) : Con := ⟨1, fun w cs => ∃ A c, cs = [.slice A zs.length c] ∧ Rd w A zs ∧ zs.length ≤ c ∧ Nm.Dig zs,
  fun _ _ ⟨_, _, h, _⟩ => by rw [h]; rfl, fun _ _ ⟨_, _, e, _⟩ v hv => by rw [e] at hv; rw [List.mem_singleton.1 hv]; exact ⟨rfl, rfl⟩, fun _ _ _ ⟨A, c, h, hn, hz⟩ hb => ⟨A, c, h, hn.below hb, hz⟩, fun _ _ _ ⟨A, c, h, hn, hz⟩ hs => ⟨A, c, h, hn.soft hs, hz⟩⟩
def Con.dg (zs : List Nat) : Con := ⟨1, fun w cs => ∃ A c, cs = [.slice A zs.length c] ∧ Num w A zs.length c zs,
  fun _ _ ⟨_, _, h, _⟩ => by rw [h]; rfl, fun _ _ ⟨_, _, e, _⟩ v hv => by rw [e] at hv; rw [List.mem_singleton.1 hv]; exact ⟨rfl, rfl⟩, fun _ _ _ ⟨A, c, h, hn⟩ hb => ⟨A, c, h, hn.below hb⟩, fun _ _ _ ⟨A, c, h, hn⟩ hs => ⟨A, c, h, hn.soft hs⟩⟩
def Con.pre (s : Bool) (xs ys : List Nat) : Con := (Con.bool s).app ((Con.any_ xs).app (Con.any_ ys))
def Con.few (s : Bool) (xs ys : List Nat) : Con := (Con.bool s).app ((Con.dg xs).app (Con.dg ys))
theorem Con.few_1 (s : Bool) (xs ys : List Nat) : (Con.few s xs ys).Sub 1 (Con.dg xs) := ((Con.Sub.refl _).left (D := Con.dg ys)).right (C := Con.bool s)
theorem Con.few_2 (s : Bool) (xs ys : List Nat) : (Con.few s xs ys).Sub 2 (Con.dg ys) := ((Con.Sub.refl _).right (C := Con.dg xs)).right (C := Con.bool s)
theorem Con.pre_1 (s : Bool) (xs ys : List Nat) : (Con.pre s xs ys).Sub 1 (Con.any_ xs) := ((Con.Sub.refl _).left (D := Con.any_ ys)).right (C := Con.bool s)
theorem Con.pre_2 (s : Bool) (xs ys : List Nat) : (Con.pre s xs ys).Sub 2 (Con.any_ ys) := ((Con.Sub.refl _).right (C := Con.any_ xs)).right (C := Con.bool s)
theorem Fact.pre_few {s : Bool} {xs ys : List Nat} {v : Value} {w : World} (h : (Fact.agg (Con.pre s xs ys)).holds v w) (hx : xs.length ≤ 400) (hy : ys.length ≤ 400) : (Fact.agg (Con.few s xs ys)).holds v w := by
  obtain ⟨cs, h1, a, b, h2, h3, c, d, h4, ⟨A, e, h5, h6, h7, h8⟩, ⟨B, f, k5, k6, k7, k8⟩⟩ := h
  exact ⟨cs, h1, a, b, h2, h3, c, d, h4, ⟨A, e, h5, h6, rfl, h7, h8, hx⟩, ⟨B, f, k5, k6, rfl, k7, k8, hy⟩⟩
theorem Fact.few_tri {s : Bool} {xs ys : List Nat} {v : Value} {w : World} {k l : Nat} (h : (Fact.agg (Con.few s xs ys)).holds v w) (hx : Nm.tlen xs = xs.length) (hy : Nm.tlen ys = ys.length) (hk : xs.length ≤ k) (hl : ys.length ≤ l) : (Fact.agg (Con.tri k l s (Nm.val xs) (Nm.val ys))).holds v w := by
  obtain ⟨cs, h1, a, b, h2, h3, c, d, h4, ⟨A, e, h5, h6⟩, ⟨B, f, k5, k6⟩⟩ := h
  have ex := Nm.eq_nat h6.dig hx
  have ey := Nm.eq_nat k6.dig hy
  have zx : Nm.Sz k (Nm.val xs) := Nat.lt_of_lt_of_le (Nm.val_lt h6.dig) (Nat.pow_le_pow_right (by omega) hk)
  have zy : Nm.Sz l (Nm.val ys) := Nat.lt_of_lt_of_le (Nm.val_lt k6.dig) (Nat.pow_le_pow_right (by omega) hl)
  refine ⟨cs, h1, a, b, h2, h3, c, d, h4, ⟨A, e, ?_, ?_, zx⟩, ⟨B, f, ?_, ?_, zy⟩⟩
  · rw [← ex]; exact h5
  · rw [← ex]; exact h6
  · rw [← ey]; exact k5
  · rw [← ey]; exact k6
def vldB (s : Bool) (xs ys : List Nat) : Bool := decide (Nm.tlen xs = xs.length) && (decide (Nm.tlen ys = ys.length) && (!decide (ys.length = 0) && (!(s && decide (xs.length = 0)) && decide (Nat.gcd (Nm.val xs) (Nm.val ys) = 1))))
def fitB (s : Bool) (xs ys : List Nat) : Bool := decide (xs.length ≤ 12) && (decide (ys.length ≤ 12) && vldB s xs ys)
theorem len_val {zs : List Nat} (hd : Nm.Dig zs) (ht : Nm.tlen zs = zs.length) : zs.length = 0 ↔ Nm.val zs = 0 := by
  have e := Nm.eq_nat hd ht
  constructor
  · intro h
    rw [List.eq_nil_of_length_eq_zero h]; rfl
  · intro h
    rw [e, h, Nm.nat_zero]; rfl
theorem vldB_vld {s : Bool} {xs ys : List Nat} (h : vldB s xs ys = true) (hx : Nm.Dig xs) (hy : Nm.Dig ys) : Nm.tlen xs = xs.length ∧ Nm.tlen ys = ys.length ∧ Rt.Vld s (Nm.val xs) (Nm.val ys) := by
  simp only [vldB, Bool.and_eq_true, decide_eq_true_eq, Bool.not_eq_true', decide_eq_false_iff_not, Bool.and_eq_false_iff] at h
  obtain ⟨h1, h2, h3, h4, h5⟩ := h
  refine ⟨h1, h2, fun e => h3 ((len_val hy h2).2 e), h5, fun hs e => ?_⟩
  rcases h4 with h4 | h4
  · rw [hs] at h4; cases h4
  · exact h4 ((len_val hx h1).2 e)
theorem Fact.few_fr {s : Bool} {xs ys : List Nat} {v : Value} {w : World} {k : Nat} (h : (Fact.agg (Con.few s xs ys)).holds v w) (hx : xs.length ≤ k) (hy : ys.length ≤ k) (hv : vldB s xs ys = true) : (Fact.fr k (Rt.of s (Nm.val xs) (Nm.val ys))).holds v w := by
  have hd : Nm.Dig xs ∧ Nm.Dig ys := by
    obtain ⟨cs, h1, a, b, h2, h3, c, d, h4, ⟨A, e, h5, h6⟩, ⟨B, f, k5, k6⟩⟩ := h
    exact ⟨h6.dig, k6.dig⟩
  obtain ⟨h1, h2, h3⟩ := vldB_vld hv hd.1 hd.2
  refine Fact.tri_eq (Fact.few_tri h h1 h2 hx hy) ?_ ?_ ?_
  · exact h3.ng.symm
  · exact h3.tp.symm
  · exact h3.den.symm
theorem Fact.pre_fr {s : Bool} {xs ys : List Nat} {v : Value} {w : World} (h : (Fact.agg (Con.pre s xs ys)).holds v w) (hf : fitB s xs ys = true) : (Fact.fr 12 (Rt.of s (Nm.val xs) (Nm.val ys))).holds v w := by
  simp only [fitB, Bool.and_eq_true, decide_eq_true_eq] at hf
  exact Fact.few_fr (Fact.pre_few h (by omega) (by omega)) hf.1 hf.2.1 hf.2.2
theorem d_valid (zs : List Nat) (b : Bool) (hb : decide (Nm.tlen zs = zs.length) = b) : ∀ v w, (Fact.agg (Con.dg zs)).holds v w → Calls Tryz.prog 43 #[v] w (Ret (Fact.eq (.bool b)) w) := by
  rintro v w ⟨cs, rfl, A, c, rfl, hn⟩
  exact (refValid_any A c _ w hn.rd (by have := hn.small; omega)).mono fun _ _ ⟨he, hb'⟩ => ⟨_, he, hb', by rw [hb]; rfl⟩
def Fact.rowd (zs : List Nat) : Fact := ⟨fun v w => ∃ A c, v = .slice A zs.length c ∧ Rd w A zs, fun _ _ _ ⟨A, c, h, hn⟩ hb => ⟨A, c, h, hn.below hb⟩⟩
theorem len_rowd {zs : List Nat} : ∀ v w, (Fact.rowd zs).holds v w → ∃ A c, v = .slice A zs.length c := fun _ _ ⟨A, c, h, _⟩ => ⟨A, c, h⟩
section
variable {ops : Array Oper} {Q : Exit → Act → World → Prop} {F : Nat → Fact} {base : List Nat} {N : Nat} {o : Oper}
theorem ob_loadrowd (t d : Nat) (zs : List Nat) (C : Con) (hC : ∀ w cs, C.is w cs → ∃ A c, cs = [.slice A zs.length c] ∧ Rd w A zs) (ho : o.op = .load 22 (.tmp t)) (hd : o.dst = some d) (hg : GuardOk ops F base N o) (hk : known ops base o t = true) (hv : Points (F t) C) (hF : F d = Fact.rowd zs) : Ob ops Q F base N o :=
  ob_val hg fun a w hf => by
    obtain ⟨b, off, h2, _, cs, hc, his⟩ := hv _ _ (hf t hk)
    obtain ⟨A, c, rfl, hn⟩ := hC w cs his
    have h3 : a.eval (.tmp t) = .pointer (some ⟨b, off, none⟩) := h2
    have h4 := load22 w b off A _ c (by simpa using hc 0 _ rfl)
    refine ⟨.slice A zs.length c, w, by simp [execOp, ho, h3, h4], Below.refl _ _, fun s hs => ?_⟩
    rw [hd] at hs; injection hs with hs; subst hs; rw [hF]
    exact ⟨A, c, rfl, hn⟩
end
theorem any_row {zs : List Nat} : ∀ w cs, (Con.any_ zs).is w cs → ∃ A c, cs = [.slice A zs.length c] ∧ Rd w A zs := fun _ _ ⟨A, c, h, hn, _⟩ => ⟨A, c, h, hn⟩
theorem dg_row {zs : List Nat} : ∀ w cs, (Con.dg zs).is w cs → ∃ A c, cs = [.slice A zs.length c] ∧ Rd w A zs := fun _ _ ⟨A, c, h, hn⟩ => ⟨A, c, h, hn.rd⟩
end Go.Proofs.YtjfehdkfogdpgaaGreatDoor
namespace Go.Proofs.YtjfehdkfogdpgaaGreatDoor
open Go.RowKit
def vldT (s : Bool) (p q : Nat) : Bool := !decide (q = 0) && (!(s && decide (p = 0)) && decide (Nat.gcd p q = 1))
theorem vldB_no1 {s : Bool} {xs ys : List Nat} (h : decide (Nm.tlen xs = xs.length) = false) : vldB s xs ys = false := by unfold vldB; rw [h]; rfl
theorem vldB_no2 {s : Bool} {xs ys : List Nat} (h1 : decide (Nm.tlen xs = xs.length) = true) (h : decide (Nm.tlen ys = ys.length) = false) : vldB s xs ys = false := by unfold vldB; rw [h1, h]; rfl
theorem vldB_vldT {s : Bool} {xs ys : List Nat} (hx : Nm.Dig xs) (hy : Nm.Dig ys) (h1 : decide (Nm.tlen xs = xs.length) = true) (h2 : decide (Nm.tlen ys = ys.length) = true) : vldB s xs ys = vldT s (Nm.val xs) (Nm.val ys) := by
  unfold vldB vldT
  rw [h1, h2]
  have e1 := len_val hx (of_decide_eq_true h1)
  have e2 := len_val hy (of_decide_eq_true h2)
  simp only [e1, e2, Bool.true_and]
set_option maxRecDepth 100000 in
theorem z_valid_a (k l : Nat) (s : Bool) (p q : Nat) (hq : q = 0) : ∀ v0 w, (Fact.agg (Con.tri k l s p q)).holds v0 w → Calls Tryz.prog 12 #[v0] w (Ret (fF) w) := by
  intro v0 w hv0
  refine sym_calls 34 [(0, Fact.agg (Con.tri k l s p q))] Tryz.func12 rfl rfl (Nat.le_of_ble_eq_true rfl) (fcs ⟨⟨Nat.le_of_ble_eq_true rfl, hv0⟩, fnl⟩) fun a st => ?_
  have hb := Below.refl w.heap.size w
  refine wp_seq ?_
  refine sym_region st [(1, Fact.var' (Con.tri k l s p q)), (2, fF)] [1] 2 (by kernel_rfl) (by kernel_rfl) (by kernel_rfl) (Nat.le_of_ble_eq_true rfl) (by kernel_rfl) rfl rfl ?_ ?_
  · refine fcs ⟨obn_box 26 0 1 _ (Con.tri k l s p q) rfl rfl rfl (by kernel_rfl) rfl rfl, ?_⟩
    refine fcn (ob_const (.bool false) 2 (.inr rfl) rfl (.inl rfl) rfl) ?_
    exact fnl
  intro a1 w1 st1 hbr1 hfr
  have hs1 := hbr1.size
  have hb := up hb hbr1
  obtain ⟨b1, c1⟩ := (show (Fact.var' (Con.tri k l s p q)).holds _ _ from st1.at_ 1)
  have g1 := hfr.ge (s := 1) rfl c1.1
  have st : St 34 [(1, Fact.cell b1 (Con.tri k l s p q)), (2, fF)] a1 w1 := st1.to (fcs ⟨c1, fcs ⟨st1.at_ 2, fnl⟩⟩)
  clear st1 hbr1 hfr c1
  refine wpList_nil ?_
  refine then_normal ?_
  refine wp_seq ?_
  refine wp_seq ?_
  refine sym_region st [(3, Fact.ptr (Con.nn k p)), (4, Fact.agg (Con.nn k p)), (5, fT), (6, fF), (7, fF), (8, Fact.ptr (Con.nn l q)), (9, Fact.agg (Con.nn l q)), (10, fT), (11, fF), (12, fF), (13, fF), (14, Fact.ptr (Con.nn l q)), (15, Fact.agg (Con.nn l q)), (16, fT), (17, fT), (18, fT), (19, Fact.eq undef), (20, Fact.eq undef), (21, Fact.eq undef), (22, Fact.eq undef), (23, Fact.eq undef), (24, Fact.eq undef), (25, Fact.eq undef), (26, fT)] [] 24 (by kernel_rfl) (by kernel_rfl) (by kernel_rfl) (Nat.le_of_ble_eq_true rfl) (by kernel_rfl) rfl rfl ?_ ?_
  · refine fcn (ob_addr 26 1 1 3 1 (Con.tri k l s p q) (Con.nn k p) rfl rfl (.inl rfl) (by kernel_rfl) points_cell rfl (Con.tri_1 k l s p q) field26_1) ?_
    refine fcn (ob_read 24 3 4 (Con.nn k p) rfl rfl (.inl rfl) (by kernel_rfl) points_ptr rfl row24 info24) ?_
    refine fcn (ob_call1 43 4 5 _ rfl rfl (.inl rfl) (by kernel_rfl) (by kernel_rfl) (r_valid k p)) ?_
    refine fcn (ob_not 5 6 true false rfl rfl rfl (.inl rfl) (by kernel_rfl) rfl rfl) ?_
    refine fcn (ob_copy 6 7 (.inl rfl) rfl (.inl rfl) (by kernel_rfl) rfl) ?_
    refine fcn (ob_addr 26 2 1 8 2 (Con.tri k l s p q) (Con.nn l q) rfl rfl (.inr ⟨_, _, _, rfl, rfl, by kernel_rfl, by decide, rfl⟩) (by kernel_rfl) points_cell rfl (Con.tri_2 k l s p q) field26_2) ?_
    refine fcn (ob_read 24 8 9 (Con.nn l q) rfl rfl (.inr ⟨_, _, _, rfl, rfl, by kernel_rfl, by decide, rfl⟩) (by kernel_rfl) points_ptr rfl row24 info24) ?_
    refine fcn (ob_call1 43 9 10 _ rfl rfl (.inr ⟨_, _, _, rfl, rfl, by kernel_rfl, by decide, rfl⟩) (by kernel_rfl) (by kernel_rfl) (r_valid l q)) ?_
    refine fcn (ob_not 10 11 true false rfl rfl rfl (.inr ⟨_, _, _, rfl, rfl, by kernel_rfl, by decide, rfl⟩) (by kernel_rfl) rfl rfl) ?_
    refine fcn (ob_pick_else 7 11 12 (.bool true) rfl rfl (.inl rfl) (by kernel_rfl) (by kernel_rfl) rfl rfl) ?_
    refine fcn (ob_copy 12 13 (.inl rfl) rfl (.inl rfl) (by kernel_rfl) rfl) ?_
    refine fcn (ob_addr 26 2 1 14 2 (Con.tri k l s p q) (Con.nn l q) rfl rfl (.inr ⟨_, _, _, rfl, rfl, by kernel_rfl, by decide, rfl⟩) (by kernel_rfl) points_cell rfl (Con.tri_2 k l s p q) field26_2) ?_
    refine fcn (ob_read 24 14 15 (Con.nn l q) rfl rfl (.inr ⟨_, _, _, rfl, rfl, by kernel_rfl, by decide, rfl⟩) (by kernel_rfl) points_ptr rfl row24 info24) ?_
    refine fcn (ob_call1 44 15 16 _ rfl rfl (.inr ⟨_, _, _, rfl, rfl, by kernel_rfl, by decide, rfl⟩) (by kernel_rfl) (by kernel_rfl) (z_zero l q true (decide_eq_true hq))) ?_
    refine fcn (ob_pick_else 13 16 17 (.bool true) rfl rfl (.inl rfl) (by kernel_rfl) (by kernel_rfl) rfl rfl) ?_
    refine fcn (ob_copy 17 18 (.inl rfl) rfl (.inl rfl) (by kernel_rfl) rfl) ?_
    refine fcn (ob_skip 15 18 19 false rfl rfl (by kernel_rfl) (by decide) rfl rfl rfl) ?_
    refine fcn (ob_skip 15 18 20 false rfl rfl (by kernel_rfl) (by decide) rfl rfl rfl) ?_
    refine fcn (ob_skip 15 18 21 false rfl rfl (by kernel_rfl) (by decide) rfl rfl rfl) ?_
    refine fcn (ob_skip2 18 21 22 true rfl rfl (by kernel_rfl) (by decide) rfl rfl rfl) ?_
    refine fcn (ob_skip2 18 21 23 true rfl rfl (by kernel_rfl) (by decide) rfl rfl rfl) ?_
    refine fcn (ob_skip2 18 21 24 true rfl rfl (by kernel_rfl) (by decide) rfl rfl rfl) ?_
    refine fcn (ob_skip 15 18 25 false rfl rfl (by kernel_rfl) (by decide) rfl rfl rfl) ?_
    refine fcn (ob_pick_or 18 25 26 (.bool true) rfl rfl (.inl rfl) (by kernel_rfl) rfl rfl) ?_
    exact fnl
  intro a2 w2 st2 hbr2 hfr
  have hs2 := hbr2.size
  have hb := up hb hbr2
  have st : St 34 [(1, Fact.cell b1 (Con.tri k l s p q)), (2, fF), (26, fT)] a2 w2 := st2.to (fcs ⟨st2.at_ 1, fcs ⟨st2.at_ 2, fcs ⟨st2.at_ 26, fnl⟩⟩⟩)
  clear st2 hbr2 hfr
  refine wpList_nil ?_
  refine then_normal ?_
  refine wp_cond_true (st.at_ 26) ?_
  refine wp_seq ?_
  have st := st.to (ks' := [(1, Fact.cell b1 (Con.tri k l s p q)), (26, fT)]) (fcs ⟨st.at_ 1, fcs ⟨st.at_ 26, fnl⟩⟩)
  refine sym_region st [(2, fF)] [] 1 (by kernel_rfl) (by kernel_rfl) (by kernel_rfl) (Nat.le_of_ble_eq_true rfl) (by kernel_rfl) rfl rfl ?_ ?_
  · refine fcn (ob_const (.bool false) 2 (.inr rfl) rfl (.inl rfl) rfl) ?_
    exact fnl
  intro a3 w3 st3 hbr3 hfr
  have hs3 := hbr3.size
  have hb := up hb hbr3
  have st : St 34 [(1, Fact.cell b1 (Con.tri k l s p q)), (2, fF)] a3 w3 := st3.to (fcs ⟨st3.at_ 1, fcs ⟨st3.at_ 2, fnl⟩⟩)
  clear st3 hbr3 hfr
  refine wpList_nil ?_
  refine then_normal ?_
  refine wp_ret ?_
  exact sym_ret1 rfl st.defers (resAt_tmp st 2) hb (fun _ h => h)
set_option maxRecDepth 100000 in
theorem z_valid_b (k l : Nat) (p q : Nat) (hq : q ≠ 0) (hp : p = 0) : ∀ v0 w, (Fact.agg (Con.tri k l true p q)).holds v0 w → Calls Tryz.prog 12 #[v0] w (Ret (fF) w) := by
  intro v0 w hv0
  refine sym_calls 34 [(0, Fact.agg (Con.tri k l true p q))] Tryz.func12 rfl rfl (Nat.le_of_ble_eq_true rfl) (fcs ⟨⟨Nat.le_of_ble_eq_true rfl, hv0⟩, fnl⟩) fun a st => ?_
  have hb := Below.refl w.heap.size w
  refine wp_seq ?_
  refine sym_region st [(1, Fact.var' (Con.tri k l true p q)), (2, fF)] [1] 2 (by kernel_rfl) (by kernel_rfl) (by kernel_rfl) (Nat.le_of_ble_eq_true rfl) (by kernel_rfl) rfl rfl ?_ ?_
  · refine fcs ⟨obn_box 26 0 1 _ (Con.tri k l true p q) rfl rfl rfl (by kernel_rfl) rfl rfl, ?_⟩
    refine fcn (ob_const (.bool false) 2 (.inr rfl) rfl (.inl rfl) rfl) ?_
    exact fnl
  intro a1 w1 st1 hbr1 hfr
  have hs1 := hbr1.size
  have hb := up hb hbr1
  obtain ⟨b1, c1⟩ := (show (Fact.var' (Con.tri k l true p q)).holds _ _ from st1.at_ 1)
  have g1 := hfr.ge (s := 1) rfl c1.1
  have st : St 34 [(1, Fact.cell b1 (Con.tri k l true p q)), (2, fF)] a1 w1 := st1.to (fcs ⟨c1, fcs ⟨st1.at_ 2, fnl⟩⟩)
  clear st1 hbr1 hfr c1
  refine wpList_nil ?_
  refine then_normal ?_
  refine wp_seq ?_
  refine wp_seq ?_
  refine sym_region st [(3, Fact.ptr (Con.nn k p)), (4, Fact.agg (Con.nn k p)), (5, fT), (6, fF), (7, fF), (8, Fact.ptr (Con.nn l q)), (9, Fact.agg (Con.nn l q)), (10, fT), (11, fF), (12, fF), (13, fF), (14, Fact.ptr (Con.nn l q)), (15, Fact.agg (Con.nn l q)), (16, fF), (17, fF), (18, fF), (19, Fact.ptr (Con.bool true)), (20, fT), (21, fT), (22, Fact.ptr (Con.nn k p)), (23, Fact.agg (Con.nn k p)), (24, fT), (25, fT), (26, fT)] [] 24 (by kernel_rfl) (by kernel_rfl) (by kernel_rfl) (Nat.le_of_ble_eq_true rfl) (by kernel_rfl) rfl rfl ?_ ?_
  · refine fcn (ob_addr 26 1 1 3 1 (Con.tri k l true p q) (Con.nn k p) rfl rfl (.inl rfl) (by kernel_rfl) points_cell rfl (Con.tri_1 k l true p q) field26_1) ?_
    refine fcn (ob_read 24 3 4 (Con.nn k p) rfl rfl (.inl rfl) (by kernel_rfl) points_ptr rfl row24 info24) ?_
    refine fcn (ob_call1 43 4 5 _ rfl rfl (.inl rfl) (by kernel_rfl) (by kernel_rfl) (r_valid k p)) ?_
    refine fcn (ob_not 5 6 true false rfl rfl rfl (.inl rfl) (by kernel_rfl) rfl rfl) ?_
    refine fcn (ob_copy 6 7 (.inl rfl) rfl (.inl rfl) (by kernel_rfl) rfl) ?_
    refine fcn (ob_addr 26 2 1 8 2 (Con.tri k l true p q) (Con.nn l q) rfl rfl (.inr ⟨_, _, _, rfl, rfl, by kernel_rfl, by decide, rfl⟩) (by kernel_rfl) points_cell rfl (Con.tri_2 k l true p q) field26_2) ?_
    refine fcn (ob_read 24 8 9 (Con.nn l q) rfl rfl (.inr ⟨_, _, _, rfl, rfl, by kernel_rfl, by decide, rfl⟩) (by kernel_rfl) points_ptr rfl row24 info24) ?_
    refine fcn (ob_call1 43 9 10 _ rfl rfl (.inr ⟨_, _, _, rfl, rfl, by kernel_rfl, by decide, rfl⟩) (by kernel_rfl) (by kernel_rfl) (r_valid l q)) ?_
    refine fcn (ob_not 10 11 true false rfl rfl rfl (.inr ⟨_, _, _, rfl, rfl, by kernel_rfl, by decide, rfl⟩) (by kernel_rfl) rfl rfl) ?_
    refine fcn (ob_pick_else 7 11 12 (.bool true) rfl rfl (.inl rfl) (by kernel_rfl) (by kernel_rfl) rfl rfl) ?_
    refine fcn (ob_copy 12 13 (.inl rfl) rfl (.inl rfl) (by kernel_rfl) rfl) ?_
    refine fcn (ob_addr 26 2 1 14 2 (Con.tri k l true p q) (Con.nn l q) rfl rfl (.inr ⟨_, _, _, rfl, rfl, by kernel_rfl, by decide, rfl⟩) (by kernel_rfl) points_cell rfl (Con.tri_2 k l true p q) field26_2) ?_
    refine fcn (ob_read 24 14 15 (Con.nn l q) rfl rfl (.inr ⟨_, _, _, rfl, rfl, by kernel_rfl, by decide, rfl⟩) (by kernel_rfl) points_ptr rfl row24 info24) ?_
    refine fcn (ob_call1 44 15 16 _ rfl rfl (.inr ⟨_, _, _, rfl, rfl, by kernel_rfl, by decide, rfl⟩) (by kernel_rfl) (by kernel_rfl) (z_zero l q false (decide_eq_false hq))) ?_
    refine fcn (ob_pick_else 13 16 17 (.bool true) rfl rfl (.inl rfl) (by kernel_rfl) (by kernel_rfl) rfl rfl) ?_
    refine fcn (ob_copy 17 18 (.inl rfl) rfl (.inl rfl) (by kernel_rfl) rfl) ?_
    refine fcn (ob_addr 26 0 1 19 0 (Con.tri k l true p q) (Con.bool true) rfl rfl (.inr ⟨_, _, _, rfl, rfl, by kernel_rfl, by decide, rfl⟩) (by kernel_rfl) points_cell rfl (Con.tri_0 k l true p q) field26_0) ?_
    refine fcn (ob_readb 19 20 true true rfl rfl rfl (.inr ⟨_, _, _, rfl, rfl, by kernel_rfl, by decide, rfl⟩) (by kernel_rfl) points_ptr rfl) ?_
    refine fcn (ob_copy 20 21 (.inl rfl) rfl (.inr ⟨_, _, _, rfl, rfl, by kernel_rfl, by decide, rfl⟩) (by kernel_rfl) rfl) ?_
    refine fcn (ob_addr 26 1 1 22 1 (Con.tri k l true p q) (Con.nn k p) rfl rfl (.inr ⟨_, _, _, rfl, rfl, by kernel_rfl, by decide, rfl⟩) (by kernel_rfl) points_cell rfl (Con.tri_1 k l true p q) field26_1) ?_
    refine fcn (ob_read 24 22 23 (Con.nn k p) rfl rfl (.inr ⟨_, _, _, rfl, rfl, by kernel_rfl, by decide, rfl⟩) (by kernel_rfl) points_ptr rfl row24 info24) ?_
    refine fcn (ob_call1 44 23 24 _ rfl rfl (.inr ⟨_, _, _, rfl, rfl, by kernel_rfl, by decide, rfl⟩) (by kernel_rfl) (by kernel_rfl) (z_zero k p true (decide_eq_true hp))) ?_
    refine fcn (ob_pick 21 24 25 _ rfl rfl (.inr ⟨_, _, _, rfl, rfl, by kernel_rfl, by decide, rfl⟩) (by kernel_rfl) (by kernel_rfl) rfl rfl) ?_
    refine fcn (ob_pick_else 18 25 26 (.bool true) rfl rfl (.inl rfl) (by kernel_rfl) (by kernel_rfl) rfl rfl) ?_
    exact fnl
  intro a2 w2 st2 hbr2 hfr
  have hs2 := hbr2.size
  have hb := up hb hbr2
  have st : St 34 [(1, Fact.cell b1 (Con.tri k l true p q)), (2, fF), (26, fT)] a2 w2 := st2.to (fcs ⟨st2.at_ 1, fcs ⟨st2.at_ 2, fcs ⟨st2.at_ 26, fnl⟩⟩⟩)
  clear st2 hbr2 hfr
  refine wpList_nil ?_
  refine then_normal ?_
  refine wp_cond_true (st.at_ 26) ?_
  refine wp_seq ?_
  have st := st.to (ks' := [(1, Fact.cell b1 (Con.tri k l true p q)), (26, fT)]) (fcs ⟨st.at_ 1, fcs ⟨st.at_ 26, fnl⟩⟩)
  refine sym_region st [(2, fF)] [] 1 (by kernel_rfl) (by kernel_rfl) (by kernel_rfl) (Nat.le_of_ble_eq_true rfl) (by kernel_rfl) rfl rfl ?_ ?_
  · refine fcn (ob_const (.bool false) 2 (.inr rfl) rfl (.inl rfl) rfl) ?_
    exact fnl
  intro a3 w3 st3 hbr3 hfr
  have hs3 := hbr3.size
  have hb := up hb hbr3
  have st : St 34 [(1, Fact.cell b1 (Con.tri k l true p q)), (2, fF)] a3 w3 := st3.to (fcs ⟨st3.at_ 1, fcs ⟨st3.at_ 2, fnl⟩⟩)
  clear st3 hbr3 hfr
  refine wpList_nil ?_
  refine then_normal ?_
  refine wp_ret ?_
  exact sym_ret1 rfl st.defers (resAt_tmp st 2) hb (fun _ h => h)
set_option maxRecDepth 100000 in
theorem z_valid_c (k l : Nat) (p q : Nat) (hq : q ≠ 0) (hp : p ≠ 0) (hk : k ≤ 300) (hl : l ≤ 300) (b : Bool) (hbd : decide (Nat.gcd p q = 1) = b) : ∀ v0 w, (Fact.agg (Con.tri k l true p q)).holds v0 w → Calls Tryz.prog 12 #[v0] w (Ret (Fact.eq (.bool b)) w) := by
  intro v0 w hv0
  refine sym_calls 34 [(0, Fact.agg (Con.tri k l true p q))] Tryz.func12 rfl rfl (Nat.le_of_ble_eq_true rfl) (fcs ⟨⟨Nat.le_of_ble_eq_true rfl, hv0⟩, fnl⟩) fun a st => ?_
  have hb := Below.refl w.heap.size w
  refine wp_seq ?_
  refine sym_region st [(1, Fact.var' (Con.tri k l true p q)), (2, fF)] [1] 2 (by kernel_rfl) (by kernel_rfl) (by kernel_rfl) (Nat.le_of_ble_eq_true rfl) (by kernel_rfl) rfl rfl ?_ ?_
  · refine fcs ⟨obn_box 26 0 1 _ (Con.tri k l true p q) rfl rfl rfl (by kernel_rfl) rfl rfl, ?_⟩
    refine fcn (ob_const (.bool false) 2 (.inr rfl) rfl (.inl rfl) rfl) ?_
    exact fnl
  intro a1 w1 st1 hbr1 hfr
  have hs1 := hbr1.size
  have hb := up hb hbr1
  obtain ⟨b1, c1⟩ := (show (Fact.var' (Con.tri k l true p q)).holds _ _ from st1.at_ 1)
  have g1 := hfr.ge (s := 1) rfl c1.1
  have st : St 34 [(1, Fact.cell b1 (Con.tri k l true p q)), (2, fF)] a1 w1 := st1.to (fcs ⟨c1, fcs ⟨st1.at_ 2, fnl⟩⟩)
  clear st1 hbr1 hfr c1
  refine wpList_nil ?_
  refine then_normal ?_
  refine wp_seq ?_
  refine wp_seq ?_
  refine sym_region st [(3, Fact.ptr (Con.nn k p)), (4, Fact.agg (Con.nn k p)), (5, fT), (6, fF), (7, fF), (8, Fact.ptr (Con.nn l q)), (9, Fact.agg (Con.nn l q)), (10, fT), (11, fF), (12, fF), (13, fF), (14, Fact.ptr (Con.nn l q)), (15, Fact.agg (Con.nn l q)), (16, fF), (17, fF), (18, fF), (19, Fact.ptr (Con.bool true)), (20, fT), (21, fT), (22, Fact.ptr (Con.nn k p)), (23, Fact.agg (Con.nn k p)), (24, fF), (25, fF), (26, fF)] [] 24 (by kernel_rfl) (by kernel_rfl) (by kernel_rfl) (Nat.le_of_ble_eq_true rfl) (by kernel_rfl) rfl rfl ?_ ?_
  · refine fcn (ob_addr 26 1 1 3 1 (Con.tri k l true p q) (Con.nn k p) rfl rfl (.inl rfl) (by kernel_rfl) points_cell rfl (Con.tri_1 k l true p q) field26_1) ?_
    refine fcn (ob_read 24 3 4 (Con.nn k p) rfl rfl (.inl rfl) (by kernel_rfl) points_ptr rfl row24 info24) ?_
    refine fcn (ob_call1 43 4 5 _ rfl rfl (.inl rfl) (by kernel_rfl) (by kernel_rfl) (r_valid k p)) ?_
    refine fcn (ob_not 5 6 true false rfl rfl rfl (.inl rfl) (by kernel_rfl) rfl rfl) ?_
    refine fcn (ob_copy 6 7 (.inl rfl) rfl (.inl rfl) (by kernel_rfl) rfl) ?_
    refine fcn (ob_addr 26 2 1 8 2 (Con.tri k l true p q) (Con.nn l q) rfl rfl (.inr ⟨_, _, _, rfl, rfl, by kernel_rfl, by decide, rfl⟩) (by kernel_rfl) points_cell rfl (Con.tri_2 k l true p q) field26_2) ?_
    refine fcn (ob_read 24 8 9 (Con.nn l q) rfl rfl (.inr ⟨_, _, _, rfl, rfl, by kernel_rfl, by decide, rfl⟩) (by kernel_rfl) points_ptr rfl row24 info24) ?_
    refine fcn (ob_call1 43 9 10 _ rfl rfl (.inr ⟨_, _, _, rfl, rfl, by kernel_rfl, by decide, rfl⟩) (by kernel_rfl) (by kernel_rfl) (r_valid l q)) ?_
    refine fcn (ob_not 10 11 true false rfl rfl rfl (.inr ⟨_, _, _, rfl, rfl, by kernel_rfl, by decide, rfl⟩) (by kernel_rfl) rfl rfl) ?_
    refine fcn (ob_pick_else 7 11 12 (.bool true) rfl rfl (.inl rfl) (by kernel_rfl) (by kernel_rfl) rfl rfl) ?_
    refine fcn (ob_copy 12 13 (.inl rfl) rfl (.inl rfl) (by kernel_rfl) rfl) ?_
    refine fcn (ob_addr 26 2 1 14 2 (Con.tri k l true p q) (Con.nn l q) rfl rfl (.inr ⟨_, _, _, rfl, rfl, by kernel_rfl, by decide, rfl⟩) (by kernel_rfl) points_cell rfl (Con.tri_2 k l true p q) field26_2) ?_
    refine fcn (ob_read 24 14 15 (Con.nn l q) rfl rfl (.inr ⟨_, _, _, rfl, rfl, by kernel_rfl, by decide, rfl⟩) (by kernel_rfl) points_ptr rfl row24 info24) ?_
    refine fcn (ob_call1 44 15 16 _ rfl rfl (.inr ⟨_, _, _, rfl, rfl, by kernel_rfl, by decide, rfl⟩) (by kernel_rfl) (by kernel_rfl) (z_zero l q false (decide_eq_false hq))) ?_
    refine fcn (ob_pick_else 13 16 17 (.bool true) rfl rfl (.inl rfl) (by kernel_rfl) (by kernel_rfl) rfl rfl) ?_
    refine fcn (ob_copy 17 18 (.inl rfl) rfl (.inl rfl) (by kernel_rfl) rfl) ?_
    refine fcn (ob_addr 26 0 1 19 0 (Con.tri k l true p q) (Con.bool true) rfl rfl (.inr ⟨_, _, _, rfl, rfl, by kernel_rfl, by decide, rfl⟩) (by kernel_rfl) points_cell rfl (Con.tri_0 k l true p q) field26_0) ?_
    refine fcn (ob_readb 19 20 true true rfl rfl rfl (.inr ⟨_, _, _, rfl, rfl, by kernel_rfl, by decide, rfl⟩) (by kernel_rfl) points_ptr rfl) ?_
    refine fcn (ob_copy 20 21 (.inl rfl) rfl (.inr ⟨_, _, _, rfl, rfl, by kernel_rfl, by decide, rfl⟩) (by kernel_rfl) rfl) ?_
    refine fcn (ob_addr 26 1 1 22 1 (Con.tri k l true p q) (Con.nn k p) rfl rfl (.inr ⟨_, _, _, rfl, rfl, by kernel_rfl, by decide, rfl⟩) (by kernel_rfl) points_cell rfl (Con.tri_1 k l true p q) field26_1) ?_
    refine fcn (ob_read 24 22 23 (Con.nn k p) rfl rfl (.inr ⟨_, _, _, rfl, rfl, by kernel_rfl, by decide, rfl⟩) (by kernel_rfl) points_ptr rfl row24 info24) ?_
    refine fcn (ob_call1 44 23 24 _ rfl rfl (.inr ⟨_, _, _, rfl, rfl, by kernel_rfl, by decide, rfl⟩) (by kernel_rfl) (by kernel_rfl) (z_zero k p false (decide_eq_false hp))) ?_
    refine fcn (ob_pick 21 24 25 _ rfl rfl (.inr ⟨_, _, _, rfl, rfl, by kernel_rfl, by decide, rfl⟩) (by kernel_rfl) (by kernel_rfl) rfl rfl) ?_
    refine fcn (ob_pick_else 18 25 26 (.bool true) rfl rfl (.inl rfl) (by kernel_rfl) (by kernel_rfl) rfl rfl) ?_
    exact fnl
  intro a2 w2 st2 hbr2 hfr
  have hs2 := hbr2.size
  have hb := up hb hbr2
  have st : St 34 [(1, Fact.cell b1 (Con.tri k l true p q)), (2, fF), (26, fF)] a2 w2 := st2.to (fcs ⟨st2.at_ 1, fcs ⟨st2.at_ 2, fcs ⟨st2.at_ 26, fnl⟩⟩⟩)
  clear st2 hbr2 hfr
  refine wpList_nil ?_
  refine then_normal ?_
  refine wp_cond_false (st.at_ 26) ?_
  refine wp_skip ?_
  refine then_normal ?_
  refine wp_seq ?_
  have st := st.to (ks' := [(1, Fact.cell b1 (Con.tri k l true p q)), (26, fF)]) (fcs ⟨st.at_ 1, fcs ⟨st.at_ 26, fnl⟩⟩)
  refine sym_region st [(27, Fact.ptr (Con.nn k p)), (28, Fact.agg (Con.nn k p)), (29, Fact.ptr (Con.nn l q)), (30, Fact.agg (Con.nn l q)), (31, Fact.agg (Con.nn l (Nat.gcd p q))), (32, Fact.agg (Con.nn 1 1)), (33, Fact.eq (.bool b)), (2, Fact.eq (.bool b))] [] 8 (by kernel_rfl) (by kernel_rfl) (by kernel_rfl) (Nat.le_of_ble_eq_true rfl) (by kernel_rfl) rfl rfl ?_ ?_
  · refine fcn (ob_addr 26 1 1 27 1 (Con.tri k l true p q) (Con.nn k p) rfl rfl (.inl rfl) (by kernel_rfl) points_cell rfl (Con.tri_1 k l true p q) field26_1) ?_
    refine fcn (ob_read 24 27 28 (Con.nn k p) rfl rfl (.inl rfl) (by kernel_rfl) points_ptr rfl row24 info24) ?_
    refine fcn (ob_addr 26 2 1 29 2 (Con.tri k l true p q) (Con.nn l q) rfl rfl (.inl rfl) (by kernel_rfl) points_cell rfl (Con.tri_2 k l true p q) field26_2) ?_
    refine fcn (ob_read 24 29 30 (Con.nn l q) rfl rfl (.inl rfl) (by kernel_rfl) points_ptr rfl row24 info24) ?_
    refine fcn (ob_call2 46 28 30 31 _ rfl rfl (.inl rfl) (by kernel_rfl) (by kernel_rfl) (by kernel_rfl) (r_gcd k l p q hq (by omega) (by omega))) ?_
    refine fcn (ob_callc 47 _ 32 _ rfl rfl (.inl rfl) (by kernel_rfl) (r_ofc 1 1 (by decide) (by unfold Nm.Sz; decide))) ?_
    refine fcn (ob_call2 45 31 32 33 _ rfl rfl (.inl rfl) (by kernel_rfl) (by kernel_rfl) (by kernel_rfl) (r_same l 1 (Nat.gcd p q) 1 b hbd)) ?_
    refine fcn (ob_copy 33 2 (.inr rfl) rfl (.inl rfl) (by kernel_rfl) rfl) ?_
    exact fnl
  intro a3 w3 st3 hbr3 hfr
  have hs3 := hbr3.size
  have hb := up hb hbr3
  have st : St 34 [(2, Fact.eq (.bool b))] a3 w3 := st3.to (fcs ⟨st3.at_ 2, fnl⟩)
  clear st3 hbr3 hfr
  refine wpList_nil ?_
  refine then_normal ?_
  refine wp_ret ?_
  exact sym_ret1 rfl st.defers (resAt_tmp st 2) hb (fun _ h => h)
set_option maxRecDepth 100000 in
theorem z_valid_d (k l : Nat) (p q : Nat) (hq : q ≠ 0) (hk : k ≤ 300) (hl : l ≤ 300) (b : Bool) (hbd : decide (Nat.gcd p q = 1) = b) : ∀ v0 w, (Fact.agg (Con.tri k l false p q)).holds v0 w → Calls Tryz.prog 12 #[v0] w (Ret (Fact.eq (.bool b)) w) := by
  intro v0 w hv0
  refine sym_calls 34 [(0, Fact.agg (Con.tri k l false p q))] Tryz.func12 rfl rfl (Nat.le_of_ble_eq_true rfl) (fcs ⟨⟨Nat.le_of_ble_eq_true rfl, hv0⟩, fnl⟩) fun a st => ?_
  have hb := Below.refl w.heap.size w
  refine wp_seq ?_
  refine sym_region st [(1, Fact.var' (Con.tri k l false p q)), (2, fF)] [1] 2 (by kernel_rfl) (by kernel_rfl) (by kernel_rfl) (Nat.le_of_ble_eq_true rfl) (by kernel_rfl) rfl rfl ?_ ?_
  · refine fcs ⟨obn_box 26 0 1 _ (Con.tri k l false p q) rfl rfl rfl (by kernel_rfl) rfl rfl, ?_⟩
    refine fcn (ob_const (.bool false) 2 (.inr rfl) rfl (.inl rfl) rfl) ?_
    exact fnl
  intro a1 w1 st1 hbr1 hfr
  have hs1 := hbr1.size
  have hb := up hb hbr1
  obtain ⟨b1, c1⟩ := (show (Fact.var' (Con.tri k l false p q)).holds _ _ from st1.at_ 1)
  have g1 := hfr.ge (s := 1) rfl c1.1
  have st : St 34 [(1, Fact.cell b1 (Con.tri k l false p q)), (2, fF)] a1 w1 := st1.to (fcs ⟨c1, fcs ⟨st1.at_ 2, fnl⟩⟩)
  clear st1 hbr1 hfr c1
  refine wpList_nil ?_
  refine then_normal ?_
  refine wp_seq ?_
  refine wp_seq ?_
  refine sym_region st [(3, Fact.ptr (Con.nn k p)), (4, Fact.agg (Con.nn k p)), (5, fT), (6, fF), (7, fF), (8, Fact.ptr (Con.nn l q)), (9, Fact.agg (Con.nn l q)), (10, fT), (11, fF), (12, fF), (13, fF), (14, Fact.ptr (Con.nn l q)), (15, Fact.agg (Con.nn l q)), (16, fF), (17, fF), (18, fF), (19, Fact.ptr (Con.bool false)), (20, fF), (21, fF), (22, Fact.eq undef), (23, Fact.eq undef), (24, Fact.eq undef), (25, fF), (26, fF)] [] 24 (by kernel_rfl) (by kernel_rfl) (by kernel_rfl) (Nat.le_of_ble_eq_true rfl) (by kernel_rfl) rfl rfl ?_ ?_
  · refine fcn (ob_addr 26 1 1 3 1 (Con.tri k l false p q) (Con.nn k p) rfl rfl (.inl rfl) (by kernel_rfl) points_cell rfl (Con.tri_1 k l false p q) field26_1) ?_
    refine fcn (ob_read 24 3 4 (Con.nn k p) rfl rfl (.inl rfl) (by kernel_rfl) points_ptr rfl row24 info24) ?_
    refine fcn (ob_call1 43 4 5 _ rfl rfl (.inl rfl) (by kernel_rfl) (by kernel_rfl) (r_valid k p)) ?_
    refine fcn (ob_not 5 6 true false rfl rfl rfl (.inl rfl) (by kernel_rfl) rfl rfl) ?_
    refine fcn (ob_copy 6 7 (.inl rfl) rfl (.inl rfl) (by kernel_rfl) rfl) ?_
    refine fcn (ob_addr 26 2 1 8 2 (Con.tri k l false p q) (Con.nn l q) rfl rfl (.inr ⟨_, _, _, rfl, rfl, by kernel_rfl, by decide, rfl⟩) (by kernel_rfl) points_cell rfl (Con.tri_2 k l false p q) field26_2) ?_
    refine fcn (ob_read 24 8 9 (Con.nn l q) rfl rfl (.inr ⟨_, _, _, rfl, rfl, by kernel_rfl, by decide, rfl⟩) (by kernel_rfl) points_ptr rfl row24 info24) ?_
    refine fcn (ob_call1 43 9 10 _ rfl rfl (.inr ⟨_, _, _, rfl, rfl, by kernel_rfl, by decide, rfl⟩) (by kernel_rfl) (by kernel_rfl) (r_valid l q)) ?_
    refine fcn (ob_not 10 11 true false rfl rfl rfl (.inr ⟨_, _, _, rfl, rfl, by kernel_rfl, by decide, rfl⟩) (by kernel_rfl) rfl rfl) ?_
    refine fcn (ob_pick_else 7 11 12 (.bool true) rfl rfl (.inl rfl) (by kernel_rfl) (by kernel_rfl) rfl rfl) ?_
    refine fcn (ob_copy 12 13 (.inl rfl) rfl (.inl rfl) (by kernel_rfl) rfl) ?_
    refine fcn (ob_addr 26 2 1 14 2 (Con.tri k l false p q) (Con.nn l q) rfl rfl (.inr ⟨_, _, _, rfl, rfl, by kernel_rfl, by decide, rfl⟩) (by kernel_rfl) points_cell rfl (Con.tri_2 k l false p q) field26_2) ?_
    refine fcn (ob_read 24 14 15 (Con.nn l q) rfl rfl (.inr ⟨_, _, _, rfl, rfl, by kernel_rfl, by decide, rfl⟩) (by kernel_rfl) points_ptr rfl row24 info24) ?_
    refine fcn (ob_call1 44 15 16 _ rfl rfl (.inr ⟨_, _, _, rfl, rfl, by kernel_rfl, by decide, rfl⟩) (by kernel_rfl) (by kernel_rfl) (z_zero l q false (decide_eq_false hq))) ?_
    refine fcn (ob_pick_else 13 16 17 (.bool true) rfl rfl (.inl rfl) (by kernel_rfl) (by kernel_rfl) rfl rfl) ?_
    refine fcn (ob_copy 17 18 (.inl rfl) rfl (.inl rfl) (by kernel_rfl) rfl) ?_
    refine fcn (ob_addr 26 0 1 19 0 (Con.tri k l false p q) (Con.bool false) rfl rfl (.inr ⟨_, _, _, rfl, rfl, by kernel_rfl, by decide, rfl⟩) (by kernel_rfl) points_cell rfl (Con.tri_0 k l false p q) field26_0) ?_
    refine fcn (ob_readb 19 20 false false rfl rfl rfl (.inr ⟨_, _, _, rfl, rfl, by kernel_rfl, by decide, rfl⟩) (by kernel_rfl) points_ptr rfl) ?_
    refine fcn (ob_copy 20 21 (.inl rfl) rfl (.inr ⟨_, _, _, rfl, rfl, by kernel_rfl, by decide, rfl⟩) (by kernel_rfl) rfl) ?_
    refine fcn (ob_skip 18 21 22 true rfl rfl (by kernel_rfl) (by decide) rfl rfl rfl) ?_
    refine fcn (ob_skip 18 21 23 true rfl rfl (by kernel_rfl) (by decide) rfl rfl rfl) ?_
    refine fcn (ob_skip 18 21 24 true rfl rfl (by kernel_rfl) (by decide) rfl rfl rfl) ?_
    refine fcn (ob_pick_no 21 24 25 (.bool false) rfl rfl (.inr ⟨_, _, _, rfl, rfl, by kernel_rfl, by decide, rfl⟩) (by kernel_rfl) rfl rfl) ?_
    refine fcn (ob_pick_else 18 25 26 (.bool true) rfl rfl (.inl rfl) (by kernel_rfl) (by kernel_rfl) rfl rfl) ?_
    exact fnl
  intro a2 w2 st2 hbr2 hfr
  have hs2 := hbr2.size
  have hb := up hb hbr2
  have st : St 34 [(1, Fact.cell b1 (Con.tri k l false p q)), (2, fF), (26, fF)] a2 w2 := st2.to (fcs ⟨st2.at_ 1, fcs ⟨st2.at_ 2, fcs ⟨st2.at_ 26, fnl⟩⟩⟩)
  clear st2 hbr2 hfr
  refine wpList_nil ?_
  refine then_normal ?_
  refine wp_cond_false (st.at_ 26) ?_
  refine wp_skip ?_
  refine then_normal ?_
  refine wp_seq ?_
  have st := st.to (ks' := [(1, Fact.cell b1 (Con.tri k l false p q)), (26, fF)]) (fcs ⟨st.at_ 1, fcs ⟨st.at_ 26, fnl⟩⟩)
  refine sym_region st [(27, Fact.ptr (Con.nn k p)), (28, Fact.agg (Con.nn k p)), (29, Fact.ptr (Con.nn l q)), (30, Fact.agg (Con.nn l q)), (31, Fact.agg (Con.nn l (Nat.gcd p q))), (32, Fact.agg (Con.nn 1 1)), (33, Fact.eq (.bool b)), (2, Fact.eq (.bool b))] [] 8 (by kernel_rfl) (by kernel_rfl) (by kernel_rfl) (Nat.le_of_ble_eq_true rfl) (by kernel_rfl) rfl rfl ?_ ?_
  · refine fcn (ob_addr 26 1 1 27 1 (Con.tri k l false p q) (Con.nn k p) rfl rfl (.inl rfl) (by kernel_rfl) points_cell rfl (Con.tri_1 k l false p q) field26_1) ?_
    refine fcn (ob_read 24 27 28 (Con.nn k p) rfl rfl (.inl rfl) (by kernel_rfl) points_ptr rfl row24 info24) ?_
    refine fcn (ob_addr 26 2 1 29 2 (Con.tri k l false p q) (Con.nn l q) rfl rfl (.inl rfl) (by kernel_rfl) points_cell rfl (Con.tri_2 k l false p q) field26_2) ?_
    refine fcn (ob_read 24 29 30 (Con.nn l q) rfl rfl (.inl rfl) (by kernel_rfl) points_ptr rfl row24 info24) ?_
    refine fcn (ob_call2 46 28 30 31 _ rfl rfl (.inl rfl) (by kernel_rfl) (by kernel_rfl) (by kernel_rfl) (r_gcd k l p q hq (by omega) (by omega))) ?_
    refine fcn (ob_callc 47 _ 32 _ rfl rfl (.inl rfl) (by kernel_rfl) (r_ofc 1 1 (by decide) (by unfold Nm.Sz; decide))) ?_
    refine fcn (ob_call2 45 31 32 33 _ rfl rfl (.inl rfl) (by kernel_rfl) (by kernel_rfl) (by kernel_rfl) (r_same l 1 (Nat.gcd p q) 1 b hbd)) ?_
    refine fcn (ob_copy 33 2 (.inr rfl) rfl (.inl rfl) (by kernel_rfl) rfl) ?_
    exact fnl
  intro a3 w3 st3 hbr3 hfr
  have hs3 := hbr3.size
  have hb := up hb hbr3
  have st : St 34 [(2, Fact.eq (.bool b))] a3 w3 := st3.to (fcs ⟨st3.at_ 2, fnl⟩)
  clear st3 hbr3 hfr
  refine wpList_nil ?_
  refine then_normal ?_
  refine wp_ret ?_
  exact sym_ret1 rfl st.defers (resAt_tmp st 2) hb (fun _ h => h)
theorem z_valid_tri (k l : Nat) (s : Bool) (p q : Nat) (hk : k ≤ 300) (hl : l ≤ 300) (b : Bool) (hbd : vldT s p q = b) : ∀ v0 w, (Fact.agg (Con.tri k l s p q)).holds v0 w → Calls Tryz.prog 12 #[v0] w (Ret (Fact.eq (.bool b)) w) := by
  intro v0 w hv0
  subst hbd
  by_cases hq : q = 0
  · rw [show vldT s p q = false from by simp [vldT, hq]]
    exact z_valid_a k l s p q hq v0 w hv0
  · cases s with
    | true =>
      by_cases hp : p = 0
      · rw [show vldT true p q = false from by simp [vldT, hp]]
        exact z_valid_b k l p q hq hp v0 w hv0
      · exact z_valid_c k l p q hq hp hk hl _ (by simp [vldT, hq, hp]) v0 w hv0
    | false => exact z_valid_d k l p q hq hk hl _ (by simp [vldT, hq]) v0 w hv0
set_option maxRecDepth 100000 in
theorem z_valid_few0 (s : Bool) (xs ys : List Nat) (h : decide (Nm.tlen xs = xs.length) = false) : ∀ v0 w, (Fact.agg (Con.few s xs ys)).holds v0 w → Calls Tryz.prog 12 #[v0] w (Ret (fF) w) := by
  intro v0 w hv0
  refine sym_calls 34 [(0, Fact.agg (Con.few s xs ys))] Tryz.func12 rfl rfl (Nat.le_of_ble_eq_true rfl) (fcs ⟨⟨Nat.le_of_ble_eq_true rfl, hv0⟩, fnl⟩) fun a st => ?_
  have hb := Below.refl w.heap.size w
  refine wp_seq ?_
  refine sym_region st [(1, Fact.var' (Con.few s xs ys)), (2, fF)] [1] 2 (by kernel_rfl) (by kernel_rfl) (by kernel_rfl) (Nat.le_of_ble_eq_true rfl) (by kernel_rfl) rfl rfl ?_ ?_
  · refine fcs ⟨obn_box 26 0 1 _ (Con.few s xs ys) rfl rfl rfl (by kernel_rfl) rfl rfl, ?_⟩
    refine fcn (ob_const (.bool false) 2 (.inr rfl) rfl (.inl rfl) rfl) ?_
    exact fnl
  intro a1 w1 st1 hbr1 hfr
  have hs1 := hbr1.size
  have hb := up hb hbr1
  obtain ⟨b1, c1⟩ := (show (Fact.var' (Con.few s xs ys)).holds _ _ from st1.at_ 1)
  have g1 := hfr.ge (s := 1) rfl c1.1
  have st : St 34 [(1, Fact.cell b1 (Con.few s xs ys)), (2, fF)] a1 w1 := st1.to (fcs ⟨c1, fcs ⟨st1.at_ 2, fnl⟩⟩)
  clear st1 hbr1 hfr c1
  refine wpList_nil ?_
  refine then_normal ?_
  refine wp_seq ?_
  refine wp_seq ?_
  refine sym_region st [(3, Fact.ptr (Con.dg xs)), (4, Fact.agg (Con.dg xs)), (5, fF), (6, fT), (7, fT), (8, Fact.eq undef), (9, Fact.eq undef), (10, Fact.eq undef), (11, Fact.eq undef), (12, fT), (13, fT), (14, Fact.eq undef), (15, Fact.eq undef), (16, Fact.eq undef), (17, fT), (18, fT), (19, Fact.eq undef), (20, Fact.eq undef), (21, Fact.eq undef), (22, Fact.eq undef), (23, Fact.eq undef), (24, Fact.eq undef), (25, Fact.eq undef), (26, fT)] [] 24 (by kernel_rfl) (by kernel_rfl) (by kernel_rfl) (Nat.le_of_ble_eq_true rfl) (by kernel_rfl) rfl rfl ?_ ?_
  · refine fcn (ob_addr 26 1 1 3 1 (Con.few s xs ys) (Con.dg xs) rfl rfl (.inl rfl) (by kernel_rfl) points_cell rfl (Con.few_1 s xs ys) field26_1) ?_
    refine fcn (ob_read 24 3 4 (Con.dg xs) rfl rfl (.inl rfl) (by kernel_rfl) points_ptr rfl row24 info24) ?_
    refine fcn (ob_call1 43 4 5 _ rfl rfl (.inl rfl) (by kernel_rfl) (by kernel_rfl) (d_valid xs false h)) ?_
    refine fcn (ob_not 5 6 false true rfl rfl rfl (.inl rfl) (by kernel_rfl) rfl rfl) ?_
    refine fcn (ob_copy 6 7 (.inl rfl) rfl (.inl rfl) (by kernel_rfl) rfl) ?_
    refine fcn (ob_skip 4 7 8 false rfl rfl (by kernel_rfl) (by decide) rfl rfl rfl) ?_
    refine fcn (ob_skip 4 7 9 false rfl rfl (by kernel_rfl) (by decide) rfl rfl rfl) ?_
    refine fcn (ob_skip 4 7 10 false rfl rfl (by kernel_rfl) (by decide) rfl rfl rfl) ?_
    refine fcn (ob_skip 4 7 11 false rfl rfl (by kernel_rfl) (by decide) rfl rfl rfl) ?_
    refine fcn (ob_pick_or 7 11 12 (.bool true) rfl rfl (.inl rfl) (by kernel_rfl) rfl rfl) ?_
    refine fcn (ob_copy 12 13 (.inl rfl) rfl (.inl rfl) (by kernel_rfl) rfl) ?_
    refine fcn (ob_skip 10 13 14 false rfl rfl (by kernel_rfl) (by decide) rfl rfl rfl) ?_
    refine fcn (ob_skip 10 13 15 false rfl rfl (by kernel_rfl) (by decide) rfl rfl rfl) ?_
    refine fcn (ob_skip 10 13 16 false rfl rfl (by kernel_rfl) (by decide) rfl rfl rfl) ?_
    refine fcn (ob_pick_or 13 16 17 (.bool true) rfl rfl (.inl rfl) (by kernel_rfl) rfl rfl) ?_
    refine fcn (ob_copy 17 18 (.inl rfl) rfl (.inl rfl) (by kernel_rfl) rfl) ?_
    refine fcn (ob_skip 15 18 19 false rfl rfl (by kernel_rfl) (by decide) rfl rfl rfl) ?_
    refine fcn (ob_skip 15 18 20 false rfl rfl (by kernel_rfl) (by decide) rfl rfl rfl) ?_
    refine fcn (ob_skip 15 18 21 false rfl rfl (by kernel_rfl) (by decide) rfl rfl rfl) ?_
    refine fcn (ob_skip2 18 21 22 true rfl rfl (by kernel_rfl) (by decide) rfl rfl rfl) ?_
    refine fcn (ob_skip2 18 21 23 true rfl rfl (by kernel_rfl) (by decide) rfl rfl rfl) ?_
    refine fcn (ob_skip2 18 21 24 true rfl rfl (by kernel_rfl) (by decide) rfl rfl rfl) ?_
    refine fcn (ob_skip 15 18 25 false rfl rfl (by kernel_rfl) (by decide) rfl rfl rfl) ?_
    refine fcn (ob_pick_or 18 25 26 (.bool true) rfl rfl (.inl rfl) (by kernel_rfl) rfl rfl) ?_
    exact fnl
  intro a2 w2 st2 hbr2 hfr
  have hs2 := hbr2.size
  have hb := up hb hbr2
  have st : St 34 [(1, Fact.cell b1 (Con.few s xs ys)), (2, fF), (26, fT)] a2 w2 := st2.to (fcs ⟨st2.at_ 1, fcs ⟨st2.at_ 2, fcs ⟨st2.at_ 26, fnl⟩⟩⟩)
  clear st2 hbr2 hfr
  refine wpList_nil ?_
  refine then_normal ?_
  refine wp_cond_true (st.at_ 26) ?_
  refine wp_seq ?_
  have st := st.to (ks' := [(1, Fact.cell b1 (Con.few s xs ys)), (26, fT)]) (fcs ⟨st.at_ 1, fcs ⟨st.at_ 26, fnl⟩⟩)
  refine sym_region st [(2, fF)] [] 1 (by kernel_rfl) (by kernel_rfl) (by kernel_rfl) (Nat.le_of_ble_eq_true rfl) (by kernel_rfl) rfl rfl ?_ ?_
  · refine fcn (ob_const (.bool false) 2 (.inr rfl) rfl (.inl rfl) rfl) ?_
    exact fnl
  intro a3 w3 st3 hbr3 hfr
  have hs3 := hbr3.size
  have hb := up hb hbr3
  have st : St 34 [(1, Fact.cell b1 (Con.few s xs ys)), (2, fF)] a3 w3 := st3.to (fcs ⟨st3.at_ 1, fcs ⟨st3.at_ 2, fnl⟩⟩)
  clear st3 hbr3 hfr
  refine wpList_nil ?_
  refine then_normal ?_
  refine wp_ret ?_
  exact sym_ret1 rfl st.defers (resAt_tmp st 2) hb (fun _ h => h)
set_option maxRecDepth 100000 in
theorem z_valid_few1 (s : Bool) (xs ys : List Nat) (h1 : decide (Nm.tlen xs = xs.length) = true) (h : decide (Nm.tlen ys = ys.length) = false) : ∀ v0 w, (Fact.agg (Con.few s xs ys)).holds v0 w → Calls Tryz.prog 12 #[v0] w (Ret (fF) w) := by
  intro v0 w hv0
  refine sym_calls 34 [(0, Fact.agg (Con.few s xs ys))] Tryz.func12 rfl rfl (Nat.le_of_ble_eq_true rfl) (fcs ⟨⟨Nat.le_of_ble_eq_true rfl, hv0⟩, fnl⟩) fun a st => ?_
  have hb := Below.refl w.heap.size w
  refine wp_seq ?_
  refine sym_region st [(1, Fact.var' (Con.few s xs ys)), (2, fF)] [1] 2 (by kernel_rfl) (by kernel_rfl) (by kernel_rfl) (Nat.le_of_ble_eq_true rfl) (by kernel_rfl) rfl rfl ?_ ?_
  · refine fcs ⟨obn_box 26 0 1 _ (Con.few s xs ys) rfl rfl rfl (by kernel_rfl) rfl rfl, ?_⟩
    refine fcn (ob_const (.bool false) 2 (.inr rfl) rfl (.inl rfl) rfl) ?_
    exact fnl
  intro a1 w1 st1 hbr1 hfr
  have hs1 := hbr1.size
  have hb := up hb hbr1
  obtain ⟨b1, c1⟩ := (show (Fact.var' (Con.few s xs ys)).holds _ _ from st1.at_ 1)
  have g1 := hfr.ge (s := 1) rfl c1.1
  have st : St 34 [(1, Fact.cell b1 (Con.few s xs ys)), (2, fF)] a1 w1 := st1.to (fcs ⟨c1, fcs ⟨st1.at_ 2, fnl⟩⟩)
  clear st1 hbr1 hfr c1
  refine wpList_nil ?_
  refine then_normal ?_
  refine wp_seq ?_
  refine wp_seq ?_
  refine sym_region st [(3, Fact.ptr (Con.dg xs)), (4, Fact.agg (Con.dg xs)), (5, fT), (6, fF), (7, fF), (8, Fact.ptr (Con.dg ys)), (9, Fact.agg (Con.dg ys)), (10, fF), (11, fT), (12, fT), (13, fT), (14, Fact.eq undef), (15, Fact.eq undef), (16, Fact.eq undef), (17, fT), (18, fT), (19, Fact.eq undef), (20, Fact.eq undef), (21, Fact.eq undef), (22, Fact.eq undef), (23, Fact.eq undef), (24, Fact.eq undef), (25, Fact.eq undef), (26, fT)] [] 24 (by kernel_rfl) (by kernel_rfl) (by kernel_rfl) (Nat.le_of_ble_eq_true rfl) (by kernel_rfl) rfl rfl ?_ ?_
  · refine fcn (ob_addr 26 1 1 3 1 (Con.few s xs ys) (Con.dg xs) rfl rfl (.inl rfl) (by kernel_rfl) points_cell rfl (Con.few_1 s xs ys) field26_1) ?_
    refine fcn (ob_read 24 3 4 (Con.dg xs) rfl rfl (.inl rfl) (by kernel_rfl) points_ptr rfl row24 info24) ?_
    refine fcn (ob_call1 43 4 5 _ rfl rfl (.inl rfl) (by kernel_rfl) (by kernel_rfl) (d_valid xs true h1)) ?_
    refine fcn (ob_not 5 6 true false rfl rfl rfl (.inl rfl) (by kernel_rfl) rfl rfl) ?_
    refine fcn (ob_copy 6 7 (.inl rfl) rfl (.inl rfl) (by kernel_rfl) rfl) ?_
    refine fcn (ob_addr 26 2 1 8 2 (Con.few s xs ys) (Con.dg ys) rfl rfl (.inr ⟨_, _, _, rfl, rfl, by kernel_rfl, by decide, rfl⟩) (by kernel_rfl) points_cell rfl (Con.few_2 s xs ys) field26_2) ?_
    refine fcn (ob_read 24 8 9 (Con.dg ys) rfl rfl (.inr ⟨_, _, _, rfl, rfl, by kernel_rfl, by decide, rfl⟩) (by kernel_rfl) points_ptr rfl row24 info24) ?_
    refine fcn (ob_call1 43 9 10 _ rfl rfl (.inr ⟨_, _, _, rfl, rfl, by kernel_rfl, by decide, rfl⟩) (by kernel_rfl) (by kernel_rfl) (d_valid ys false h)) ?_
    refine fcn (ob_not 10 11 false true rfl rfl rfl (.inr ⟨_, _, _, rfl, rfl, by kernel_rfl, by decide, rfl⟩) (by kernel_rfl) rfl rfl) ?_
    refine fcn (ob_pick_else 7 11 12 (.bool true) rfl rfl (.inl rfl) (by kernel_rfl) (by kernel_rfl) rfl rfl) ?_
    refine fcn (ob_copy 12 13 (.inl rfl) rfl (.inl rfl) (by kernel_rfl) rfl) ?_
    refine fcn (ob_skip 10 13 14 false rfl rfl (by kernel_rfl) (by decide) rfl rfl rfl) ?_
    refine fcn (ob_skip 10 13 15 false rfl rfl (by kernel_rfl) (by decide) rfl rfl rfl) ?_
    refine fcn (ob_skip 10 13 16 false rfl rfl (by kernel_rfl) (by decide) rfl rfl rfl) ?_
    refine fcn (ob_pick_or 13 16 17 (.bool true) rfl rfl (.inl rfl) (by kernel_rfl) rfl rfl) ?_
    refine fcn (ob_copy 17 18 (.inl rfl) rfl (.inl rfl) (by kernel_rfl) rfl) ?_
    refine fcn (ob_skip 15 18 19 false rfl rfl (by kernel_rfl) (by decide) rfl rfl rfl) ?_
    refine fcn (ob_skip 15 18 20 false rfl rfl (by kernel_rfl) (by decide) rfl rfl rfl) ?_
    refine fcn (ob_skip 15 18 21 false rfl rfl (by kernel_rfl) (by decide) rfl rfl rfl) ?_
    refine fcn (ob_skip2 18 21 22 true rfl rfl (by kernel_rfl) (by decide) rfl rfl rfl) ?_
    refine fcn (ob_skip2 18 21 23 true rfl rfl (by kernel_rfl) (by decide) rfl rfl rfl) ?_
    refine fcn (ob_skip2 18 21 24 true rfl rfl (by kernel_rfl) (by decide) rfl rfl rfl) ?_
    refine fcn (ob_skip 15 18 25 false rfl rfl (by kernel_rfl) (by decide) rfl rfl rfl) ?_
    refine fcn (ob_pick_or 18 25 26 (.bool true) rfl rfl (.inl rfl) (by kernel_rfl) rfl rfl) ?_
    exact fnl
  intro a2 w2 st2 hbr2 hfr
  have hs2 := hbr2.size
  have hb := up hb hbr2
  have st : St 34 [(1, Fact.cell b1 (Con.few s xs ys)), (2, fF), (26, fT)] a2 w2 := st2.to (fcs ⟨st2.at_ 1, fcs ⟨st2.at_ 2, fcs ⟨st2.at_ 26, fnl⟩⟩⟩)
  clear st2 hbr2 hfr
  refine wpList_nil ?_
  refine then_normal ?_
  refine wp_cond_true (st.at_ 26) ?_
  refine wp_seq ?_
  have st := st.to (ks' := [(1, Fact.cell b1 (Con.few s xs ys)), (26, fT)]) (fcs ⟨st.at_ 1, fcs ⟨st.at_ 26, fnl⟩⟩)
  refine sym_region st [(2, fF)] [] 1 (by kernel_rfl) (by kernel_rfl) (by kernel_rfl) (Nat.le_of_ble_eq_true rfl) (by kernel_rfl) rfl rfl ?_ ?_
  · refine fcn (ob_const (.bool false) 2 (.inr rfl) rfl (.inl rfl) rfl) ?_
    exact fnl
  intro a3 w3 st3 hbr3 hfr
  have hs3 := hbr3.size
  have hb := up hb hbr3
  have st : St 34 [(1, Fact.cell b1 (Con.few s xs ys)), (2, fF)] a3 w3 := st3.to (fcs ⟨st3.at_ 1, fcs ⟨st3.at_ 2, fnl⟩⟩)
  clear st3 hbr3 hfr
  refine wpList_nil ?_
  refine then_normal ?_
  refine wp_ret ?_
  exact sym_ret1 rfl st.defers (resAt_tmp st 2) hb (fun _ h => h)
theorem z_valid_few (s : Bool) (xs ys : List Nat) (hx : xs.length ≤ 300) (hy : ys.length ≤ 300) (b : Bool) (hbd : vldB s xs ys = b) : ∀ v0 w, (Fact.agg (Con.few s xs ys)).holds v0 w → Calls Tryz.prog 12 #[v0] w (Ret (Fact.eq (.bool b)) w) := by
  intro v0 w hv0
  subst hbd
  cases h1 : decide (Nm.tlen xs = xs.length) with
  | false => rw [vldB_no1 h1]; exact z_valid_few0 s xs ys h1 v0 w hv0
  | true =>
    cases h2 : decide (Nm.tlen ys = ys.length) with
    | false => rw [vldB_no2 h1 h2]; exact z_valid_few1 s xs ys h1 h2 v0 w hv0
    | true =>
      have hd : Nm.Dig xs ∧ Nm.Dig ys := by
        obtain ⟨cs, _, a, b, _, _, c, d, _, ⟨A, e, _, h6⟩, ⟨B, f, _, k6⟩⟩ := hv0
        exact ⟨h6.dig, k6.dig⟩
      rw [vldB_vldT hd.1 hd.2 h1 h2]
      exact z_valid_tri xs.length ys.length s _ _ hx hy _ rfl v0 w (Fact.few_tri hv0 (of_decide_eq_true h1) (of_decide_eq_true h2) (Nat.le_refl _) (Nat.le_refl _))
set_option maxRecDepth 100000 in
theorem q_valid_a (k l : Nat) (s : Bool) (p q : Nat) (hq : q = 0) : ∀ v0 w, (Fact.agg (Con.tri k l s p q)).holds v0 w → Calls Tryz.prog 70 #[v0] w (Ret (fF) w) := by
  intro v0 w hv0
  refine sym_calls 31 [(0, Fact.agg (Con.tri k l s p q))] Tryz.func70 rfl rfl (Nat.le_of_ble_eq_true rfl) (fcs ⟨⟨Nat.le_of_ble_eq_true rfl, hv0⟩, fnl⟩) fun a st => ?_
  have hb := Below.refl w.heap.size w
  refine wp_seq ?_
  refine sym_region st [(1, Fact.var' (Con.tri k l s p q)), (2, fF)] [1] 2 (by kernel_rfl) (by kernel_rfl) (by kernel_rfl) (Nat.le_of_ble_eq_true rfl) (by kernel_rfl) rfl rfl ?_ ?_
  · refine fcs ⟨obn_box 26 0 1 _ (Con.tri k l s p q) rfl rfl rfl (by kernel_rfl) rfl rfl, ?_⟩
    refine fcn (ob_const (.bool false) 2 (.inr rfl) rfl (.inl rfl) rfl) ?_
    exact fnl
  intro a1 w1 st1 hbr1 hfr
  have hs1 := hbr1.size
  have hb := up hb hbr1
  obtain ⟨b1, c1⟩ := (show (Fact.var' (Con.tri k l s p q)).holds _ _ from st1.at_ 1)
  have g1 := hfr.ge (s := 1) rfl c1.1
  have st : St 31 [(1, Fact.cell b1 (Con.tri k l s p q)), (2, fF)] a1 w1 := st1.to (fcs ⟨c1, fcs ⟨st1.at_ 2, fnl⟩⟩)
  clear st1 hbr1 hfr c1
  refine wpList_nil ?_
  refine then_normal ?_
  refine wp_seq ?_
  refine wp_seq ?_
  refine sym_region st [(3, Fact.ptr (Con.nn k p)), (4, Fact.agg (Con.nn k p)), (5, fT), (6, fF), (7, fF), (8, Fact.ptr (Con.nn l q)), (9, Fact.agg (Con.nn l q)), (10, fT), (11, fF), (12, fF), (13, fF), (14, Fact.ptr (Con.nn l q)), (15, Fact.agg (Con.nn l q)), (16, fT), (17, fT)] [] 15 (by kernel_rfl) (by kernel_rfl) (by kernel_rfl) (Nat.le_of_ble_eq_true rfl) (by kernel_rfl) rfl rfl ?_ ?_
  · refine fcn (ob_addr 26 1 1 3 1 (Con.tri k l s p q) (Con.nn k p) rfl rfl (.inl rfl) (by kernel_rfl) points_cell rfl (Con.tri_1 k l s p q) field26_1) ?_
    refine fcn (ob_read 24 3 4 (Con.nn k p) rfl rfl (.inl rfl) (by kernel_rfl) points_ptr rfl row24 info24) ?_
    refine fcn (ob_call1 93 4 5 _ rfl rfl (.inl rfl) (by kernel_rfl) (by kernel_rfl) (n_valid k p)) ?_
    refine fcn (ob_not 5 6 true false rfl rfl rfl (.inl rfl) (by kernel_rfl) rfl rfl) ?_
    refine fcn (ob_copy 6 7 (.inl rfl) rfl (.inl rfl) (by kernel_rfl) rfl) ?_
    refine fcn (ob_addr 26 2 1 8 2 (Con.tri k l s p q) (Con.nn l q) rfl rfl (.inr ⟨_, _, _, rfl, rfl, by kernel_rfl, by decide, rfl⟩) (by kernel_rfl) points_cell rfl (Con.tri_2 k l s p q) field26_2) ?_
    refine fcn (ob_read 24 8 9 (Con.nn l q) rfl rfl (.inr ⟨_, _, _, rfl, rfl, by kernel_rfl, by decide, rfl⟩) (by kernel_rfl) points_ptr rfl row24 info24) ?_
    refine fcn (ob_call1 93 9 10 _ rfl rfl (.inr ⟨_, _, _, rfl, rfl, by kernel_rfl, by decide, rfl⟩) (by kernel_rfl) (by kernel_rfl) (n_valid l q)) ?_
    refine fcn (ob_not 10 11 true false rfl rfl rfl (.inr ⟨_, _, _, rfl, rfl, by kernel_rfl, by decide, rfl⟩) (by kernel_rfl) rfl rfl) ?_
    refine fcn (ob_pick_else 7 11 12 (.bool true) rfl rfl (.inl rfl) (by kernel_rfl) (by kernel_rfl) rfl rfl) ?_
    refine fcn (ob_copy 12 13 (.inl rfl) rfl (.inl rfl) (by kernel_rfl) rfl) ?_
    refine fcn (ob_addr 26 2 1 14 2 (Con.tri k l s p q) (Con.nn l q) rfl rfl (.inr ⟨_, _, _, rfl, rfl, by kernel_rfl, by decide, rfl⟩) (by kernel_rfl) points_cell rfl (Con.tri_2 k l s p q) field26_2) ?_
    refine fcn (ob_read 24 14 15 (Con.nn l q) rfl rfl (.inr ⟨_, _, _, rfl, rfl, by kernel_rfl, by decide, rfl⟩) (by kernel_rfl) points_ptr rfl row24 info24) ?_
    refine fcn (ob_call1 48 15 16 _ rfl rfl (.inr ⟨_, _, _, rfl, rfl, by kernel_rfl, by decide, rfl⟩) (by kernel_rfl) (by kernel_rfl) (q_isZero l q true (decide_eq_true hq))) ?_
    refine fcn (ob_pick_else 13 16 17 (.bool true) rfl rfl (.inl rfl) (by kernel_rfl) (by kernel_rfl) rfl rfl) ?_
    exact fnl
  intro a2 w2 st2 hbr2 hfr
  have hs2 := hbr2.size
  have hb := up hb hbr2
  have st : St 31 [(1, Fact.cell b1 (Con.tri k l s p q)), (2, fF), (17, fT)] a2 w2 := st2.to (fcs ⟨st2.at_ 1, fcs ⟨st2.at_ 2, fcs ⟨st2.at_ 17, fnl⟩⟩⟩)
  clear st2 hbr2 hfr
  refine wpList_nil ?_
  refine then_normal ?_
  refine wp_cond_true (st.at_ 17) ?_
  refine wp_seq ?_
  have st := st.to (ks' := [(1, Fact.cell b1 (Con.tri k l s p q)), (17, fT)]) (fcs ⟨st.at_ 1, fcs ⟨st.at_ 17, fnl⟩⟩)
  refine sym_region st [(2, fF)] [] 1 (by kernel_rfl) (by kernel_rfl) (by kernel_rfl) (Nat.le_of_ble_eq_true rfl) (by kernel_rfl) rfl rfl ?_ ?_
  · refine fcn (ob_const (.bool false) 2 (.inr rfl) rfl (.inl rfl) rfl) ?_
    exact fnl
  intro a3 w3 st3 hbr3 hfr
  have hs3 := hbr3.size
  have hb := up hb hbr3
  have st : St 31 [(1, Fact.cell b1 (Con.tri k l s p q)), (2, fF)] a3 w3 := st3.to (fcs ⟨st3.at_ 1, fcs ⟨st3.at_ 2, fnl⟩⟩)
  clear st3 hbr3 hfr
  refine wpList_nil ?_
  refine then_normal ?_
  refine wp_ret ?_
  exact sym_ret1 rfl st.defers (resAt_tmp st 2) hb (fun _ h => h)
set_option maxRecDepth 100000 in
theorem q_valid_b (k l : Nat) (p q : Nat) (hq : q ≠ 0) (hp : p = 0) : ∀ v0 w, (Fact.agg (Con.tri k l true p q)).holds v0 w → Calls Tryz.prog 70 #[v0] w (Ret (fF) w) := by
  intro v0 w hv0
  refine sym_calls 31 [(0, Fact.agg (Con.tri k l true p q))] Tryz.func70 rfl rfl (Nat.le_of_ble_eq_true rfl) (fcs ⟨⟨Nat.le_of_ble_eq_true rfl, hv0⟩, fnl⟩) fun a st => ?_
  have hb := Below.refl w.heap.size w
  refine wp_seq ?_
  refine sym_region st [(1, Fact.var' (Con.tri k l true p q)), (2, fF)] [1] 2 (by kernel_rfl) (by kernel_rfl) (by kernel_rfl) (Nat.le_of_ble_eq_true rfl) (by kernel_rfl) rfl rfl ?_ ?_
  · refine fcs ⟨obn_box 26 0 1 _ (Con.tri k l true p q) rfl rfl rfl (by kernel_rfl) rfl rfl, ?_⟩
    refine fcn (ob_const (.bool false) 2 (.inr rfl) rfl (.inl rfl) rfl) ?_
    exact fnl
  intro a1 w1 st1 hbr1 hfr
  have hs1 := hbr1.size
  have hb := up hb hbr1
  obtain ⟨b1, c1⟩ := (show (Fact.var' (Con.tri k l true p q)).holds _ _ from st1.at_ 1)
  have g1 := hfr.ge (s := 1) rfl c1.1
  have st : St 31 [(1, Fact.cell b1 (Con.tri k l true p q)), (2, fF)] a1 w1 := st1.to (fcs ⟨c1, fcs ⟨st1.at_ 2, fnl⟩⟩)
  clear st1 hbr1 hfr c1
  refine wpList_nil ?_
  refine then_normal ?_
  refine wp_seq ?_
  refine wp_seq ?_
  refine sym_region st [(3, Fact.ptr (Con.nn k p)), (4, Fact.agg (Con.nn k p)), (5, fT), (6, fF), (7, fF), (8, Fact.ptr (Con.nn l q)), (9, Fact.agg (Con.nn l q)), (10, fT), (11, fF), (12, fF), (13, fF), (14, Fact.ptr (Con.nn l q)), (15, Fact.agg (Con.nn l q)), (16, fF), (17, fF)] [] 15 (by kernel_rfl) (by kernel_rfl) (by kernel_rfl) (Nat.le_of_ble_eq_true rfl) (by kernel_rfl) rfl rfl ?_ ?_
  · refine fcn (ob_addr 26 1 1 3 1 (Con.tri k l true p q) (Con.nn k p) rfl rfl (.inl rfl) (by kernel_rfl) points_cell rfl (Con.tri_1 k l true p q) field26_1) ?_
    refine fcn (ob_read 24 3 4 (Con.nn k p) rfl rfl (.inl rfl) (by kernel_rfl) points_ptr rfl row24 info24) ?_
    refine fcn (ob_call1 93 4 5 _ rfl rfl (.inl rfl) (by kernel_rfl) (by kernel_rfl) (n_valid k p)) ?_
    refine fcn (ob_not 5 6 true false rfl rfl rfl (.inl rfl) (by kernel_rfl) rfl rfl) ?_
    refine fcn (ob_copy 6 7 (.inl rfl) rfl (.inl rfl) (by kernel_rfl) rfl) ?_
    refine fcn (ob_addr 26 2 1 8 2 (Con.tri k l true p q) (Con.nn l q) rfl rfl (.inr ⟨_, _, _, rfl, rfl, by kernel_rfl, by decide, rfl⟩) (by kernel_rfl) points_cell rfl (Con.tri_2 k l true p q) field26_2) ?_
    refine fcn (ob_read 24 8 9 (Con.nn l q) rfl rfl (.inr ⟨_, _, _, rfl, rfl, by kernel_rfl, by decide, rfl⟩) (by kernel_rfl) points_ptr rfl row24 info24) ?_
    refine fcn (ob_call1 93 9 10 _ rfl rfl (.inr ⟨_, _, _, rfl, rfl, by kernel_rfl, by decide, rfl⟩) (by kernel_rfl) (by kernel_rfl) (n_valid l q)) ?_
    refine fcn (ob_not 10 11 true false rfl rfl rfl (.inr ⟨_, _, _, rfl, rfl, by kernel_rfl, by decide, rfl⟩) (by kernel_rfl) rfl rfl) ?_
    refine fcn (ob_pick_else 7 11 12 (.bool true) rfl rfl (.inl rfl) (by kernel_rfl) (by kernel_rfl) rfl rfl) ?_
    refine fcn (ob_copy 12 13 (.inl rfl) rfl (.inl rfl) (by kernel_rfl) rfl) ?_
    refine fcn (ob_addr 26 2 1 14 2 (Con.tri k l true p q) (Con.nn l q) rfl rfl (.inr ⟨_, _, _, rfl, rfl, by kernel_rfl, by decide, rfl⟩) (by kernel_rfl) points_cell rfl (Con.tri_2 k l true p q) field26_2) ?_
    refine fcn (ob_read 24 14 15 (Con.nn l q) rfl rfl (.inr ⟨_, _, _, rfl, rfl, by kernel_rfl, by decide, rfl⟩) (by kernel_rfl) points_ptr rfl row24 info24) ?_
    refine fcn (ob_call1 48 15 16 _ rfl rfl (.inr ⟨_, _, _, rfl, rfl, by kernel_rfl, by decide, rfl⟩) (by kernel_rfl) (by kernel_rfl) (q_isZero l q false (decide_eq_false hq))) ?_
    refine fcn (ob_pick_else 13 16 17 (.bool true) rfl rfl (.inl rfl) (by kernel_rfl) (by kernel_rfl) rfl rfl) ?_
    exact fnl
  intro a2 w2 st2 hbr2 hfr
  have hs2 := hbr2.size
  have hb := up hb hbr2
  have st : St 31 [(1, Fact.cell b1 (Con.tri k l true p q)), (2, fF), (17, fF)] a2 w2 := st2.to (fcs ⟨st2.at_ 1, fcs ⟨st2.at_ 2, fcs ⟨st2.at_ 17, fnl⟩⟩⟩)
  clear st2 hbr2 hfr
  refine wpList_nil ?_
  refine then_normal ?_
  refine wp_cond_false (st.at_ 17) ?_
  refine wp_skip ?_
  refine then_normal ?_
  refine wp_seq ?_
  refine wp_seq ?_
  refine sym_region st [(18, Fact.ptr (Con.bool true)), (19, fT), (20, fT), (21, Fact.ptr (Con.nn k p)), (22, Fact.agg (Con.nn k p)), (23, fT), (24, fT)] [] 7 (by kernel_rfl) (by kernel_rfl) (by kernel_rfl) (Nat.le_of_ble_eq_true rfl) (by kernel_rfl) rfl rfl ?_ ?_
  · refine fcn (ob_addr 26 0 1 18 0 (Con.tri k l true p q) (Con.bool true) rfl rfl (.inl rfl) (by kernel_rfl) points_cell rfl (Con.tri_0 k l true p q) field26_0) ?_
    refine fcn (ob_readb 18 19 true true rfl rfl rfl (.inl rfl) (by kernel_rfl) points_ptr rfl) ?_
    refine fcn (ob_copy 19 20 (.inl rfl) rfl (.inl rfl) (by kernel_rfl) rfl) ?_
    refine fcn (ob_addr 26 1 1 21 1 (Con.tri k l true p q) (Con.nn k p) rfl rfl (.inr ⟨_, _, _, rfl, rfl, by kernel_rfl, by decide, rfl⟩) (by kernel_rfl) points_cell rfl (Con.tri_1 k l true p q) field26_1) ?_
    refine fcn (ob_read 24 21 22 (Con.nn k p) rfl rfl (.inr ⟨_, _, _, rfl, rfl, by kernel_rfl, by decide, rfl⟩) (by kernel_rfl) points_ptr rfl row24 info24) ?_
    refine fcn (ob_call1 48 22 23 _ rfl rfl (.inr ⟨_, _, _, rfl, rfl, by kernel_rfl, by decide, rfl⟩) (by kernel_rfl) (by kernel_rfl) (q_isZero k p true (decide_eq_true hp))) ?_
    refine fcn (ob_pick 20 23 24 _ rfl rfl (.inl rfl) (by kernel_rfl) (by kernel_rfl) rfl rfl) ?_
    exact fnl
  intro a3 w3 st3 hbr3 hfr
  have hs3 := hbr3.size
  have hb := up hb hbr3
  have st : St 31 [(1, Fact.cell b1 (Con.tri k l true p q)), (2, fF), (24, fT)] a3 w3 := st3.to (fcs ⟨st3.at_ 1, fcs ⟨st3.at_ 2, fcs ⟨st3.at_ 24, fnl⟩⟩⟩)
  clear st3 hbr3 hfr
  refine wpList_nil ?_
  refine then_normal ?_
  refine wp_cond_true (st.at_ 24) ?_
  refine wp_seq ?_
  have st := st.to (ks' := [(1, Fact.cell b1 (Con.tri k l true p q)), (24, fT)]) (fcs ⟨st.at_ 1, fcs ⟨st.at_ 24, fnl⟩⟩)
  refine sym_region st [(2, fF)] [] 1 (by kernel_rfl) (by kernel_rfl) (by kernel_rfl) (Nat.le_of_ble_eq_true rfl) (by kernel_rfl) rfl rfl ?_ ?_
  · refine fcn (ob_const (.bool false) 2 (.inr rfl) rfl (.inl rfl) rfl) ?_
    exact fnl
  intro a4 w4 st4 hbr4 hfr
  have hs4 := hbr4.size
  have hb := up hb hbr4
  have st : St 31 [(1, Fact.cell b1 (Con.tri k l true p q)), (2, fF)] a4 w4 := st4.to (fcs ⟨st4.at_ 1, fcs ⟨st4.at_ 2, fnl⟩⟩)
  clear st4 hbr4 hfr
  refine wpList_nil ?_
  refine then_normal ?_
  refine wp_ret ?_
  exact sym_ret1 rfl st.defers (resAt_tmp st 2) hb (fun _ h => h)
set_option maxRecDepth 100000 in
theorem q_valid_c (k l : Nat) (p q : Nat) (hq : q ≠ 0) (hp : p ≠ 0) (_hk : k ≤ 300) (hl : l ≤ 300) (b : Bool) (hbd : decide (Nat.gcd p q = 1) = b) : ∀ v0 w, (Fact.agg (Con.tri k l true p q)).holds v0 w → Calls Tryz.prog 70 #[v0] w (Ret (Fact.eq (.bool b)) w) := by
  intro v0 w hv0
  refine sym_calls 31 [(0, Fact.agg (Con.tri k l true p q))] Tryz.func70 rfl rfl (Nat.le_of_ble_eq_true rfl) (fcs ⟨⟨Nat.le_of_ble_eq_true rfl, hv0⟩, fnl⟩) fun a st => ?_
  have hb := Below.refl w.heap.size w
  refine wp_seq ?_
  refine sym_region st [(1, Fact.var' (Con.tri k l true p q)), (2, fF)] [1] 2 (by kernel_rfl) (by kernel_rfl) (by kernel_rfl) (Nat.le_of_ble_eq_true rfl) (by kernel_rfl) rfl rfl ?_ ?_
  · refine fcs ⟨obn_box 26 0 1 _ (Con.tri k l true p q) rfl rfl rfl (by kernel_rfl) rfl rfl, ?_⟩
    refine fcn (ob_const (.bool false) 2 (.inr rfl) rfl (.inl rfl) rfl) ?_
    exact fnl
  intro a1 w1 st1 hbr1 hfr
  have hs1 := hbr1.size
  have hb := up hb hbr1
  obtain ⟨b1, c1⟩ := (show (Fact.var' (Con.tri k l true p q)).holds _ _ from st1.at_ 1)
  have g1 := hfr.ge (s := 1) rfl c1.1
  have st : St 31 [(1, Fact.cell b1 (Con.tri k l true p q)), (2, fF)] a1 w1 := st1.to (fcs ⟨c1, fcs ⟨st1.at_ 2, fnl⟩⟩)
  clear st1 hbr1 hfr c1
  refine wpList_nil ?_
  refine then_normal ?_
  refine wp_seq ?_
  refine wp_seq ?_
  refine sym_region st [(3, Fact.ptr (Con.nn k p)), (4, Fact.agg (Con.nn k p)), (5, fT), (6, fF), (7, fF), (8, Fact.ptr (Con.nn l q)), (9, Fact.agg (Con.nn l q)), (10, fT), (11, fF), (12, fF), (13, fF), (14, Fact.ptr (Con.nn l q)), (15, Fact.agg (Con.nn l q)), (16, fF), (17, fF)] [] 15 (by kernel_rfl) (by kernel_rfl) (by kernel_rfl) (Nat.le_of_ble_eq_true rfl) (by kernel_rfl) rfl rfl ?_ ?_
  · refine fcn (ob_addr 26 1 1 3 1 (Con.tri k l true p q) (Con.nn k p) rfl rfl (.inl rfl) (by kernel_rfl) points_cell rfl (Con.tri_1 k l true p q) field26_1) ?_
    refine fcn (ob_read 24 3 4 (Con.nn k p) rfl rfl (.inl rfl) (by kernel_rfl) points_ptr rfl row24 info24) ?_
    refine fcn (ob_call1 93 4 5 _ rfl rfl (.inl rfl) (by kernel_rfl) (by kernel_rfl) (n_valid k p)) ?_
    refine fcn (ob_not 5 6 true false rfl rfl rfl (.inl rfl) (by kernel_rfl) rfl rfl) ?_
    refine fcn (ob_copy 6 7 (.inl rfl) rfl (.inl rfl) (by kernel_rfl) rfl) ?_
    refine fcn (ob_addr 26 2 1 8 2 (Con.tri k l true p q) (Con.nn l q) rfl rfl (.inr ⟨_, _, _, rfl, rfl, by kernel_rfl, by decide, rfl⟩) (by kernel_rfl) points_cell rfl (Con.tri_2 k l true p q) field26_2) ?_
    refine fcn (ob_read 24 8 9 (Con.nn l q) rfl rfl (.inr ⟨_, _, _, rfl, rfl, by kernel_rfl, by decide, rfl⟩) (by kernel_rfl) points_ptr rfl row24 info24) ?_
    refine fcn (ob_call1 93 9 10 _ rfl rfl (.inr ⟨_, _, _, rfl, rfl, by kernel_rfl, by decide, rfl⟩) (by kernel_rfl) (by kernel_rfl) (n_valid l q)) ?_
    refine fcn (ob_not 10 11 true false rfl rfl rfl (.inr ⟨_, _, _, rfl, rfl, by kernel_rfl, by decide, rfl⟩) (by kernel_rfl) rfl rfl) ?_
    refine fcn (ob_pick_else 7 11 12 (.bool true) rfl rfl (.inl rfl) (by kernel_rfl) (by kernel_rfl) rfl rfl) ?_
    refine fcn (ob_copy 12 13 (.inl rfl) rfl (.inl rfl) (by kernel_rfl) rfl) ?_
    refine fcn (ob_addr 26 2 1 14 2 (Con.tri k l true p q) (Con.nn l q) rfl rfl (.inr ⟨_, _, _, rfl, rfl, by kernel_rfl, by decide, rfl⟩) (by kernel_rfl) points_cell rfl (Con.tri_2 k l true p q) field26_2) ?_
    refine fcn (ob_read 24 14 15 (Con.nn l q) rfl rfl (.inr ⟨_, _, _, rfl, rfl, by kernel_rfl, by decide, rfl⟩) (by kernel_rfl) points_ptr rfl row24 info24) ?_
    refine fcn (ob_call1 48 15 16 _ rfl rfl (.inr ⟨_, _, _, rfl, rfl, by kernel_rfl, by decide, rfl⟩) (by kernel_rfl) (by kernel_rfl) (q_isZero l q false (decide_eq_false hq))) ?_
    refine fcn (ob_pick_else 13 16 17 (.bool true) rfl rfl (.inl rfl) (by kernel_rfl) (by kernel_rfl) rfl rfl) ?_
    exact fnl
  intro a2 w2 st2 hbr2 hfr
  have hs2 := hbr2.size
  have hb := up hb hbr2
  have st : St 31 [(1, Fact.cell b1 (Con.tri k l true p q)), (2, fF), (17, fF)] a2 w2 := st2.to (fcs ⟨st2.at_ 1, fcs ⟨st2.at_ 2, fcs ⟨st2.at_ 17, fnl⟩⟩⟩)
  clear st2 hbr2 hfr
  refine wpList_nil ?_
  refine then_normal ?_
  refine wp_cond_false (st.at_ 17) ?_
  refine wp_skip ?_
  refine then_normal ?_
  refine wp_seq ?_
  refine wp_seq ?_
  refine sym_region st [(18, Fact.ptr (Con.bool true)), (19, fT), (20, fT), (21, Fact.ptr (Con.nn k p)), (22, Fact.agg (Con.nn k p)), (23, fF), (24, fF)] [] 7 (by kernel_rfl) (by kernel_rfl) (by kernel_rfl) (Nat.le_of_ble_eq_true rfl) (by kernel_rfl) rfl rfl ?_ ?_
  · refine fcn (ob_addr 26 0 1 18 0 (Con.tri k l true p q) (Con.bool true) rfl rfl (.inl rfl) (by kernel_rfl) points_cell rfl (Con.tri_0 k l true p q) field26_0) ?_
    refine fcn (ob_readb 18 19 true true rfl rfl rfl (.inl rfl) (by kernel_rfl) points_ptr rfl) ?_
    refine fcn (ob_copy 19 20 (.inl rfl) rfl (.inl rfl) (by kernel_rfl) rfl) ?_
    refine fcn (ob_addr 26 1 1 21 1 (Con.tri k l true p q) (Con.nn k p) rfl rfl (.inr ⟨_, _, _, rfl, rfl, by kernel_rfl, by decide, rfl⟩) (by kernel_rfl) points_cell rfl (Con.tri_1 k l true p q) field26_1) ?_
    refine fcn (ob_read 24 21 22 (Con.nn k p) rfl rfl (.inr ⟨_, _, _, rfl, rfl, by kernel_rfl, by decide, rfl⟩) (by kernel_rfl) points_ptr rfl row24 info24) ?_
    refine fcn (ob_call1 48 22 23 _ rfl rfl (.inr ⟨_, _, _, rfl, rfl, by kernel_rfl, by decide, rfl⟩) (by kernel_rfl) (by kernel_rfl) (q_isZero k p false (decide_eq_false hp))) ?_
    refine fcn (ob_pick 20 23 24 _ rfl rfl (.inl rfl) (by kernel_rfl) (by kernel_rfl) rfl rfl) ?_
    exact fnl
  intro a3 w3 st3 hbr3 hfr
  have hs3 := hbr3.size
  have hb := up hb hbr3
  have st : St 31 [(1, Fact.cell b1 (Con.tri k l true p q)), (2, fF), (24, fF)] a3 w3 := st3.to (fcs ⟨st3.at_ 1, fcs ⟨st3.at_ 2, fcs ⟨st3.at_ 24, fnl⟩⟩⟩)
  clear st3 hbr3 hfr
  refine wpList_nil ?_
  refine then_normal ?_
  refine wp_cond_false (st.at_ 24) ?_
  refine wp_skip ?_
  refine then_normal ?_
  refine wp_seq ?_
  have st := st.to (ks' := [(1, Fact.cell b1 (Con.tri k l true p q)), (24, fF)]) (fcs ⟨st.at_ 1, fcs ⟨st.at_ 24, fnl⟩⟩)
  refine sym_region st [(25, Fact.ptr (Con.nn k p)), (26, Fact.agg (Con.nn k p)), (27, Fact.ptr (Con.nn l q)), (28, Fact.agg (Con.nn l q)), (29, Fact.agg (Con.nn l (Nat.gcd p q))), (30, Fact.eq (.bool b)), (2, Fact.eq (.bool b))] [] 7 (by kernel_rfl) (by kernel_rfl) (by kernel_rfl) (Nat.le_of_ble_eq_true rfl) (by kernel_rfl) rfl rfl ?_ ?_
  · refine fcn (ob_addr 26 1 1 25 1 (Con.tri k l true p q) (Con.nn k p) rfl rfl (.inl rfl) (by kernel_rfl) points_cell rfl (Con.tri_1 k l true p q) field26_1) ?_
    refine fcn (ob_read 24 25 26 (Con.nn k p) rfl rfl (.inl rfl) (by kernel_rfl) points_ptr rfl row24 info24) ?_
    refine fcn (ob_addr 26 2 1 27 2 (Con.tri k l true p q) (Con.nn l q) rfl rfl (.inl rfl) (by kernel_rfl) points_cell rfl (Con.tri_2 k l true p q) field26_2) ?_
    refine fcn (ob_read 24 27 28 (Con.nn l q) rfl rfl (.inl rfl) (by kernel_rfl) points_ptr rfl row24 info24) ?_
    refine fcn (ob_call2 75 26 28 29 _ rfl rfl (.inl rfl) (by kernel_rfl) (by kernel_rfl) (by kernel_rfl) (n_gcd k l p q hq (by omega))) ?_
    refine fcn (ob_call1 69 29 30 _ rfl rfl (.inl rfl) (by kernel_rfl) (by kernel_rfl) (q_isOne l (Nat.gcd p q) b hbd)) ?_
    refine fcn (ob_copy 30 2 (.inr rfl) rfl (.inl rfl) (by kernel_rfl) rfl) ?_
    exact fnl
  intro a4 w4 st4 hbr4 hfr
  have hs4 := hbr4.size
  have hb := up hb hbr4
  have st : St 31 [(2, Fact.eq (.bool b))] a4 w4 := st4.to (fcs ⟨st4.at_ 2, fnl⟩)
  clear st4 hbr4 hfr
  refine wpList_nil ?_
  refine then_normal ?_
  refine wp_ret ?_
  exact sym_ret1 rfl st.defers (resAt_tmp st 2) hb (fun _ h => h)
set_option maxRecDepth 100000 in
theorem q_valid_d (k l : Nat) (p q : Nat) (hq : q ≠ 0) (_hk : k ≤ 300) (hl : l ≤ 300) (b : Bool) (hbd : decide (Nat.gcd p q = 1) = b) : ∀ v0 w, (Fact.agg (Con.tri k l false p q)).holds v0 w → Calls Tryz.prog 70 #[v0] w (Ret (Fact.eq (.bool b)) w) := by
  intro v0 w hv0
  refine sym_calls 31 [(0, Fact.agg (Con.tri k l false p q))] Tryz.func70 rfl rfl (Nat.le_of_ble_eq_true rfl) (fcs ⟨⟨Nat.le_of_ble_eq_true rfl, hv0⟩, fnl⟩) fun a st => ?_
  have hb := Below.refl w.heap.size w
  refine wp_seq ?_
  refine sym_region st [(1, Fact.var' (Con.tri k l false p q)), (2, fF)] [1] 2 (by kernel_rfl) (by kernel_rfl) (by kernel_rfl) (Nat.le_of_ble_eq_true rfl) (by kernel_rfl) rfl rfl ?_ ?_
  · refine fcs ⟨obn_box 26 0 1 _ (Con.tri k l false p q) rfl rfl rfl (by kernel_rfl) rfl rfl, ?_⟩
    refine fcn (ob_const (.bool false) 2 (.inr rfl) rfl (.inl rfl) rfl) ?_
    exact fnl
  intro a1 w1 st1 hbr1 hfr
  have hs1 := hbr1.size
  have hb := up hb hbr1
  obtain ⟨b1, c1⟩ := (show (Fact.var' (Con.tri k l false p q)).holds _ _ from st1.at_ 1)
  have g1 := hfr.ge (s := 1) rfl c1.1
  have st : St 31 [(1, Fact.cell b1 (Con.tri k l false p q)), (2, fF)] a1 w1 := st1.to (fcs ⟨c1, fcs ⟨st1.at_ 2, fnl⟩⟩)
  clear st1 hbr1 hfr c1
  refine wpList_nil ?_
  refine then_normal ?_
  refine wp_seq ?_
  refine wp_seq ?_
  refine sym_region st [(3, Fact.ptr (Con.nn k p)), (4, Fact.agg (Con.nn k p)), (5, fT), (6, fF), (7, fF), (8, Fact.ptr (Con.nn l q)), (9, Fact.agg (Con.nn l q)), (10, fT), (11, fF), (12, fF), (13, fF), (14, Fact.ptr (Con.nn l q)), (15, Fact.agg (Con.nn l q)), (16, fF), (17, fF)] [] 15 (by kernel_rfl) (by kernel_rfl) (by kernel_rfl) (Nat.le_of_ble_eq_true rfl) (by kernel_rfl) rfl rfl ?_ ?_
  · refine fcn (ob_addr 26 1 1 3 1 (Con.tri k l false p q) (Con.nn k p) rfl rfl (.inl rfl) (by kernel_rfl) points_cell rfl (Con.tri_1 k l false p q) field26_1) ?_
    refine fcn (ob_read 24 3 4 (Con.nn k p) rfl rfl (.inl rfl) (by kernel_rfl) points_ptr rfl row24 info24) ?_
    refine fcn (ob_call1 93 4 5 _ rfl rfl (.inl rfl) (by kernel_rfl) (by kernel_rfl) (n_valid k p)) ?_
    refine fcn (ob_not 5 6 true false rfl rfl rfl (.inl rfl) (by kernel_rfl) rfl rfl) ?_
    refine fcn (ob_copy 6 7 (.inl rfl) rfl (.inl rfl) (by kernel_rfl) rfl) ?_
    refine fcn (ob_addr 26 2 1 8 2 (Con.tri k l false p q) (Con.nn l q) rfl rfl (.inr ⟨_, _, _, rfl, rfl, by kernel_rfl, by decide, rfl⟩) (by kernel_rfl) points_cell rfl (Con.tri_2 k l false p q) field26_2) ?_
    refine fcn (ob_read 24 8 9 (Con.nn l q) rfl rfl (.inr ⟨_, _, _, rfl, rfl, by kernel_rfl, by decide, rfl⟩) (by kernel_rfl) points_ptr rfl row24 info24) ?_
    refine fcn (ob_call1 93 9 10 _ rfl rfl (.inr ⟨_, _, _, rfl, rfl, by kernel_rfl, by decide, rfl⟩) (by kernel_rfl) (by kernel_rfl) (n_valid l q)) ?_
    refine fcn (ob_not 10 11 true false rfl rfl rfl (.inr ⟨_, _, _, rfl, rfl, by kernel_rfl, by decide, rfl⟩) (by kernel_rfl) rfl rfl) ?_
    refine fcn (ob_pick_else 7 11 12 (.bool true) rfl rfl (.inl rfl) (by kernel_rfl) (by kernel_rfl) rfl rfl) ?_
    refine fcn (ob_copy 12 13 (.inl rfl) rfl (.inl rfl) (by kernel_rfl) rfl) ?_
    refine fcn (ob_addr 26 2 1 14 2 (Con.tri k l false p q) (Con.nn l q) rfl rfl (.inr ⟨_, _, _, rfl, rfl, by kernel_rfl, by decide, rfl⟩) (by kernel_rfl) points_cell rfl (Con.tri_2 k l false p q) field26_2) ?_
    refine fcn (ob_read 24 14 15 (Con.nn l q) rfl rfl (.inr ⟨_, _, _, rfl, rfl, by kernel_rfl, by decide, rfl⟩) (by kernel_rfl) points_ptr rfl row24 info24) ?_
    refine fcn (ob_call1 48 15 16 _ rfl rfl (.inr ⟨_, _, _, rfl, rfl, by kernel_rfl, by decide, rfl⟩) (by kernel_rfl) (by kernel_rfl) (q_isZero l q false (decide_eq_false hq))) ?_
    refine fcn (ob_pick_else 13 16 17 (.bool true) rfl rfl (.inl rfl) (by kernel_rfl) (by kernel_rfl) rfl rfl) ?_
    exact fnl
  intro a2 w2 st2 hbr2 hfr
  have hs2 := hbr2.size
  have hb := up hb hbr2
  have st : St 31 [(1, Fact.cell b1 (Con.tri k l false p q)), (2, fF), (17, fF)] a2 w2 := st2.to (fcs ⟨st2.at_ 1, fcs ⟨st2.at_ 2, fcs ⟨st2.at_ 17, fnl⟩⟩⟩)
  clear st2 hbr2 hfr
  refine wpList_nil ?_
  refine then_normal ?_
  refine wp_cond_false (st.at_ 17) ?_
  refine wp_skip ?_
  refine then_normal ?_
  refine wp_seq ?_
  refine wp_seq ?_
  refine sym_region st [(18, Fact.ptr (Con.bool false)), (19, fF), (20, fF), (21, Fact.eq undef), (22, Fact.eq undef), (23, Fact.eq undef), (24, fF)] [] 7 (by kernel_rfl) (by kernel_rfl) (by kernel_rfl) (Nat.le_of_ble_eq_true rfl) (by kernel_rfl) rfl rfl ?_ ?_
  · refine fcn (ob_addr 26 0 1 18 0 (Con.tri k l false p q) (Con.bool false) rfl rfl (.inl rfl) (by kernel_rfl) points_cell rfl (Con.tri_0 k l false p q) field26_0) ?_
    refine fcn (ob_readb 18 19 false false rfl rfl rfl (.inl rfl) (by kernel_rfl) points_ptr rfl) ?_
    refine fcn (ob_copy 19 20 (.inl rfl) rfl (.inl rfl) (by kernel_rfl) rfl) ?_
    refine fcn (ob_skip 2 20 21 true rfl rfl (by kernel_rfl) (by decide) rfl rfl rfl) ?_
    refine fcn (ob_skip 2 20 22 true rfl rfl (by kernel_rfl) (by decide) rfl rfl rfl) ?_
    refine fcn (ob_skip 2 20 23 true rfl rfl (by kernel_rfl) (by decide) rfl rfl rfl) ?_
    refine fcn (ob_pick_no 20 23 24 (.bool false) rfl rfl (.inl rfl) (by kernel_rfl) rfl rfl) ?_
    exact fnl
  intro a3 w3 st3 hbr3 hfr
  have hs3 := hbr3.size
  have hb := up hb hbr3
  have st : St 31 [(1, Fact.cell b1 (Con.tri k l false p q)), (2, fF), (24, fF)] a3 w3 := st3.to (fcs ⟨st3.at_ 1, fcs ⟨st3.at_ 2, fcs ⟨st3.at_ 24, fnl⟩⟩⟩)
  clear st3 hbr3 hfr
  refine wpList_nil ?_
  refine then_normal ?_
  refine wp_cond_false (st.at_ 24) ?_
  refine wp_skip ?_
  refine then_normal ?_
  refine wp_seq ?_
  have st := st.to (ks' := [(1, Fact.cell b1 (Con.tri k l false p q)), (24, fF)]) (fcs ⟨st.at_ 1, fcs ⟨st.at_ 24, fnl⟩⟩)
  refine sym_region st [(25, Fact.ptr (Con.nn k p)), (26, Fact.agg (Con.nn k p)), (27, Fact.ptr (Con.nn l q)), (28, Fact.agg (Con.nn l q)), (29, Fact.agg (Con.nn l (Nat.gcd p q))), (30, Fact.eq (.bool b)), (2, Fact.eq (.bool b))] [] 7 (by kernel_rfl) (by kernel_rfl) (by kernel_rfl) (Nat.le_of_ble_eq_true rfl) (by kernel_rfl) rfl rfl ?_ ?_
  · refine fcn (ob_addr 26 1 1 25 1 (Con.tri k l false p q) (Con.nn k p) rfl rfl (.inl rfl) (by kernel_rfl) points_cell rfl (Con.tri_1 k l false p q) field26_1) ?_
    refine fcn (ob_read 24 25 26 (Con.nn k p) rfl rfl (.inl rfl) (by kernel_rfl) points_ptr rfl row24 info24) ?_
    refine fcn (ob_addr 26 2 1 27 2 (Con.tri k l false p q) (Con.nn l q) rfl rfl (.inl rfl) (by kernel_rfl) points_cell rfl (Con.tri_2 k l false p q) field26_2) ?_
    refine fcn (ob_read 24 27 28 (Con.nn l q) rfl rfl (.inl rfl) (by kernel_rfl) points_ptr rfl row24 info24) ?_
    refine fcn (ob_call2 75 26 28 29 _ rfl rfl (.inl rfl) (by kernel_rfl) (by kernel_rfl) (by kernel_rfl) (n_gcd k l p q hq (by omega))) ?_
    refine fcn (ob_call1 69 29 30 _ rfl rfl (.inl rfl) (by kernel_rfl) (by kernel_rfl) (q_isOne l (Nat.gcd p q) b hbd)) ?_
    refine fcn (ob_copy 30 2 (.inr rfl) rfl (.inl rfl) (by kernel_rfl) rfl) ?_
    exact fnl
  intro a4 w4 st4 hbr4 hfr
  have hs4 := hbr4.size
  have hb := up hb hbr4
  have st : St 31 [(2, Fact.eq (.bool b))] a4 w4 := st4.to (fcs ⟨st4.at_ 2, fnl⟩)
  clear st4 hbr4 hfr
  refine wpList_nil ?_
  refine then_normal ?_
  refine wp_ret ?_
  exact sym_ret1 rfl st.defers (resAt_tmp st 2) hb (fun _ h => h)
theorem q_valid_tri (k l : Nat) (s : Bool) (p q : Nat) (hk : k ≤ 300) (hl : l ≤ 300) (b : Bool) (hbd : vldT s p q = b) : ∀ v0 w, (Fact.agg (Con.tri k l s p q)).holds v0 w → Calls Tryz.prog 70 #[v0] w (Ret (Fact.eq (.bool b)) w) := by
  intro v0 w hv0
  subst hbd
  by_cases hq : q = 0
  · rw [show vldT s p q = false from by simp [vldT, hq]]
    exact q_valid_a k l s p q hq v0 w hv0
  · cases s with
    | true =>
      by_cases hp : p = 0
      · rw [show vldT true p q = false from by simp [vldT, hp]]
        exact q_valid_b k l p q hq hp v0 w hv0
      · exact q_valid_c k l p q hq hp hk hl _ (by simp [vldT, hq, hp]) v0 w hv0
    | false => exact q_valid_d k l p q hq hk hl _ (by simp [vldT, hq]) v0 w hv0
set_option maxRecDepth 100000 in
theorem w_fit0 (s : Bool) (xs ys : List Nat) (h : ¬ xs.length ≤ 12) : ∀ v0 w, (Fact.agg (Con.pre s xs ys)).holds v0 w → Calls Tryz.prog 8 #[v0] w (Ret (fF) w) := by
  intro v0 w hv0
  refine sym_calls 19 [(0, Fact.agg (Con.pre s xs ys))] Tryz.func8 rfl rfl (Nat.le_of_ble_eq_true rfl) (fcs ⟨⟨Nat.le_of_ble_eq_true rfl, hv0⟩, fnl⟩) fun a st => ?_
  have hb := Below.refl w.heap.size w
  refine wp_seq ?_
  refine sym_region st [(1, Fact.var' (Con.pre s xs ys)), (2, fF)] [1] 2 (by kernel_rfl) (by kernel_rfl) (by kernel_rfl) (Nat.le_of_ble_eq_true rfl) (by kernel_rfl) rfl rfl ?_ ?_
  · refine fcs ⟨obn_box 26 0 1 _ (Con.pre s xs ys) rfl rfl rfl (by kernel_rfl) rfl rfl, ?_⟩
    refine fcn (ob_const (.bool false) 2 (.inr rfl) rfl (.inl rfl) rfl) ?_
    exact fnl
  intro a1 w1 st1 hbr1 hfr
  have hs1 := hbr1.size
  have hb := up hb hbr1
  obtain ⟨b1, c1⟩ := (show (Fact.var' (Con.pre s xs ys)).holds _ _ from st1.at_ 1)
  have g1 := hfr.ge (s := 1) rfl c1.1
  have st : St 19 [(1, Fact.cell b1 (Con.pre s xs ys)), (2, fF)] a1 w1 := st1.to (fcs ⟨c1, fcs ⟨st1.at_ 2, fnl⟩⟩)
  clear st1 hbr1 hfr c1
  refine wpList_nil ?_
  refine then_normal ?_
  refine wp_seq ?_
  have st := st.to (ks' := [(1, Fact.cell b1 (Con.pre s xs ys))]) (fcs ⟨st.at_ 1, fnl⟩)
  refine sym_region st [(3, Fact.ptr (Con.any_ xs)), (4, Fact.ptr (Con.any_ xs)), (5, Fact.rowd xs), (6, fI ((xs).length : Int)), (7, fF), (8, fF), (9, Fact.eq undef), (10, Fact.eq undef), (11, Fact.eq undef), (12, Fact.eq undef), (13, Fact.eq undef), (14, fF), (15, fF), (16, Fact.eq undef), (17, Fact.eq undef), (18, fF), (2, fF)] [] 17 (by kernel_rfl) (by kernel_rfl) (by kernel_rfl) (Nat.le_of_ble_eq_true rfl) (by kernel_rfl) rfl rfl ?_ ?_
  · refine fcn (ob_addr 26 1 1 3 1 (Con.pre s xs ys) (Con.any_ xs) rfl rfl (.inl rfl) (by kernel_rfl) points_cell rfl (Con.pre_1 s xs ys) field26_1) ?_
    refine fcn (ob_addr 24 0 3 4 0 (Con.any_ xs) (Con.any_ xs) rfl rfl (.inl rfl) (by kernel_rfl) points_ptr rfl (Con.Sub.refl _) field24_0) ?_
    refine fcn (ob_loadrowd 4 5 xs (Con.any_ xs) any_row rfl rfl (.inl rfl) (by kernel_rfl) points_ptr rfl) ?_
    refine fcn (ob_len 5 6 (xs).length 22 rfl (by kernel_rfl) rfl (.inl rfl) (by kernel_rfl) len_rowd rfl) ?_
    refine fcn (ob_lec 6 7 .i64 3 _ ((xs).length : Int) 12 false (decide_eq_false (by omega)) rfl rfl (.inl rfl) (by kernel_rfl) rfl rfl) ?_
    refine fcn (ob_copy 7 8 (.inl rfl) rfl (.inl rfl) (by kernel_rfl) rfl) ?_
    refine fcn (ob_skip 5 8 9 true rfl rfl (by kernel_rfl) (by decide) rfl rfl rfl) ?_
    refine fcn (ob_skip 5 8 10 true rfl rfl (by kernel_rfl) (by decide) rfl rfl rfl) ?_
    refine fcn (ob_skip 5 8 11 true rfl rfl (by kernel_rfl) (by decide) rfl rfl rfl) ?_
    refine fcn (ob_skip 5 8 12 true rfl rfl (by kernel_rfl) (by decide) rfl rfl rfl) ?_
    refine fcn (ob_skip 5 8 13 true rfl rfl (by kernel_rfl) (by decide) rfl rfl rfl) ?_
    refine fcn (ob_pick_no 8 13 14 (.bool false) rfl rfl (.inl rfl) (by kernel_rfl) rfl rfl) ?_
    refine fcn (ob_copy 14 15 (.inl rfl) rfl (.inl rfl) (by kernel_rfl) rfl) ?_
    refine fcn (ob_skip 12 15 16 true rfl rfl (by kernel_rfl) (by decide) rfl rfl rfl) ?_
    refine fcn (ob_skip 12 15 17 true rfl rfl (by kernel_rfl) (by decide) rfl rfl rfl) ?_
    refine fcn (ob_pick_no 15 17 18 (.bool false) rfl rfl (.inl rfl) (by kernel_rfl) rfl rfl) ?_
    refine fcn (ob_copy 18 2 (.inr rfl) rfl (.inl rfl) (by kernel_rfl) rfl) ?_
    exact fnl
  intro a2 w2 st2 hbr2 hfr
  have hs2 := hbr2.size
  have hb := up hb hbr2
  have st : St 19 [(2, fF)] a2 w2 := st2.to (fcs ⟨st2.at_ 2, fnl⟩)
  clear st2 hbr2 hfr
  refine wpList_nil ?_
  refine then_normal ?_
  refine wp_ret ?_
  exact sym_ret1 rfl st.defers (resAt_tmp st 2) hb (fun _ h => h)
set_option maxRecDepth 100000 in
theorem w_fit1 (s : Bool) (xs ys : List Nat) (h1 : xs.length ≤ 12) (h : ¬ ys.length ≤ 12) : ∀ v0 w, (Fact.agg (Con.pre s xs ys)).holds v0 w → Calls Tryz.prog 8 #[v0] w (Ret (fF) w) := by
  intro v0 w hv0
  refine sym_calls 19 [(0, Fact.agg (Con.pre s xs ys))] Tryz.func8 rfl rfl (Nat.le_of_ble_eq_true rfl) (fcs ⟨⟨Nat.le_of_ble_eq_true rfl, hv0⟩, fnl⟩) fun a st => ?_
  have hb := Below.refl w.heap.size w
  refine wp_seq ?_
  refine sym_region st [(1, Fact.var' (Con.pre s xs ys)), (2, fF)] [1] 2 (by kernel_rfl) (by kernel_rfl) (by kernel_rfl) (Nat.le_of_ble_eq_true rfl) (by kernel_rfl) rfl rfl ?_ ?_
  · refine fcs ⟨obn_box 26 0 1 _ (Con.pre s xs ys) rfl rfl rfl (by kernel_rfl) rfl rfl, ?_⟩
    refine fcn (ob_const (.bool false) 2 (.inr rfl) rfl (.inl rfl) rfl) ?_
    exact fnl
  intro a1 w1 st1 hbr1 hfr
  have hs1 := hbr1.size
  have hb := up hb hbr1
  obtain ⟨b1, c1⟩ := (show (Fact.var' (Con.pre s xs ys)).holds _ _ from st1.at_ 1)
  have g1 := hfr.ge (s := 1) rfl c1.1
  have st : St 19 [(1, Fact.cell b1 (Con.pre s xs ys)), (2, fF)] a1 w1 := st1.to (fcs ⟨c1, fcs ⟨st1.at_ 2, fnl⟩⟩)
  clear st1 hbr1 hfr c1
  refine wpList_nil ?_
  refine then_normal ?_
  refine wp_seq ?_
  have st := st.to (ks' := [(1, Fact.cell b1 (Con.pre s xs ys))]) (fcs ⟨st.at_ 1, fnl⟩)
  refine sym_region st [(3, Fact.ptr (Con.any_ xs)), (4, Fact.ptr (Con.any_ xs)), (5, Fact.rowd xs), (6, fI ((xs).length : Int)), (7, fT), (8, fT), (9, Fact.ptr (Con.any_ ys)), (10, Fact.ptr (Con.any_ ys)), (11, Fact.rowd ys), (12, fI ((ys).length : Int)), (13, fF), (14, fF), (15, fF), (16, Fact.eq undef), (17, Fact.eq undef), (18, fF), (2, fF)] [] 17 (by kernel_rfl) (by kernel_rfl) (by kernel_rfl) (Nat.le_of_ble_eq_true rfl) (by kernel_rfl) rfl rfl ?_ ?_
  · refine fcn (ob_addr 26 1 1 3 1 (Con.pre s xs ys) (Con.any_ xs) rfl rfl (.inl rfl) (by kernel_rfl) points_cell rfl (Con.pre_1 s xs ys) field26_1) ?_
    refine fcn (ob_addr 24 0 3 4 0 (Con.any_ xs) (Con.any_ xs) rfl rfl (.inl rfl) (by kernel_rfl) points_ptr rfl (Con.Sub.refl _) field24_0) ?_
    refine fcn (ob_loadrowd 4 5 xs (Con.any_ xs) any_row rfl rfl (.inl rfl) (by kernel_rfl) points_ptr rfl) ?_
    refine fcn (ob_len 5 6 (xs).length 22 rfl (by kernel_rfl) rfl (.inl rfl) (by kernel_rfl) len_rowd rfl) ?_
    refine fcn (ob_lec 6 7 .i64 3 _ ((xs).length : Int) 12 true (decide_eq_true (by omega)) rfl rfl (.inl rfl) (by kernel_rfl) rfl rfl) ?_
    refine fcn (ob_copy 7 8 (.inl rfl) rfl (.inl rfl) (by kernel_rfl) rfl) ?_
    refine fcn (ob_addr 26 2 1 9 2 (Con.pre s xs ys) (Con.any_ ys) rfl rfl (.inr ⟨_, _, _, rfl, rfl, by kernel_rfl, by decide, rfl⟩) (by kernel_rfl) points_cell rfl (Con.pre_2 s xs ys) field26_2) ?_
    refine fcn (ob_addr 24 0 9 10 0 (Con.any_ ys) (Con.any_ ys) rfl rfl (.inr ⟨_, _, _, rfl, rfl, by kernel_rfl, by decide, rfl⟩) (by kernel_rfl) points_ptr rfl (Con.Sub.refl _) field24_0) ?_
    refine fcn (ob_loadrowd 10 11 ys (Con.any_ ys) any_row rfl rfl (.inr ⟨_, _, _, rfl, rfl, by kernel_rfl, by decide, rfl⟩) (by kernel_rfl) points_ptr rfl) ?_
    refine fcn (ob_len 11 12 (ys).length 22 rfl (by kernel_rfl) rfl (.inr ⟨_, _, _, rfl, rfl, by kernel_rfl, by decide, rfl⟩) (by kernel_rfl) len_rowd rfl) ?_
    refine fcn (ob_lec 12 13 .i64 3 _ ((ys).length : Int) 12 false (decide_eq_false (by omega)) rfl rfl (.inr ⟨_, _, _, rfl, rfl, by kernel_rfl, by decide, rfl⟩) (by kernel_rfl) rfl rfl) ?_
    refine fcn (ob_pick 8 13 14 _ rfl rfl (.inl rfl) (by kernel_rfl) (by kernel_rfl) rfl rfl) ?_
    refine fcn (ob_copy 14 15 (.inl rfl) rfl (.inl rfl) (by kernel_rfl) rfl) ?_
    refine fcn (ob_skip 12 15 16 true rfl rfl (by kernel_rfl) (by decide) rfl rfl rfl) ?_
    refine fcn (ob_skip 12 15 17 true rfl rfl (by kernel_rfl) (by decide) rfl rfl rfl) ?_
    refine fcn (ob_pick_no 15 17 18 (.bool false) rfl rfl (.inl rfl) (by kernel_rfl) rfl rfl) ?_
    refine fcn (ob_copy 18 2 (.inr rfl) rfl (.inl rfl) (by kernel_rfl) rfl) ?_
    exact fnl
  intro a2 w2 st2 hbr2 hfr
  have hs2 := hbr2.size
  have hb := up hb hbr2
  have st : St 19 [(2, fF)] a2 w2 := st2.to (fcs ⟨st2.at_ 2, fnl⟩)
  clear st2 hbr2 hfr
  refine wpList_nil ?_
  refine then_normal ?_
  refine wp_ret ?_
  exact sym_ret1 rfl st.defers (resAt_tmp st 2) hb (fun _ h => h)
set_option maxRecDepth 100000 in
theorem w_fit2 (s : Bool) (xs ys : List Nat) (h1 : xs.length ≤ 12) (h2 : ys.length ≤ 12) (b : Bool) (hbd : vldB s xs ys = b) : ∀ v0 w, (Fact.agg (Con.few s xs ys)).holds v0 w → Calls Tryz.prog 8 #[v0] w (Ret (Fact.eq (.bool b)) w) := by
  intro v0 w hv0
  refine sym_calls 19 [(0, Fact.agg (Con.few s xs ys))] Tryz.func8 rfl rfl (Nat.le_of_ble_eq_true rfl) (fcs ⟨⟨Nat.le_of_ble_eq_true rfl, hv0⟩, fnl⟩) fun a st => ?_
  have hb := Below.refl w.heap.size w
  refine wp_seq ?_
  refine sym_region st [(1, Fact.var' (Con.few s xs ys)), (2, fF)] [1] 2 (by kernel_rfl) (by kernel_rfl) (by kernel_rfl) (Nat.le_of_ble_eq_true rfl) (by kernel_rfl) rfl rfl ?_ ?_
  · refine fcs ⟨obn_box 26 0 1 _ (Con.few s xs ys) rfl rfl rfl (by kernel_rfl) rfl rfl, ?_⟩
    refine fcn (ob_const (.bool false) 2 (.inr rfl) rfl (.inl rfl) rfl) ?_
    exact fnl
  intro a1 w1 st1 hbr1 hfr
  have hs1 := hbr1.size
  have hb := up hb hbr1
  obtain ⟨b1, c1⟩ := (show (Fact.var' (Con.few s xs ys)).holds _ _ from st1.at_ 1)
  have g1 := hfr.ge (s := 1) rfl c1.1
  have st : St 19 [(1, Fact.cell b1 (Con.few s xs ys)), (2, fF)] a1 w1 := st1.to (fcs ⟨c1, fcs ⟨st1.at_ 2, fnl⟩⟩)
  clear st1 hbr1 hfr c1
  refine wpList_nil ?_
  refine then_normal ?_
  refine wp_seq ?_
  have st := st.to (ks' := [(1, Fact.cell b1 (Con.few s xs ys))]) (fcs ⟨st.at_ 1, fnl⟩)
  refine sym_region st [(3, Fact.ptr (Con.dg xs)), (4, Fact.ptr (Con.dg xs)), (5, Fact.rowd xs), (6, fI ((xs).length : Int)), (7, fT), (8, fT), (9, Fact.ptr (Con.dg ys)), (10, Fact.ptr (Con.dg ys)), (11, Fact.rowd ys), (12, fI ((ys).length : Int)), (13, fT), (14, fT), (15, fT), (16, Fact.agg (Con.few s xs ys)), (17, Fact.eq (.bool b)), (18, Fact.eq (.bool b)), (2, Fact.eq (.bool b))] [] 17 (by kernel_rfl) (by kernel_rfl) (by kernel_rfl) (Nat.le_of_ble_eq_true rfl) (by kernel_rfl) rfl rfl ?_ ?_
  · refine fcn (ob_addr 26 1 1 3 1 (Con.few s xs ys) (Con.dg xs) rfl rfl (.inl rfl) (by kernel_rfl) points_cell rfl (Con.few_1 s xs ys) field26_1) ?_
    refine fcn (ob_addr 24 0 3 4 0 (Con.dg xs) (Con.dg xs) rfl rfl (.inl rfl) (by kernel_rfl) points_ptr rfl (Con.Sub.refl _) field24_0) ?_
    refine fcn (ob_loadrowd 4 5 xs (Con.dg xs) dg_row rfl rfl (.inl rfl) (by kernel_rfl) points_ptr rfl) ?_
    refine fcn (ob_len 5 6 (xs).length 22 rfl (by kernel_rfl) rfl (.inl rfl) (by kernel_rfl) len_rowd rfl) ?_
    refine fcn (ob_lec 6 7 .i64 3 _ ((xs).length : Int) 12 true (decide_eq_true (by omega)) rfl rfl (.inl rfl) (by kernel_rfl) rfl rfl) ?_
    refine fcn (ob_copy 7 8 (.inl rfl) rfl (.inl rfl) (by kernel_rfl) rfl) ?_
    refine fcn (ob_addr 26 2 1 9 2 (Con.few s xs ys) (Con.dg ys) rfl rfl (.inr ⟨_, _, _, rfl, rfl, by kernel_rfl, by decide, rfl⟩) (by kernel_rfl) points_cell rfl (Con.few_2 s xs ys) field26_2) ?_
    refine fcn (ob_addr 24 0 9 10 0 (Con.dg ys) (Con.dg ys) rfl rfl (.inr ⟨_, _, _, rfl, rfl, by kernel_rfl, by decide, rfl⟩) (by kernel_rfl) points_ptr rfl (Con.Sub.refl _) field24_0) ?_
    refine fcn (ob_loadrowd 10 11 ys (Con.dg ys) dg_row rfl rfl (.inr ⟨_, _, _, rfl, rfl, by kernel_rfl, by decide, rfl⟩) (by kernel_rfl) points_ptr rfl) ?_
    refine fcn (ob_len 11 12 (ys).length 22 rfl (by kernel_rfl) rfl (.inr ⟨_, _, _, rfl, rfl, by kernel_rfl, by decide, rfl⟩) (by kernel_rfl) len_rowd rfl) ?_
    refine fcn (ob_lec 12 13 .i64 3 _ ((ys).length : Int) 12 true (decide_eq_true (by omega)) rfl rfl (.inr ⟨_, _, _, rfl, rfl, by kernel_rfl, by decide, rfl⟩) (by kernel_rfl) rfl rfl) ?_
    refine fcn (ob_pick 8 13 14 _ rfl rfl (.inl rfl) (by kernel_rfl) (by kernel_rfl) rfl rfl) ?_
    refine fcn (ob_copy 14 15 (.inl rfl) rfl (.inl rfl) (by kernel_rfl) rfl) ?_
    refine fcn (ob_read 26 1 16 (Con.few s xs ys) rfl rfl (.inr ⟨_, _, _, rfl, rfl, by kernel_rfl, by decide, rfl⟩) (by kernel_rfl) points_cell rfl row26 info26) ?_
    refine fcn (ob_call1 12 16 17 _ rfl rfl (.inr ⟨_, _, _, rfl, rfl, by kernel_rfl, by decide, rfl⟩) (by kernel_rfl) (by kernel_rfl) (z_valid_few s xs ys (by omega) (by omega) b hbd)) ?_
    refine fcn (ob_pick 15 17 18 _ rfl rfl (.inl rfl) (by kernel_rfl) (by kernel_rfl) rfl rfl) ?_
    refine fcn (ob_copy 18 2 (.inr rfl) rfl (.inl rfl) (by kernel_rfl) rfl) ?_
    exact fnl
  intro a2 w2 st2 hbr2 hfr
  have hs2 := hbr2.size
  have hb := up hb hbr2
  have st : St 19 [(2, Fact.eq (.bool b))] a2 w2 := st2.to (fcs ⟨st2.at_ 2, fnl⟩)
  clear st2 hbr2 hfr
  refine wpList_nil ?_
  refine then_normal ?_
  refine wp_ret ?_
  exact sym_ret1 rfl st.defers (resAt_tmp st 2) hb (fun _ h => h)
theorem w_fit (s : Bool) (xs ys : List Nat) (b : Bool) (hbd : fitB s xs ys = b) : ∀ v0 w, (Fact.agg (Con.pre s xs ys)).holds v0 w → Calls Tryz.prog 8 #[v0] w (Ret (Fact.eq (.bool b)) w) := by
  intro v0 w hv0
  subst hbd
  by_cases h1 : xs.length ≤ 12
  · by_cases h2 : ys.length ≤ 12
    · rw [show fitB s xs ys = vldB s xs ys from by simp [fitB, h1, h2]]
      exact w_fit2 s xs ys h1 h2 _ rfl v0 w (Fact.pre_few hv0 (by omega) (by omega))
    · rw [show fitB s xs ys = false from by simp [fitB, h2]]
      exact w_fit1 s xs ys h1 h2 v0 w hv0
  · rw [show fitB s xs ys = false from by simp [fitB, h1]]
    exact w_fit0 s xs ys h1 v0 w hv0
theorem natlen12 {n : Nat} (h : Nm.Sz 12 n) : decide (((Nm.nat n).length : Int) ≤ 12) = true := decide_eq_true (by have := Nm.nat_len h; omega)
set_option maxRecDepth 100000 in
theorem w_fit_yes (x : Rat) : ∀ v0 w, (Fact.agg (Con.fr 12 x)).holds v0 w → Calls Tryz.prog 8 #[v0] w (Ret (fT) w) := by
  intro v0 w hv0
  have hz := Fact.fr_sz hv0
  refine sym_calls 19 [(0, Fact.agg (Con.fr 12 x))] Tryz.func8 rfl rfl (Nat.le_of_ble_eq_true rfl) (fcs ⟨⟨Nat.le_of_ble_eq_true rfl, hv0⟩, fnl⟩) fun a st => ?_
  have hb := Below.refl w.heap.size w
  refine wp_seq ?_
  refine sym_region st [(1, Fact.var' (Con.fr 12 x)), (2, fF)] [1] 2 (by kernel_rfl) (by kernel_rfl) (by kernel_rfl) (Nat.le_of_ble_eq_true rfl) (by kernel_rfl) rfl rfl ?_ ?_
  · refine fcs ⟨obn_box 26 0 1 _ (Con.fr 12 x) rfl rfl rfl (by kernel_rfl) rfl rfl, ?_⟩
    refine fcn (ob_const (.bool false) 2 (.inr rfl) rfl (.inl rfl) rfl) ?_
    exact fnl
  intro a1 w1 st1 hbr1 hfr
  have hs1 := hbr1.size
  have hb := up hb hbr1
  obtain ⟨b1, c1⟩ := (show (Fact.var' (Con.fr 12 x)).holds _ _ from st1.at_ 1)
  have g1 := hfr.ge (s := 1) rfl c1.1
  have st : St 19 [(1, Fact.cell b1 (Con.fr 12 x)), (2, fF)] a1 w1 := st1.to (fcs ⟨c1, fcs ⟨st1.at_ 2, fnl⟩⟩)
  clear st1 hbr1 hfr c1
  refine wpList_nil ?_
  refine then_normal ?_
  refine wp_seq ?_
  have st := st.to (ks' := [(1, Fact.cell b1 (Con.fr 12 x))]) (fcs ⟨st.at_ 1, fnl⟩)
  refine sym_region st [(3, Fact.ptr (Con.nn 12 (Rt.tp x))), (4, Fact.ptr (Con.nn 12 (Rt.tp x))), (5, Fact.rown 12 (Rt.tp x)), (6, fI ((Nm.nat (Rt.tp x)).length : Int)), (7, fT), (8, fT), (9, Fact.ptr (Con.nn 12 (Rat.den x))), (10, Fact.ptr (Con.nn 12 (Rat.den x))), (11, Fact.rown 12 (Rat.den x)), (12, fI ((Nm.nat (Rat.den x)).length : Int)), (13, fT), (14, fT), (15, fT), (16, Fact.agg (Con.fr 12 x)), (17, fT), (18, fT), (2, fT)] [] 17 (by kernel_rfl) (by kernel_rfl) (by kernel_rfl) (Nat.le_of_ble_eq_true rfl) (by kernel_rfl) rfl rfl ?_ ?_
  · refine fcn (ob_addr 26 1 1 3 1 (Con.fr 12 x) (Con.nn 12 (Rt.tp x)) rfl rfl (.inl rfl) (by kernel_rfl) points_cell rfl (Con.fr_tp 12 x) field26_1) ?_
    refine fcn (ob_addr 24 0 3 4 0 (Con.nn 12 (Rt.tp x)) (Con.nn 12 (Rt.tp x)) rfl rfl (.inl rfl) (by kernel_rfl) points_ptr rfl (Con.Sub.refl _) field24_0) ?_
    refine fcn (ob_loadrow 4 5 12 (Rt.tp x) rfl rfl (.inl rfl) (by kernel_rfl) points_ptr rfl) ?_
    refine fcn (ob_len 5 6 (Nm.nat (Rt.tp x)).length 22 rfl (by kernel_rfl) rfl (.inl rfl) (by kernel_rfl) len_rown rfl) ?_
    refine fcn (ob_lec 6 7 .i64 3 _ ((Nm.nat (Rt.tp x)).length : Int) 12 true (natlen12 hz.1) rfl rfl (.inl rfl) (by kernel_rfl) rfl rfl) ?_
    refine fcn (ob_copy 7 8 (.inl rfl) rfl (.inl rfl) (by kernel_rfl) rfl) ?_
    refine fcn (ob_addr 26 2 1 9 2 (Con.fr 12 x) (Con.nn 12 (Rat.den x)) rfl rfl (.inr ⟨_, _, _, rfl, rfl, by kernel_rfl, by decide, rfl⟩) (by kernel_rfl) points_cell rfl (Con.fr_den 12 x) field26_2) ?_
    refine fcn (ob_addr 24 0 9 10 0 (Con.nn 12 (Rat.den x)) (Con.nn 12 (Rat.den x)) rfl rfl (.inr ⟨_, _, _, rfl, rfl, by kernel_rfl, by decide, rfl⟩) (by kernel_rfl) points_ptr rfl (Con.Sub.refl _) field24_0) ?_
    refine fcn (ob_loadrow 10 11 12 (Rat.den x) rfl rfl (.inr ⟨_, _, _, rfl, rfl, by kernel_rfl, by decide, rfl⟩) (by kernel_rfl) points_ptr rfl) ?_
    refine fcn (ob_len 11 12 (Nm.nat (Rat.den x)).length 22 rfl (by kernel_rfl) rfl (.inr ⟨_, _, _, rfl, rfl, by kernel_rfl, by decide, rfl⟩) (by kernel_rfl) len_rown rfl) ?_
    refine fcn (ob_lec 12 13 .i64 3 _ ((Nm.nat (Rat.den x)).length : Int) 12 true (natlen12 hz.2) rfl rfl (.inr ⟨_, _, _, rfl, rfl, by kernel_rfl, by decide, rfl⟩) (by kernel_rfl) rfl rfl) ?_
    refine fcn (ob_pick 8 13 14 _ rfl rfl (.inl rfl) (by kernel_rfl) (by kernel_rfl) rfl rfl) ?_
    refine fcn (ob_copy 14 15 (.inl rfl) rfl (.inl rfl) (by kernel_rfl) rfl) ?_
    refine fcn (ob_read 26 1 16 (Con.fr 12 x) rfl rfl (.inr ⟨_, _, _, rfl, rfl, by kernel_rfl, by decide, rfl⟩) (by kernel_rfl) points_cell rfl row26 info26) ?_
    refine fcn (ob_call1 12 16 17 _ rfl rfl (.inr ⟨_, _, _, rfl, rfl, by kernel_rfl, by decide, rfl⟩) (by kernel_rfl) (by kernel_rfl) (z_valid 12 x (by omega))) ?_
    refine fcn (ob_pick 15 17 18 _ rfl rfl (.inl rfl) (by kernel_rfl) (by kernel_rfl) rfl rfl) ?_
    refine fcn (ob_copy 18 2 (.inr rfl) rfl (.inl rfl) (by kernel_rfl) rfl) ?_
    exact fnl
  intro a2 w2 st2 hbr2 hfr
  have hs2 := hbr2.size
  have hb := up hb hbr2
  have st : St 19 [(2, fT)] a2 w2 := st2.to (fcs ⟨st2.at_ 2, fnl⟩)
  clear st2 hbr2 hfr
  refine wpList_nil ?_
  refine then_normal ?_
  refine wp_ret ?_
  exact sym_ret1 rfl st.defers (resAt_tmp st 2) hb (fun _ h => h)
end Go.Proofs.YtjfehdkfogdpgaaGreatDoor
namespace Go.Proofs.YtjfehdkfogdpgaaGreatDoor
open Go.RowKit
def Fact.dptr (z : Nat) : Fact := ⟨fun v w => ∃ g o, v = .pointer (some ⟨g, o, none⟩) ∧ g < w.heap.size ∧ w.cell? ⟨g, o, none⟩ = some (.int .u32 (z : Int)), fun _ _ _ ⟨g, o, h, hl, hc⟩ hb => ⟨g, o, h, Nat.lt_of_lt_of_le hl hb.size, ((seen hb).1 _ _ hl).trans hc⟩⟩
theorem load59 (w : World) (b o : Nat) (z : Int) (h : w.cell? ⟨b, o, none⟩ = some (.int .u32 z)) : (Instr.loadAt 59 (.pointer (some ⟨b, o, none⟩))).run Tryz.prog w = .ok (.int .u32 z) w := by go_simp
section
variable {ops : Array Oper} {Q : Exit → Act → World → Prop} {F : Nat → Fact} {base : List Nat} {N : Nat} {o : Oper}
theorem ob_digptr (t u d k p j : Nat) (ji : Int) (hji : ji = (j : Int)) (hj : j < (Nm.nat p).length) (ho : o.op = .indexAddr 22 (.tmp t) (.tmp u)) (hd : o.dst = some d) (hg : GuardOk ops F base N o) (hk : known ops base o t = true) (hk2 : known ops base o u = true) (hv : F t = Fact.rown k p) (hv2 : F u = fI ji) (hF : F d = Fact.dptr ((Nm.nat p)[j])) : Ob ops Q F base N o :=
  ob_val hg fun a w hf => by
    have h1 := hf t hk
    have h2 := hf u hk2
    rw [hv] at h1
    rw [hv2] at h2
    obtain ⟨A, c, h3, hn, _⟩ := h1
    obtain ⟨g, off, rfl, hrow⟩ := hn.rd.at_ hj
    have h3' : a.eval (.tmp t) = .slice (some ⟨g, off, none⟩) (Nm.nat p).length c := h3
    have h2' : a.eval (.tmp u) = .int .i64 ji := h2
    refine ⟨.pointer (some ⟨g, off + j, none⟩), w, by simp [execOp, ho, h3', h2', index32 w g off _ c j ji hji hj], Below.refl _ _, fun x hx => ?_⟩
    rw [hd] at hx; injection hx with hx; subst hx; rw [hF]
    exact ⟨g, off + j, rfl, World.block_lt_of_cell? w _ (hrow j hj), hrow j hj⟩
theorem ob_loaddig (t d z : Nat) (ho : o.op = .load 59 (.tmp t)) (hd : o.dst = some d) (hg : GuardOk ops F base N o) (hk : known ops base o t = true) (hv : F t = Fact.dptr z) (hF : F d = Fact.eq (.int .u32 (z : Int))) : Ob ops Q F base N o :=
  ob_val hg fun a w hf => by
    have h1 := hf t hk
    rw [hv] at h1
    obtain ⟨g, off, h2, _, hc⟩ := h1
    have h2' : a.eval (.tmp t) = .pointer (some ⟨g, off, none⟩) := h2
    exact ⟨.int .u32 (z : Int), w, by simp [execOp, ho, h2', load59 w g off _ hc], Below.refl _ _, fun x hx => by rw [hd] at hx; injection hx with hx; subst hx; rw [hF]; rfl⟩
theorem ob_conv3264 (t d : Nat) (z r : Int) (hr : IntKind.u64.wrap z = r) (ho : o.op = .convert 59 57 (.tmp t)) (hd : o.dst = some d) (hg : GuardOk ops F base N o) (hk : known ops base o t = true) (hv : F t = Fact.eq (.int .u32 z)) (hF : F d = Fact.eq (.int .u64 r)) : Ob ops Q F base N o :=
  ob_one t d _ _ hd hg hk hv hF fun a w h1 => by
    subst hr
    simp [execOp, ho, h1]
    go_simp
theorem ob_convi64 (t d : Nat) (z r : Int) (hr : IntKind.i64.wrap z = r) (ho : o.op = .convert 57 2 (.tmp t)) (hd : o.dst = some d) (hg : GuardOk ops F base N o) (hk : known ops base o t = true) (hv : F t = Fact.eq (.int .u64 z)) (hF : F d = fI r) : Ob ops Q F base N o :=
  ob_one t d _ _ hd hg hk hv hF fun a w h1 => by
    subst hr
    simp [execOp, ho, h1]
    go_simp
theorem ob_cmul (t d : Nat) (c z r : Int) (ty ty' : TypeId) (hr : IntKind.i64.wrap (c * z) = r) (ho : o.op = .binOp .mul ty (.const (.int .i64 c)) (.tmp t) ty') (hd : o.dst = some d) (hg : GuardOk ops F base N o) (hk : known ops base o t = true) (hv : F t = fI z) (hF : F d = fI r) : Ob ops Q F base N o :=
  ob_one t d _ _ hd hg hk hv hF fun a w h1 => by
    have h3 : a.eval (.const (.int .i64 c)) = .int .i64 c := rfl
    subst hr
    simp [execOp, ho, h1, h3]
    go_simp
theorem ob_shl (t s d : Nat) (z n r : Int) (ty ty' : TypeId) (h0 : 0 ≤ n) (h1 : n ≤ 64) (hr : IntKind.u64.wrap (z * 2 ^ n.toNat) = r) (ho : o.op = .binOp .shl ty (.tmp t) (.tmp s) ty') (hd : o.dst = some d) (hg : GuardOk ops F base N o) (hk : known ops base o t = true) (hk2 : known ops base o s = true) (hv : F t = Fact.eq (.int .u64 z)) (hv2 : F s = fI n) (hF : F d = Fact.eq (.int .u64 r)) : Ob ops Q F base N o :=
  ob_two t s d _ _ _ hd hg hk hk2 hv hv2 hF fun a w h3 h4 => by
    subst hr
    simp [execOp, ho, h3, h4, eqGuard_shl, binOp_shl]
theorem ob_or64 (t s d : Nat) (x y r : Nat) (ty ty' : TypeId) (hx : x < 18446744073709551616) (hy : y < 18446744073709551616) (hr : x ||| y = r) (ho : o.op = .binOp .or ty (.tmp t) (.tmp s) ty') (hd : o.dst = some d) (hg : GuardOk ops F base N o) (hk : known ops base o t = true) (hk2 : known ops base o s = true) (hv : F t = Fact.eq (.int .u64 (x : Int))) (hv2 : F s = Fact.eq (.int .u64 (y : Int))) (hF : F d = Fact.eq (.int .u64 (r : Int))) : Ob ops Q F base N o :=
  ob_two t s d _ _ _ hd hg hk hk2 hv hv2 hF fun a w h3 h4 => by
    subst hr
    simp [execOp, ho, h3, h4, eqGuard_or, binOp_or, intBits_or, bits_or_u64_nat x y hx hy]
end
theorem nat_len2 {p : Nat} (h : p < 18446744073709551616) : (Nm.nat p).length ≤ 2 := Nm.nat_len (by omega)
theorem or_step {zs : List Nat} (hd : Nm.Dig zs) (hl : zs.length ≤ 2) (j : Nat) (hj : j < zs.length) : Nm.val (zs.take j) ||| zs[j] * 2 ^ (32 * j) = Nm.val (zs.take (j + 1)) ∧ zs[j] * 2 ^ (32 * j) < 18446744073709551616 ∧ Nm.val (zs.take j) < 18446744073709551616 := by
  have hz := hd.at_ hj
  have hs := Nm.val_take_succ zs j hj
  have hv := Nm.val_lt (hd.take j)
  rw [List.length_take, Nat.min_eq_left (by omega)] at hv
  have hj2 : j = 0 ∨ j = 1 := by omega
  have hp : 4294967296 ^ j = 2 ^ (32 * j) := by rw [Nat.pow_mul]
  rw [hp] at hs hv
  refine ⟨?_, ?_, ?_⟩
  · rw [hs, Nat.mul_comm zs[j], Nat.or_comm, ← Nat.two_pow_add_eq_or_of_lt hv]
    omega
  · rcases hj2 with rfl | rfl
    · simp; omega
    · show zs[1] * 4294967296 < _; omega
  · rcases hj2 with rfl | rfl
    · simp at hv ⊢; omega
    · simp at hv; omega
end Go.Proofs.YtjfehdkfogdpgaaGreatDoor
namespace Go.Proofs.YtjfehdkfogdpgaaGreatDoor
open Go.RowKit
def fitsI (z : Int) : Bool := decide (-9223372036854775808 ≤ z ∧ z ≤ 9223372036854775807)
def asI (z : Int) : Int := if fitsI z then z else 0
theorem big_no {s : Bool} {p : Nat} (h : 18446744073709551616 ≤ p) : fitsI (Rt.sg s p) = false := by
  unfold fitsI Rt.sg
  cases s <;> simp <;> omega
theorem blen_64 (p : Nat) : decide ((Nm.blen p : Int) > 64) = decide (18446744073709551616 ≤ p) := by
  by_cases h : p < 18446744073709551616
  · have := Nm.blen_lt (k := 64) (x := p) h
    rw [decide_eq_false (by omega), decide_eq_false (by omega)]
  · have h0 : p ≠ 0 := by omega
    have h2 : Nm.blen p = Nat.log2 p + 1 := by unfold Nm.blen; rw [if_neg h0]
    have h3 : 64 ≤ Nat.log2 p := (Nat.le_log2 h0).2 (by omega)
    rw [decide_eq_true (by omega), decide_eq_true (by omega)]
set_option maxRecDepth 100000 in
theorem s_big (k : Nat) (s : Bool) (p : Nat) (h : 18446744073709551616 ≤ p) : ∀ v0 v1 w, (Fact.eq (.bool s)).holds v0 w → (Fact.agg (Con.nn k p)).holds v1 w → Calls Tryz.prog 62 #[v0, v1] w (Ret (Fact.two (fI 0) (fF)) w) := by
  intro v0 v1 w hv0 hv1
  refine sym_calls 46 [(0, Fact.eq (.bool s)), (1, Fact.agg (Con.nn k p))] Tryz.func62 rfl rfl (Nat.le_of_ble_eq_true rfl) (fcs ⟨⟨Nat.le_of_ble_eq_true rfl, hv0⟩, fcs ⟨⟨Nat.le_of_ble_eq_true rfl, hv1⟩, fnl⟩⟩) fun a st => ?_
  have hb := Below.refl w.heap.size w
  refine wp_seq ?_
  refine sym_region st [(3, Fact.var' (Con.nn k p)), (4, fI 0), (5, fF)] [3] 3 (by kernel_rfl) (by kernel_rfl) (by kernel_rfl) (Nat.le_of_ble_eq_true rfl) (by kernel_rfl) rfl rfl ?_ ?_
  · refine fcs ⟨obn_box 24 1 3 _ (Con.nn k p) rfl rfl rfl (by kernel_rfl) rfl rfl, ?_⟩
    refine fcn (ob_const (.int .i64 0) 4 (.inr rfl) rfl (.inl rfl) rfl) ?_
    refine fcn (ob_const (.bool false) 5 (.inr rfl) rfl (.inl rfl) rfl) ?_
    exact fnl
  intro a1 w1 st1 hbr1 hfr
  have hs1 := hbr1.size
  have hb := up hb hbr1
  obtain ⟨b3, c3⟩ := (show (Fact.var' (Con.nn k p)).holds _ _ from st1.at_ 3)
  have g3 := hfr.ge (s := 3) rfl c3.1
  have st : St 46 [(0, Fact.eq (.bool s)), (3, Fact.cell b3 (Con.nn k p)), (4, fI 0), (5, fF)] a1 w1 := st1.to (fcs ⟨st1.at_ 0, fcs ⟨c3, fcs ⟨st1.at_ 4, fcs ⟨st1.at_ 5, fnl⟩⟩⟩⟩)
  clear st1 hbr1 hfr c3
  refine wpList_nil ?_
  refine then_normal ?_
  refine wp_seq ?_
  refine wp_seq ?_
  refine sym_region st [(9, Fact.agg (Con.nn k p)), (10, fI (Nm.blen p : Int)), (11, fT)] [] 3 (by kernel_rfl) (by kernel_rfl) (by kernel_rfl) (Nat.le_of_ble_eq_true rfl) (by kernel_rfl) rfl rfl ?_ ?_
  · refine fcn (ob_read 24 3 9 (Con.nn k p) rfl rfl (.inl rfl) (by kernel_rfl) points_cell rfl row24 info24) ?_
    refine fcn (ob_call1 81 9 10 _ rfl rfl (.inl rfl) (by kernel_rfl) (by kernel_rfl) (n_bits k p _ rfl)) ?_
    refine fcn (ob_gtc 10 11 .i64 3 _ (Nm.blen p : Int) 64 true ((blen_64 p).trans (decide_eq_true h)) rfl rfl (.inl rfl) (by kernel_rfl) rfl rfl) ?_
    exact fnl
  intro a2 w2 st2 hbr2 hfr
  have hs2 := hbr2.size
  have hb := up hb hbr2
  have st : St 46 [(0, Fact.eq (.bool s)), (3, Fact.cell b3 (Con.nn k p)), (4, fI 0), (5, fF), (11, fT)] a2 w2 := st2.to (fcs ⟨st2.at_ 0, fcs ⟨st2.at_ 3, fcs ⟨st2.at_ 4, fcs ⟨st2.at_ 5, fcs ⟨st2.at_ 11, fnl⟩⟩⟩⟩⟩)
  clear st2 hbr2 hfr
  refine wpList_nil ?_
  refine then_normal ?_
  refine wp_cond_true (st.at_ 11) ?_
  refine wp_seq ?_
  have st := st.to (ks' := [(0, Fact.eq (.bool s)), (3, Fact.cell b3 (Con.nn k p)), (11, fT)]) (fcs ⟨st.at_ 0, fcs ⟨st.at_ 3, fcs ⟨st.at_ 11, fnl⟩⟩⟩)
  refine sym_region st [(4, fI 0), (5, fF)] [] 2 (by kernel_rfl) (by kernel_rfl) (by kernel_rfl) (Nat.le_of_ble_eq_true rfl) (by kernel_rfl) rfl rfl ?_ ?_
  · refine fcn (ob_const (.int .i64 0) 4 (.inr rfl) rfl (.inl rfl) rfl) ?_
    refine fcn (ob_const (.bool false) 5 (.inr rfl) rfl (.inl rfl) rfl) ?_
    exact fnl
  intro a3 w3 st3 hbr3 hfr
  have hs3 := hbr3.size
  have hb := up hb hbr3
  have st : St 46 [(0, Fact.eq (.bool s)), (3, Fact.cell b3 (Con.nn k p)), (4, fI 0), (5, fF)] a3 w3 := st3.to (fcs ⟨st3.at_ 0, fcs ⟨st3.at_ 3, fcs ⟨st3.at_ 4, fcs ⟨st3.at_ 5, fnl⟩⟩⟩⟩)
  clear st3 hbr3 hfr
  refine wpList_nil ?_
  refine then_normal ?_
  refine wp_ret ?_
  exact sym_ret2 rfl st.defers (resAt_tmp st 4) (resAt_tmp st 5) hb (fun v u h1 h2 => ⟨v, u, rfl, h1, h2⟩)
set_option maxRecDepth 100000 in
theorem s_neg (k p : Nat) (h : p ≤ 9223372036854775808) : ∀ v0 v1 w, (fT).holds v0 w → (Fact.agg (Con.nn k p)).holds v1 w → Calls Tryz.prog 62 #[v0, v1] w (Ret (Fact.two (fI (-(p : Int))) (fT)) w) := by
  intro v0 v1 w hv0 hv1
  have hp : p < 18446744073709551616 := by omega
  have hn : IntKind.u64.wrap (-((p : Nat) : Int)) = (18446744073709551616 - (p : Int)) % 18446744073709551616 := by rw [IntKind.wrap_u64]; omega
  have hc : IntKind.i64.wrap ((18446744073709551616 - (p : Int)) % 18446744073709551616) = -(p : Int) := by rw [IntKind.wrap_i64]; omega
  refine sym_calls 46 [(0, fT), (1, Fact.agg (Con.nn k p))] Tryz.func62 rfl rfl (Nat.le_of_ble_eq_true rfl) (fcs ⟨⟨Nat.le_of_ble_eq_true rfl, hv0⟩, fcs ⟨⟨Nat.le_of_ble_eq_true rfl, hv1⟩, fnl⟩⟩) fun a st => ?_
  have hb := Below.refl w.heap.size w
  refine wp_seq ?_
  refine sym_region st [(3, Fact.var' (Con.nn k p)), (4, fI 0), (5, fF)] [3] 3 (by kernel_rfl) (by kernel_rfl) (by kernel_rfl) (Nat.le_of_ble_eq_true rfl) (by kernel_rfl) rfl rfl ?_ ?_
  · refine fcs ⟨obn_box 24 1 3 _ (Con.nn k p) rfl rfl rfl (by kernel_rfl) rfl rfl, ?_⟩
    refine fcn (ob_const (.int .i64 0) 4 (.inr rfl) rfl (.inl rfl) rfl) ?_
    refine fcn (ob_const (.bool false) 5 (.inr rfl) rfl (.inl rfl) rfl) ?_
    exact fnl
  intro a1 w1 st1 hbr1 hfr
  have hs1 := hbr1.size
  have hb := up hb hbr1
  obtain ⟨b3, c3⟩ := (show (Fact.var' (Con.nn k p)).holds _ _ from st1.at_ 3)
  have g3 := hfr.ge (s := 3) rfl c3.1
  have st : St 46 [(0, fT), (3, Fact.cell b3 (Con.nn k p)), (4, fI 0), (5, fF)] a1 w1 := st1.to (fcs ⟨st1.at_ 0, fcs ⟨c3, fcs ⟨st1.at_ 4, fcs ⟨st1.at_ 5, fnl⟩⟩⟩⟩)
  clear st1 hbr1 hfr c3
  refine wpList_nil ?_
  refine then_normal ?_
  refine wp_seq ?_
  refine wp_seq ?_
  refine sym_region st [(9, Fact.agg (Con.nn k p)), (10, fI (Nm.blen p : Int)), (11, fF)] [] 3 (by kernel_rfl) (by kernel_rfl) (by kernel_rfl) (Nat.le_of_ble_eq_true rfl) (by kernel_rfl) rfl rfl ?_ ?_
  · refine fcn (ob_read 24 3 9 (Con.nn k p) rfl rfl (.inl rfl) (by kernel_rfl) points_cell rfl row24 info24) ?_
    refine fcn (ob_call1 81 9 10 _ rfl rfl (.inl rfl) (by kernel_rfl) (by kernel_rfl) (n_bits k p _ rfl)) ?_
    refine fcn (ob_gtc 10 11 .i64 3 _ (Nm.blen p : Int) 64 false ((blen_64 p).trans (decide_eq_false (by omega))) rfl rfl (.inl rfl) (by kernel_rfl) rfl rfl) ?_
    exact fnl
  intro a2 w2 st2 hbr2 hfr
  have hs2 := hbr2.size
  have hb := up hb hbr2
  have st : St 46 [(0, fT), (3, Fact.cell b3 (Con.nn k p)), (4, fI 0), (5, fF), (11, fF)] a2 w2 := st2.to (fcs ⟨st2.at_ 0, fcs ⟨st2.at_ 3, fcs ⟨st2.at_ 4, fcs ⟨st2.at_ 5, fcs ⟨st2.at_ 11, fnl⟩⟩⟩⟩⟩)
  clear st2 hbr2 hfr
  refine wpList_nil ?_
  refine then_normal ?_
  refine wp_cond_false (st.at_ 11) ?_
  refine wp_skip ?_
  refine then_normal ?_
  refine wp_seq ?_
  refine sym_region st [(6, Fact.eq (.int .u64 0))] [] 1 (by kernel_rfl) (by kernel_rfl) (by kernel_rfl) (Nat.le_of_ble_eq_true rfl) (by kernel_rfl) rfl rfl ?_ ?_
  · refine fcn (ob_const (.int .u64 0) 6 (.inr rfl) rfl (.inl rfl) rfl) ?_
    exact fnl
  intro a3 w3 st3 hbr3 hfr
  have hs3 := hbr3.size
  have hb := up hb hbr3
  have st : St 46 [(0, fT), (3, Fact.cell b3 (Con.nn k p)), (4, fI 0), (5, fF), (6, Fact.eq (.int .u64 0))] a3 w3 := st3.to (fcs ⟨st3.at_ 0, fcs ⟨st3.at_ 3, fcs ⟨st3.at_ 4, fcs ⟨st3.at_ 5, fcs ⟨st3.at_ 6, fnl⟩⟩⟩⟩⟩)
  clear st3 hbr3 hfr
  refine wpList_nil ?_
  refine then_normal ?_
  refine wp_seq ?_
  refine wp_seq ?_
  refine sym_region st [(12, Fact.ptr (Con.nn k p)), (13, Fact.rown k p), (14, fI ((Nm.nat p).length : Int)), (15, fI 0)] [] 4 (by kernel_rfl) (by kernel_rfl) (by kernel_rfl) (Nat.le_of_ble_eq_true rfl) (by kernel_rfl) rfl rfl ?_ ?_
  · refine fcn (ob_addr 24 0 3 12 0 (Con.nn k p) (Con.nn k p) rfl rfl (.inl rfl) (by kernel_rfl) points_cell rfl (Con.Sub.refl _) field24_0) ?_
    refine fcn (ob_loadrow 12 13 k p rfl rfl (.inl rfl) (by kernel_rfl) points_ptr rfl) ?_
    refine fcn (ob_len 13 14 (Nm.nat p).length 22 rfl (by kernel_rfl) rfl (.inl rfl) (by kernel_rfl) len_rown rfl) ?_
    refine fcn (ob_const (.int .i64 0) 15 (.inl rfl) rfl (.inl rfl) rfl) ?_
    exact fnl
  intro a4 w4 st4 hbr4 hfr
  have hs4 := hbr4.size
  have hb := up hb hbr4
  have st : St 46 [(0, fT), (4, fI 0), (5, fF), (6, Fact.eq (.int .u64 0)), (13, Fact.rown k p), (14, fI ((Nm.nat p).length : Int)), (15, fI 0)] a4 w4 := st4.to (fcs ⟨st4.at_ 0, fcs ⟨st4.at_ 4, fcs ⟨st4.at_ 5, fcs ⟨st4.at_ 6, fcs ⟨st4.at_ 13, fcs ⟨st4.at_ 14, fcs ⟨st4.at_ 15, fnl⟩⟩⟩⟩⟩⟩⟩)
  clear st4 hbr4 hfr
  refine wpList_nil ?_
  refine then_normal ?_
  refine wp_block ?_
  refine wp_loop_ghost (fun n a w0 => ∃ (j : Nat), (j ≤ (Nm.nat p).length) ∧ St 46 [(0, fT), (6, Fact.eq (.int .u64 ((Nm.val ((Nm.nat p).take j) : Nat) : Int))), (13, Fact.rown k p), (14, fI ((Nm.nat p).length : Int)), (15, fI (j : Int))] a w0 ∧ Below w.heap.size w w0 ∧ (Nm.nat p).length - j = n) ((Nm.nat p).length - 0) ⟨0, Nat.zero_le _, st.to (fcs ⟨st.at_ 0, fcs ⟨st.at_ 6, fcs ⟨st.at_ 13, fcs ⟨st.at_ 14, fcs ⟨st.at_ 15, fnl⟩⟩⟩⟩⟩), hb, rfl⟩ ?_
  clear st hb
  rintro n a w5 ⟨j, hjl, st, hb, rfl⟩
  have hs0 := hb.size
  refine wp_seq ?_
  refine sym_region st [(16, Fact.eq (.bool (decide ((j : Int) < ((Nm.nat p).length : Int)))))] [] 1 (by kernel_rfl) (by kernel_rfl) (by kernel_rfl) (Nat.le_of_ble_eq_true rfl) (by kernel_rfl) rfl rfl ?_ ?_
  · refine fcn (ob_lt2 15 14 16 .i64 _ _ (j : Int) ((Nm.nat p).length : Int) (decide ((j : Int) < ((Nm.nat p).length : Int))) rfl rfl rfl (.inl rfl) (by kernel_rfl) (by kernel_rfl) rfl rfl rfl) ?_
    exact fnl
  intro a6 w6 st6 hbr6 hfr
  have hs6 := hbr6.size
  have hb := up hb hbr6
  have st : St 46 [(0, fT), (6, Fact.eq (.int .u64 ((Nm.val ((Nm.nat p).take j) : Nat) : Int))), (13, Fact.rown k p), (14, fI ((Nm.nat p).length : Int)), (15, fI (j : Int)), (16, Fact.eq (.bool (decide ((j : Int) < ((Nm.nat p).length : Int)))))] a6 w6 := st6.to (fcs ⟨st6.at_ 0, fcs ⟨st6.at_ 6, fcs ⟨st6.at_ 13, fcs ⟨st6.at_ 14, fcs ⟨st6.at_ 15, fcs ⟨st6.at_ 16, fnl⟩⟩⟩⟩⟩⟩)
  clear st6 hbr6 hfr
  refine wpList_nil ?_
  refine then_normal ?_
  refine wp_seq ?_
  refine wp_cond_split (st.at_ 16) (fun hlt => ?_) (fun hlt => ?_)
  · skip
    have hj : j < (Nm.nat p).length := by have := of_decide_eq_true hlt; omega
    have hdg := Nm.dig_nat p
    have hl2 := nat_len2 hp
    have hor := or_step hdg hl2 j hj
    have hz := hdg.at_ hj
    have hcv : IntKind.u64.wrap (((Nm.nat p)[j] : Nat) : Int) = (((Nm.nat p)[j] : Nat) : Int) := wrap64 hz
    have hm32 : IntKind.i64.wrap (32 * (j : Int)) = ((32 * j : Nat) : Int) := by rw [show ((32 * j : Nat) : Int) = 32 * (j : Int) from by omega]; exact IntWalk.i64_in _ (by omega)
    have hsh : IntKind.u64.wrap ((((Nm.nat p)[j] : Nat) : Int) * 2 ^ (((32 * j : Nat) : Int)).toNat) = (((Nm.nat p)[j] * 2 ^ (32 * j) : Nat) : Int) := by
      rw [Int.toNat_natCast, show (((Nm.nat p)[j] : Nat) : Int) * 2 ^ (32 * j) = (((Nm.nat p)[j] * 2 ^ (32 * j) : Nat) : Int) from by push_cast; rfl, IntKind.wrap_u64]
      have := hor.2.1
      omega
    refine wp_skip ?_
    refine then_normal ?_
    refine wp_seq ?_
    refine wp_block ?_
    refine wp_seq ?_
    refine sym_region st [(17, fI (j : Int)), (18, Fact.dptr (Nm.nat p)[j]), (19, Fact.eq (.int .u32 (((Nm.nat p)[j] : Nat) : Int))), (7, fI (j : Int)), (8, Fact.eq (.int .u32 (((Nm.nat p)[j] : Nat) : Int)))] [] 5 (by kernel_rfl) (by kernel_rfl) (by kernel_rfl) (Nat.le_of_ble_eq_true rfl) (by kernel_rfl) rfl rfl ?_ ?_
    · refine fcn (ob_copy 15 17 (.inl rfl) rfl (.inl rfl) (by kernel_rfl) rfl) ?_
      refine fcn (ob_digptr 13 15 18 k p j _ rfl hj rfl rfl (.inl rfl) (by kernel_rfl) (by kernel_rfl) rfl rfl rfl) ?_
      refine fcn (ob_loaddig 18 19 (Nm.nat p)[j] rfl rfl (.inl rfl) (by kernel_rfl) rfl rfl) ?_
      refine fcn (ob_copy 17 7 (.inr rfl) rfl (.inl rfl) (by kernel_rfl) rfl) ?_
      refine fcn (ob_copy 19 8 (.inr rfl) rfl (.inl rfl) (by kernel_rfl) rfl) ?_
      exact fnl
    intro a7 w7 st7 hbr7 hfr
    have hs7 := hbr7.size
    have hb := up hb hbr7
    have st : St 46 [(0, fT), (6, Fact.eq (.int .u64 ((Nm.val ((Nm.nat p).take j) : Nat) : Int))), (13, Fact.rown k p), (14, fI ((Nm.nat p).length : Int)), (15, fI (j : Int)), (7, fI (j : Int)), (8, Fact.eq (.int .u32 (((Nm.nat p)[j] : Nat) : Int)))] a7 w7 := st7.to (fcs ⟨st7.at_ 0, fcs ⟨st7.at_ 6, fcs ⟨st7.at_ 13, fcs ⟨st7.at_ 14, fcs ⟨st7.at_ 15, fcs ⟨st7.at_ 7, fcs ⟨st7.at_ 8, fnl⟩⟩⟩⟩⟩⟩⟩)
    clear st7 hbr7 hfr
    refine wpList_nil ?_
    refine then_normal ?_
    refine wp_region_lit ?_
    refine sym_op st 20 (Fact.eq (.int .u64 ((Nm.val ((Nm.nat p).take j) : Nat) : Int))) rfl (Nat.le_of_ble_eq_true rfl) rfl rfl (by kernel_rfl) (ob_copy 6 20 (.inl rfl) rfl (.inl rfl) (by kernel_rfl) rfl) ?_
    clear st; intro a9 w9 hbr st; have hs9 := hbr.size; have hb := up hb hbr; clear hbr
    refine sym_op st 21 (Fact.eq (.int .u32 (((Nm.nat p)[j] : Nat) : Int))) rfl (Nat.le_of_ble_eq_true rfl) rfl rfl (by kernel_rfl) (ob_copy 8 21 (.inl rfl) rfl (.inl rfl) (by kernel_rfl) rfl) ?_
    clear st; intro a10 w10 hbr st; have hs10 := hbr.size; have hb := up hb hbr; clear hbr
    refine sym_op st 22 (Fact.eq (.int .u64 (((Nm.nat p)[j] : Nat) : Int))) rfl (Nat.le_of_ble_eq_true rfl) rfl rfl (by kernel_rfl) (ob_conv3264 21 22 (((Nm.nat p)[j] : Nat) : Int) (((Nm.nat p)[j] : Nat) : Int) hcv rfl rfl (.inl rfl) (by kernel_rfl) rfl rfl) ?_
    clear st; intro a11 w11 hbr st; have hs11 := hbr.size; have hb := up hb hbr; clear hbr
    refine sym_op st 23 (fI (j : Int)) rfl (Nat.le_of_ble_eq_true rfl) rfl rfl (by kernel_rfl) (ob_copy 7 23 (.inl rfl) rfl (.inl rfl) (by kernel_rfl) rfl) ?_
    clear st; intro a12 w12 hbr st; have hs12 := hbr.size; have hb := up hb hbr; clear hbr
    refine sym_op st 24 (fI ((32 * j : Nat) : Int)) rfl (Nat.le_of_ble_eq_true rfl) rfl rfl (by kernel_rfl) (ob_cmul 23 24 32 (j : Int) ((32 * j : Nat) : Int) _ _ hm32 rfl rfl (.inl rfl) (by kernel_rfl) rfl rfl) ?_
    clear st; intro a13 w13 hbr st; have hs13 := hbr.size; have hb := up hb hbr; clear hbr
    refine sym_op st 25 (Fact.eq (.int .u64 (((Nm.nat p)[j] * 2 ^ (32 * j) : Nat) : Int))) rfl (Nat.le_of_ble_eq_true rfl) rfl rfl (by kernel_rfl) (ob_shl 22 24 25 (((Nm.nat p)[j] : Nat) : Int) ((32 * j : Nat) : Int) (((Nm.nat p)[j] * 2 ^ (32 * j) : Nat) : Int) _ _ (by omega) (by omega) hsh rfl rfl (.inl rfl) (by kernel_rfl) (by kernel_rfl) rfl rfl rfl) ?_
    clear st; intro a14 w14 hbr st; have hs14 := hbr.size; have hb := up hb hbr; clear hbr
    refine sym_op st 26 (Fact.eq (.int .u64 ((Nm.val ((Nm.nat p).take (j + 1)) : Nat) : Int))) rfl (Nat.le_of_ble_eq_true rfl) rfl rfl (by kernel_rfl) (ob_or64 20 25 26 (Nm.val ((Nm.nat p).take j)) ((Nm.nat p)[j] * 2 ^ (32 * j)) (Nm.val ((Nm.nat p).take (j + 1))) _ _ hor.2.2 hor.2.1 hor.1 rfl rfl (.inl rfl) (by kernel_rfl) (by kernel_rfl) rfl rfl rfl) ?_
    clear st; intro a15 w15 hbr st; have hs15 := hbr.size; have hb := up hb hbr; clear hbr
    have st := st.to (ks' := [(0, fT), (13, Fact.rown k p), (14, fI ((Nm.nat p).length : Int)), (15, fI (j : Int)), (7, fI (j : Int)), (8, Fact.eq (.int .u32 (((Nm.nat p)[j] : Nat) : Int))), (20, Fact.eq (.int .u64 ((Nm.val ((Nm.nat p).take j) : Nat) : Int))), (21, Fact.eq (.int .u32 (((Nm.nat p)[j] : Nat) : Int))), (22, Fact.eq (.int .u64 (((Nm.nat p)[j] : Nat) : Int))), (23, fI (j : Int)), (24, fI ((32 * j : Nat) : Int)), (25, Fact.eq (.int .u64 (((Nm.nat p)[j] * 2 ^ (32 * j) : Nat) : Int))), (26, Fact.eq (.int .u64 ((Nm.val ((Nm.nat p).take (j + 1)) : Nat) : Int)))]) (fcs ⟨st.at_ 0, fcs ⟨st.at_ 13, fcs ⟨st.at_ 14, fcs ⟨st.at_ 15, fcs ⟨st.at_ 7, fcs ⟨st.at_ 8, fcs ⟨st.at_ 20, fcs ⟨st.at_ 21, fcs ⟨st.at_ 22, fcs ⟨st.at_ 23, fcs ⟨st.at_ 24, fcs ⟨st.at_ 25, fcs ⟨st.at_ 26, fnl⟩⟩⟩⟩⟩⟩⟩⟩⟩⟩⟩⟩⟩)
    refine sym_op st 6 (Fact.eq (.int .u64 ((Nm.val ((Nm.nat p).take (j + 1)) : Nat) : Int))) rfl (Nat.le_of_ble_eq_true rfl) rfl rfl (by kernel_rfl) (ob_copy 26 6 (.inr rfl) rfl (.inl rfl) (by kernel_rfl) rfl) ?_
    clear st; intro a16 w16 hbr st; have hs16 := hbr.size; have hb := up hb hbr; clear hbr
    refine wpList_nil ?_
    refine inBlock_normal ?_
    refine then_normal ?_
    refine wp_region_lit ?_
    refine sym_op st 27 (fI ((j + 1 : Nat) : Int)) rfl (Nat.le_of_ble_eq_true rfl) rfl rfl (by kernel_rfl) (ob_inc 15 27 _ _ j (by omega) rfl rfl (.inl rfl) (by kernel_rfl) rfl rfl) ?_
    clear st; intro a18 w18 hbr st; have hs18 := hbr.size; have hb := up hb hbr; clear hbr
    have st := st.to (ks' := [(0, fT), (13, Fact.rown k p), (14, fI ((Nm.nat p).length : Int)), (6, Fact.eq (.int .u64 ((Nm.val ((Nm.nat p).take (j + 1)) : Nat) : Int))), (27, fI ((j + 1 : Nat) : Int))]) (fcs ⟨st.at_ 0, fcs ⟨st.at_ 13, fcs ⟨st.at_ 14, fcs ⟨st.at_ 6, fcs ⟨st.at_ 27, fnl⟩⟩⟩⟩⟩)
    refine sym_op st 15 (fI ((j + 1 : Nat) : Int)) rfl (Nat.le_of_ble_eq_true rfl) rfl rfl (by kernel_rfl) (ob_copy 27 15 (.inl rfl) rfl (.inl rfl) (by kernel_rfl) rfl) ?_
    clear st; intro a19 w19 hbr st; have hs19 := hbr.size; have hb := up hb hbr; clear hbr
    refine wpList_nil ?_
    refine then_normal ⟨_, ?_, j + 1, hj, st.to (fcs ⟨st.at_ 0, fcs ⟨st.at_ 6, fcs ⟨st.at_ 13, fcs ⟨st.at_ 14, fcs ⟨st.at_ 15, fnl⟩⟩⟩⟩⟩), hb, rfl⟩
    · omega
  · skip
    have hj : j = (Nm.nat p).length := by have := of_decide_eq_false hlt; omega
    have hvl : Nm.val ((Nm.nat p).take j) = p := by rw [hj, List.take_length, Nm.val_nat]
    rw [hvl] at st
    refine wp_exit ?_
    refine then_exit ?_
    refine then_exit ?_
    refine inBlock_exit ?_
    refine then_normal ?_
    refine wp_seq ?_
    refine wp_block ?_
    refine wp_seq ?_
    refine sym_region st [(29, fT), (30, fT), (31, Fact.eq (.int .u64 ((p : Nat) : Int))), (32, fT), (33, fT), (28, fT)] [] 6 (by kernel_rfl) (by kernel_rfl) (by kernel_rfl) (Nat.le_of_ble_eq_true rfl) (by kernel_rfl) rfl rfl ?_ ?_
    · refine fcn (ob_copy 0 29 (.inl rfl) rfl (.inl rfl) (by kernel_rfl) rfl) ?_
      refine fcn (ob_copy 29 30 (.inl rfl) rfl (.inl rfl) (by kernel_rfl) rfl) ?_
      refine fcn (ob_copy 6 31 (.inl rfl) rfl (.inr ⟨_, _, _, rfl, rfl, by kernel_rfl, by decide, rfl⟩) (by kernel_rfl) rfl) ?_
      refine fcn (ob_lec 31 32 .u64 57 _ ((p : Nat) : Int) 9223372036854775808 true (decide_eq_true (by omega)) rfl rfl (.inr ⟨_, _, _, rfl, rfl, by kernel_rfl, by decide, rfl⟩) (by kernel_rfl) rfl rfl) ?_
      refine fcn (ob_pick 30 32 33 _ rfl rfl (.inl rfl) (by kernel_rfl) (by kernel_rfl) rfl rfl) ?_
      refine fcn (ob_copy 33 28 (.inr rfl) rfl (.inl rfl) (by kernel_rfl) rfl) ?_
      exact fnl
    intro a20 w20 st20 hbr20 hfr
    have hs20 := hbr20.size
    have hb := up hb hbr20
    have st : St 46 [(0, fT), (6, Fact.eq (.int .u64 ((p : Nat) : Int))), (28, fT)] a20 w20 := st20.to (fcs ⟨st20.at_ 0, fcs ⟨st20.at_ 6, fcs ⟨st20.at_ 28, fnl⟩⟩⟩)
    clear st20 hbr20 hfr
    refine wpList_nil ?_
    refine then_normal ?_
    refine wp_cond_true (st.at_ 28) ?_
    refine wp_seq ?_
    refine sym_region st [(34, Fact.eq (.int .u64 ((p : Nat) : Int))), (35, Fact.eq (.int .u64 ((18446744073709551616 - (p : Int)) % 18446744073709551616))), (36, fI (-(p : Int))), (4, fI (-(p : Int))), (5, fT)] [] 5 (by kernel_rfl) (by kernel_rfl) (by kernel_rfl) (Nat.le_of_ble_eq_true rfl) (by kernel_rfl) rfl rfl ?_ ?_
    · refine fcn (ob_copy 6 34 (.inl rfl) rfl (.inl rfl) (by kernel_rfl) rfl) ?_
      refine fcn (ob_neg64 34 35 ((p : Nat) : Int) ((18446744073709551616 - (p : Int)) % 18446744073709551616) hn rfl rfl (.inl rfl) (by kernel_rfl) rfl rfl) ?_
      refine fcn (ob_convi64 35 36 ((18446744073709551616 - (p : Int)) % 18446744073709551616) (-(p : Int)) hc rfl rfl (.inl rfl) (by kernel_rfl) rfl rfl) ?_
      refine fcn (ob_copy 36 4 (.inr rfl) rfl (.inl rfl) (by kernel_rfl) rfl) ?_
      refine fcn (ob_const (.bool true) 5 (.inr rfl) rfl (.inl rfl) rfl) ?_
      exact fnl
    intro a21 w21 st21 hbr21 hfr
    have hs21 := hbr21.size
    have hb := up hb hbr21
    have st : St 46 [(4, fI (-(p : Int))), (5, fT)] a21 w21 := st21.to (fcs ⟨st21.at_ 4, fcs ⟨st21.at_ 5, fnl⟩⟩)
    clear st21 hbr21 hfr
    refine wpList_nil ?_
    refine then_normal ?_
    refine wp_ret ?_
    exact sym_ret2 rfl st.defers (resAt_tmp st 4) (resAt_tmp st 5) hb (fun v u h1 h2 => ⟨v, u, rfl, h1, h2⟩)
set_option maxRecDepth 100000 in
theorem s_neg0 (k p : Nat) (h : 9223372036854775808 < p) (hp : p < 18446744073709551616) : ∀ v0 v1 w, (fT).holds v0 w → (Fact.agg (Con.nn k p)).holds v1 w → Calls Tryz.prog 62 #[v0, v1] w (Ret (Fact.two (fI 0) (fF)) w) := by
  intro v0 v1 w hv0 hv1
  refine sym_calls 46 [(0, fT), (1, Fact.agg (Con.nn k p))] Tryz.func62 rfl rfl (Nat.le_of_ble_eq_true rfl) (fcs ⟨⟨Nat.le_of_ble_eq_true rfl, hv0⟩, fcs ⟨⟨Nat.le_of_ble_eq_true rfl, hv1⟩, fnl⟩⟩) fun a st => ?_
  have hb := Below.refl w.heap.size w
  refine wp_seq ?_
  refine sym_region st [(3, Fact.var' (Con.nn k p)), (4, fI 0), (5, fF)] [3] 3 (by kernel_rfl) (by kernel_rfl) (by kernel_rfl) (Nat.le_of_ble_eq_true rfl) (by kernel_rfl) rfl rfl ?_ ?_
  · refine fcs ⟨obn_box 24 1 3 _ (Con.nn k p) rfl rfl rfl (by kernel_rfl) rfl rfl, ?_⟩
    refine fcn (ob_const (.int .i64 0) 4 (.inr rfl) rfl (.inl rfl) rfl) ?_
    refine fcn (ob_const (.bool false) 5 (.inr rfl) rfl (.inl rfl) rfl) ?_
    exact fnl
  intro a1 w1 st1 hbr1 hfr
  have hs1 := hbr1.size
  have hb := up hb hbr1
  obtain ⟨b3, c3⟩ := (show (Fact.var' (Con.nn k p)).holds _ _ from st1.at_ 3)
  have g3 := hfr.ge (s := 3) rfl c3.1
  have st : St 46 [(0, fT), (3, Fact.cell b3 (Con.nn k p)), (4, fI 0), (5, fF)] a1 w1 := st1.to (fcs ⟨st1.at_ 0, fcs ⟨c3, fcs ⟨st1.at_ 4, fcs ⟨st1.at_ 5, fnl⟩⟩⟩⟩)
  clear st1 hbr1 hfr c3
  refine wpList_nil ?_
  refine then_normal ?_
  refine wp_seq ?_
  refine wp_seq ?_
  refine sym_region st [(9, Fact.agg (Con.nn k p)), (10, fI (Nm.blen p : Int)), (11, fF)] [] 3 (by kernel_rfl) (by kernel_rfl) (by kernel_rfl) (Nat.le_of_ble_eq_true rfl) (by kernel_rfl) rfl rfl ?_ ?_
  · refine fcn (ob_read 24 3 9 (Con.nn k p) rfl rfl (.inl rfl) (by kernel_rfl) points_cell rfl row24 info24) ?_
    refine fcn (ob_call1 81 9 10 _ rfl rfl (.inl rfl) (by kernel_rfl) (by kernel_rfl) (n_bits k p _ rfl)) ?_
    refine fcn (ob_gtc 10 11 .i64 3 _ (Nm.blen p : Int) 64 false ((blen_64 p).trans (decide_eq_false (by omega))) rfl rfl (.inl rfl) (by kernel_rfl) rfl rfl) ?_
    exact fnl
  intro a2 w2 st2 hbr2 hfr
  have hs2 := hbr2.size
  have hb := up hb hbr2
  have st : St 46 [(0, fT), (3, Fact.cell b3 (Con.nn k p)), (4, fI 0), (5, fF), (11, fF)] a2 w2 := st2.to (fcs ⟨st2.at_ 0, fcs ⟨st2.at_ 3, fcs ⟨st2.at_ 4, fcs ⟨st2.at_ 5, fcs ⟨st2.at_ 11, fnl⟩⟩⟩⟩⟩)
  clear st2 hbr2 hfr
  refine wpList_nil ?_
  refine then_normal ?_
  refine wp_cond_false (st.at_ 11) ?_
  refine wp_skip ?_
  refine then_normal ?_
  refine wp_seq ?_
  refine sym_region st [(6, Fact.eq (.int .u64 0))] [] 1 (by kernel_rfl) (by kernel_rfl) (by kernel_rfl) (Nat.le_of_ble_eq_true rfl) (by kernel_rfl) rfl rfl ?_ ?_
  · refine fcn (ob_const (.int .u64 0) 6 (.inr rfl) rfl (.inl rfl) rfl) ?_
    exact fnl
  intro a3 w3 st3 hbr3 hfr
  have hs3 := hbr3.size
  have hb := up hb hbr3
  have st : St 46 [(0, fT), (3, Fact.cell b3 (Con.nn k p)), (4, fI 0), (5, fF), (6, Fact.eq (.int .u64 0))] a3 w3 := st3.to (fcs ⟨st3.at_ 0, fcs ⟨st3.at_ 3, fcs ⟨st3.at_ 4, fcs ⟨st3.at_ 5, fcs ⟨st3.at_ 6, fnl⟩⟩⟩⟩⟩)
  clear st3 hbr3 hfr
  refine wpList_nil ?_
  refine then_normal ?_
  refine wp_seq ?_
  refine wp_seq ?_
  refine sym_region st [(12, Fact.ptr (Con.nn k p)), (13, Fact.rown k p), (14, fI ((Nm.nat p).length : Int)), (15, fI 0)] [] 4 (by kernel_rfl) (by kernel_rfl) (by kernel_rfl) (Nat.le_of_ble_eq_true rfl) (by kernel_rfl) rfl rfl ?_ ?_
  · refine fcn (ob_addr 24 0 3 12 0 (Con.nn k p) (Con.nn k p) rfl rfl (.inl rfl) (by kernel_rfl) points_cell rfl (Con.Sub.refl _) field24_0) ?_
    refine fcn (ob_loadrow 12 13 k p rfl rfl (.inl rfl) (by kernel_rfl) points_ptr rfl) ?_
    refine fcn (ob_len 13 14 (Nm.nat p).length 22 rfl (by kernel_rfl) rfl (.inl rfl) (by kernel_rfl) len_rown rfl) ?_
    refine fcn (ob_const (.int .i64 0) 15 (.inl rfl) rfl (.inl rfl) rfl) ?_
    exact fnl
  intro a4 w4 st4 hbr4 hfr
  have hs4 := hbr4.size
  have hb := up hb hbr4
  have st : St 46 [(0, fT), (4, fI 0), (5, fF), (6, Fact.eq (.int .u64 0)), (13, Fact.rown k p), (14, fI ((Nm.nat p).length : Int)), (15, fI 0)] a4 w4 := st4.to (fcs ⟨st4.at_ 0, fcs ⟨st4.at_ 4, fcs ⟨st4.at_ 5, fcs ⟨st4.at_ 6, fcs ⟨st4.at_ 13, fcs ⟨st4.at_ 14, fcs ⟨st4.at_ 15, fnl⟩⟩⟩⟩⟩⟩⟩)
  clear st4 hbr4 hfr
  refine wpList_nil ?_
  refine then_normal ?_
  refine wp_block ?_
  refine wp_loop_ghost (fun n a w0 => ∃ (j : Nat), (j ≤ (Nm.nat p).length) ∧ St 46 [(0, fT), (6, Fact.eq (.int .u64 ((Nm.val ((Nm.nat p).take j) : Nat) : Int))), (13, Fact.rown k p), (14, fI ((Nm.nat p).length : Int)), (15, fI (j : Int))] a w0 ∧ Below w.heap.size w w0 ∧ (Nm.nat p).length - j = n) ((Nm.nat p).length - 0) ⟨0, Nat.zero_le _, st.to (fcs ⟨st.at_ 0, fcs ⟨st.at_ 6, fcs ⟨st.at_ 13, fcs ⟨st.at_ 14, fcs ⟨st.at_ 15, fnl⟩⟩⟩⟩⟩), hb, rfl⟩ ?_
  clear st hb
  rintro n a w5 ⟨j, hjl, st, hb, rfl⟩
  have hs0 := hb.size
  refine wp_seq ?_
  refine sym_region st [(16, Fact.eq (.bool (decide ((j : Int) < ((Nm.nat p).length : Int)))))] [] 1 (by kernel_rfl) (by kernel_rfl) (by kernel_rfl) (Nat.le_of_ble_eq_true rfl) (by kernel_rfl) rfl rfl ?_ ?_
  · refine fcn (ob_lt2 15 14 16 .i64 _ _ (j : Int) ((Nm.nat p).length : Int) (decide ((j : Int) < ((Nm.nat p).length : Int))) rfl rfl rfl (.inl rfl) (by kernel_rfl) (by kernel_rfl) rfl rfl rfl) ?_
    exact fnl
  intro a6 w6 st6 hbr6 hfr
  have hs6 := hbr6.size
  have hb := up hb hbr6
  have st : St 46 [(0, fT), (6, Fact.eq (.int .u64 ((Nm.val ((Nm.nat p).take j) : Nat) : Int))), (13, Fact.rown k p), (14, fI ((Nm.nat p).length : Int)), (15, fI (j : Int)), (16, Fact.eq (.bool (decide ((j : Int) < ((Nm.nat p).length : Int)))))] a6 w6 := st6.to (fcs ⟨st6.at_ 0, fcs ⟨st6.at_ 6, fcs ⟨st6.at_ 13, fcs ⟨st6.at_ 14, fcs ⟨st6.at_ 15, fcs ⟨st6.at_ 16, fnl⟩⟩⟩⟩⟩⟩)
  clear st6 hbr6 hfr
  refine wpList_nil ?_
  refine then_normal ?_
  refine wp_seq ?_
  refine wp_cond_split (st.at_ 16) (fun hlt => ?_) (fun hlt => ?_)
  · skip
    have hj : j < (Nm.nat p).length := by have := of_decide_eq_true hlt; omega
    have hdg := Nm.dig_nat p
    have hl2 := nat_len2 hp
    have hor := or_step hdg hl2 j hj
    have hz := hdg.at_ hj
    have hcv : IntKind.u64.wrap (((Nm.nat p)[j] : Nat) : Int) = (((Nm.nat p)[j] : Nat) : Int) := wrap64 hz
    have hm32 : IntKind.i64.wrap (32 * (j : Int)) = ((32 * j : Nat) : Int) := by rw [show ((32 * j : Nat) : Int) = 32 * (j : Int) from by omega]; exact IntWalk.i64_in _ (by omega)
    have hsh : IntKind.u64.wrap ((((Nm.nat p)[j] : Nat) : Int) * 2 ^ (((32 * j : Nat) : Int)).toNat) = (((Nm.nat p)[j] * 2 ^ (32 * j) : Nat) : Int) := by
      rw [Int.toNat_natCast, show (((Nm.nat p)[j] : Nat) : Int) * 2 ^ (32 * j) = (((Nm.nat p)[j] * 2 ^ (32 * j) : Nat) : Int) from by push_cast; rfl, IntKind.wrap_u64]
      have := hor.2.1
      omega
    refine wp_skip ?_
    refine then_normal ?_
    refine wp_seq ?_
    refine wp_block ?_
    refine wp_seq ?_
    refine sym_region st [(17, fI (j : Int)), (18, Fact.dptr (Nm.nat p)[j]), (19, Fact.eq (.int .u32 (((Nm.nat p)[j] : Nat) : Int))), (7, fI (j : Int)), (8, Fact.eq (.int .u32 (((Nm.nat p)[j] : Nat) : Int)))] [] 5 (by kernel_rfl) (by kernel_rfl) (by kernel_rfl) (Nat.le_of_ble_eq_true rfl) (by kernel_rfl) rfl rfl ?_ ?_
    · refine fcn (ob_copy 15 17 (.inl rfl) rfl (.inl rfl) (by kernel_rfl) rfl) ?_
      refine fcn (ob_digptr 13 15 18 k p j _ rfl hj rfl rfl (.inl rfl) (by kernel_rfl) (by kernel_rfl) rfl rfl rfl) ?_
      refine fcn (ob_loaddig 18 19 (Nm.nat p)[j] rfl rfl (.inl rfl) (by kernel_rfl) rfl rfl) ?_
      refine fcn (ob_copy 17 7 (.inr rfl) rfl (.inl rfl) (by kernel_rfl) rfl) ?_
      refine fcn (ob_copy 19 8 (.inr rfl) rfl (.inl rfl) (by kernel_rfl) rfl) ?_
      exact fnl
    intro a7 w7 st7 hbr7 hfr
    have hs7 := hbr7.size
    have hb := up hb hbr7
    have st : St 46 [(0, fT), (6, Fact.eq (.int .u64 ((Nm.val ((Nm.nat p).take j) : Nat) : Int))), (13, Fact.rown k p), (14, fI ((Nm.nat p).length : Int)), (15, fI (j : Int)), (7, fI (j : Int)), (8, Fact.eq (.int .u32 (((Nm.nat p)[j] : Nat) : Int)))] a7 w7 := st7.to (fcs ⟨st7.at_ 0, fcs ⟨st7.at_ 6, fcs ⟨st7.at_ 13, fcs ⟨st7.at_ 14, fcs ⟨st7.at_ 15, fcs ⟨st7.at_ 7, fcs ⟨st7.at_ 8, fnl⟩⟩⟩⟩⟩⟩⟩)
    clear st7 hbr7 hfr
    refine wpList_nil ?_
    refine then_normal ?_
    refine wp_region_lit ?_
    refine sym_op st 20 (Fact.eq (.int .u64 ((Nm.val ((Nm.nat p).take j) : Nat) : Int))) rfl (Nat.le_of_ble_eq_true rfl) rfl rfl (by kernel_rfl) (ob_copy 6 20 (.inl rfl) rfl (.inl rfl) (by kernel_rfl) rfl) ?_
    clear st; intro a9 w9 hbr st; have hs9 := hbr.size; have hb := up hb hbr; clear hbr
    refine sym_op st 21 (Fact.eq (.int .u32 (((Nm.nat p)[j] : Nat) : Int))) rfl (Nat.le_of_ble_eq_true rfl) rfl rfl (by kernel_rfl) (ob_copy 8 21 (.inl rfl) rfl (.inl rfl) (by kernel_rfl) rfl) ?_
    clear st; intro a10 w10 hbr st; have hs10 := hbr.size; have hb := up hb hbr; clear hbr
    refine sym_op st 22 (Fact.eq (.int .u64 (((Nm.nat p)[j] : Nat) : Int))) rfl (Nat.le_of_ble_eq_true rfl) rfl rfl (by kernel_rfl) (ob_conv3264 21 22 (((Nm.nat p)[j] : Nat) : Int) (((Nm.nat p)[j] : Nat) : Int) hcv rfl rfl (.inl rfl) (by kernel_rfl) rfl rfl) ?_
    clear st; intro a11 w11 hbr st; have hs11 := hbr.size; have hb := up hb hbr; clear hbr
    refine sym_op st 23 (fI (j : Int)) rfl (Nat.le_of_ble_eq_true rfl) rfl rfl (by kernel_rfl) (ob_copy 7 23 (.inl rfl) rfl (.inl rfl) (by kernel_rfl) rfl) ?_
    clear st; intro a12 w12 hbr st; have hs12 := hbr.size; have hb := up hb hbr; clear hbr
    refine sym_op st 24 (fI ((32 * j : Nat) : Int)) rfl (Nat.le_of_ble_eq_true rfl) rfl rfl (by kernel_rfl) (ob_cmul 23 24 32 (j : Int) ((32 * j : Nat) : Int) _ _ hm32 rfl rfl (.inl rfl) (by kernel_rfl) rfl rfl) ?_
    clear st; intro a13 w13 hbr st; have hs13 := hbr.size; have hb := up hb hbr; clear hbr
    refine sym_op st 25 (Fact.eq (.int .u64 (((Nm.nat p)[j] * 2 ^ (32 * j) : Nat) : Int))) rfl (Nat.le_of_ble_eq_true rfl) rfl rfl (by kernel_rfl) (ob_shl 22 24 25 (((Nm.nat p)[j] : Nat) : Int) ((32 * j : Nat) : Int) (((Nm.nat p)[j] * 2 ^ (32 * j) : Nat) : Int) _ _ (by omega) (by omega) hsh rfl rfl (.inl rfl) (by kernel_rfl) (by kernel_rfl) rfl rfl rfl) ?_
    clear st; intro a14 w14 hbr st; have hs14 := hbr.size; have hb := up hb hbr; clear hbr
    refine sym_op st 26 (Fact.eq (.int .u64 ((Nm.val ((Nm.nat p).take (j + 1)) : Nat) : Int))) rfl (Nat.le_of_ble_eq_true rfl) rfl rfl (by kernel_rfl) (ob_or64 20 25 26 (Nm.val ((Nm.nat p).take j)) ((Nm.nat p)[j] * 2 ^ (32 * j)) (Nm.val ((Nm.nat p).take (j + 1))) _ _ hor.2.2 hor.2.1 hor.1 rfl rfl (.inl rfl) (by kernel_rfl) (by kernel_rfl) rfl rfl rfl) ?_
    clear st; intro a15 w15 hbr st; have hs15 := hbr.size; have hb := up hb hbr; clear hbr
    have st := st.to (ks' := [(0, fT), (13, Fact.rown k p), (14, fI ((Nm.nat p).length : Int)), (15, fI (j : Int)), (7, fI (j : Int)), (8, Fact.eq (.int .u32 (((Nm.nat p)[j] : Nat) : Int))), (20, Fact.eq (.int .u64 ((Nm.val ((Nm.nat p).take j) : Nat) : Int))), (21, Fact.eq (.int .u32 (((Nm.nat p)[j] : Nat) : Int))), (22, Fact.eq (.int .u64 (((Nm.nat p)[j] : Nat) : Int))), (23, fI (j : Int)), (24, fI ((32 * j : Nat) : Int)), (25, Fact.eq (.int .u64 (((Nm.nat p)[j] * 2 ^ (32 * j) : Nat) : Int))), (26, Fact.eq (.int .u64 ((Nm.val ((Nm.nat p).take (j + 1)) : Nat) : Int)))]) (fcs ⟨st.at_ 0, fcs ⟨st.at_ 13, fcs ⟨st.at_ 14, fcs ⟨st.at_ 15, fcs ⟨st.at_ 7, fcs ⟨st.at_ 8, fcs ⟨st.at_ 20, fcs ⟨st.at_ 21, fcs ⟨st.at_ 22, fcs ⟨st.at_ 23, fcs ⟨st.at_ 24, fcs ⟨st.at_ 25, fcs ⟨st.at_ 26, fnl⟩⟩⟩⟩⟩⟩⟩⟩⟩⟩⟩⟩⟩)
    refine sym_op st 6 (Fact.eq (.int .u64 ((Nm.val ((Nm.nat p).take (j + 1)) : Nat) : Int))) rfl (Nat.le_of_ble_eq_true rfl) rfl rfl (by kernel_rfl) (ob_copy 26 6 (.inr rfl) rfl (.inl rfl) (by kernel_rfl) rfl) ?_
    clear st; intro a16 w16 hbr st; have hs16 := hbr.size; have hb := up hb hbr; clear hbr
    refine wpList_nil ?_
    refine inBlock_normal ?_
    refine then_normal ?_
    refine wp_region_lit ?_
    refine sym_op st 27 (fI ((j + 1 : Nat) : Int)) rfl (Nat.le_of_ble_eq_true rfl) rfl rfl (by kernel_rfl) (ob_inc 15 27 _ _ j (by omega) rfl rfl (.inl rfl) (by kernel_rfl) rfl rfl) ?_
    clear st; intro a18 w18 hbr st; have hs18 := hbr.size; have hb := up hb hbr; clear hbr
    have st := st.to (ks' := [(0, fT), (13, Fact.rown k p), (14, fI ((Nm.nat p).length : Int)), (6, Fact.eq (.int .u64 ((Nm.val ((Nm.nat p).take (j + 1)) : Nat) : Int))), (27, fI ((j + 1 : Nat) : Int))]) (fcs ⟨st.at_ 0, fcs ⟨st.at_ 13, fcs ⟨st.at_ 14, fcs ⟨st.at_ 6, fcs ⟨st.at_ 27, fnl⟩⟩⟩⟩⟩)
    refine sym_op st 15 (fI ((j + 1 : Nat) : Int)) rfl (Nat.le_of_ble_eq_true rfl) rfl rfl (by kernel_rfl) (ob_copy 27 15 (.inl rfl) rfl (.inl rfl) (by kernel_rfl) rfl) ?_
    clear st; intro a19 w19 hbr st; have hs19 := hbr.size; have hb := up hb hbr; clear hbr
    refine wpList_nil ?_
    refine then_normal ⟨_, ?_, j + 1, hj, st.to (fcs ⟨st.at_ 0, fcs ⟨st.at_ 6, fcs ⟨st.at_ 13, fcs ⟨st.at_ 14, fcs ⟨st.at_ 15, fnl⟩⟩⟩⟩⟩), hb, rfl⟩
    · omega
  · skip
    have hj : j = (Nm.nat p).length := by have := of_decide_eq_false hlt; omega
    have hvl : Nm.val ((Nm.nat p).take j) = p := by rw [hj, List.take_length, Nm.val_nat]
    rw [hvl] at st
    refine wp_exit ?_
    refine then_exit ?_
    refine then_exit ?_
    refine inBlock_exit ?_
    refine then_normal ?_
    refine wp_seq ?_
    refine wp_block ?_
    refine wp_seq ?_
    refine sym_region st [(29, fT), (30, fT), (31, Fact.eq (.int .u64 ((p : Nat) : Int))), (32, fF), (33, fF), (28, fF)] [] 6 (by kernel_rfl) (by kernel_rfl) (by kernel_rfl) (Nat.le_of_ble_eq_true rfl) (by kernel_rfl) rfl rfl ?_ ?_
    · refine fcn (ob_copy 0 29 (.inl rfl) rfl (.inl rfl) (by kernel_rfl) rfl) ?_
      refine fcn (ob_copy 29 30 (.inl rfl) rfl (.inl rfl) (by kernel_rfl) rfl) ?_
      refine fcn (ob_copy 6 31 (.inl rfl) rfl (.inr ⟨_, _, _, rfl, rfl, by kernel_rfl, by decide, rfl⟩) (by kernel_rfl) rfl) ?_
      refine fcn (ob_lec 31 32 .u64 57 _ ((p : Nat) : Int) 9223372036854775808 false (decide_eq_false (by omega)) rfl rfl (.inr ⟨_, _, _, rfl, rfl, by kernel_rfl, by decide, rfl⟩) (by kernel_rfl) rfl rfl) ?_
      refine fcn (ob_pick 30 32 33 _ rfl rfl (.inl rfl) (by kernel_rfl) (by kernel_rfl) rfl rfl) ?_
      refine fcn (ob_copy 33 28 (.inr rfl) rfl (.inl rfl) (by kernel_rfl) rfl) ?_
      exact fnl
    intro a20 w20 st20 hbr20 hfr
    have hs20 := hbr20.size
    have hb := up hb hbr20
    have st : St 46 [(0, fT), (6, Fact.eq (.int .u64 ((p : Nat) : Int))), (28, fF)] a20 w20 := st20.to (fcs ⟨st20.at_ 0, fcs ⟨st20.at_ 6, fcs ⟨st20.at_ 28, fnl⟩⟩⟩)
    clear st20 hbr20 hfr
    refine wpList_nil ?_
    refine then_normal ?_
    refine wp_cond_false (st.at_ 28) ?_
    refine wp_seq ?_
    refine sym_region st [(38, fT), (39, fF), (40, fF), (41, Fact.eq undef), (42, Fact.eq undef), (43, fF), (37, fF)] [] 7 (by kernel_rfl) (by kernel_rfl) (by kernel_rfl) (Nat.le_of_ble_eq_true rfl) (by kernel_rfl) rfl rfl ?_ ?_
    · refine fcn (ob_copy 0 38 (.inl rfl) rfl (.inl rfl) (by kernel_rfl) rfl) ?_
      refine fcn (ob_not 38 39 true false rfl rfl rfl (.inl rfl) (by kernel_rfl) rfl rfl) ?_
      refine fcn (ob_copy 39 40 (.inl rfl) rfl (.inl rfl) (by kernel_rfl) rfl) ?_
      refine fcn (ob_skip 2 40 41 true rfl rfl (by kernel_rfl) (by decide) rfl rfl rfl) ?_
      refine fcn (ob_skip 2 40 42 true rfl rfl (by kernel_rfl) (by decide) rfl rfl rfl) ?_
      refine fcn (ob_pick_no 40 42 43 (.bool false) rfl rfl (.inl rfl) (by kernel_rfl) rfl rfl) ?_
      refine fcn (ob_copy 43 37 (.inr rfl) rfl (.inl rfl) (by kernel_rfl) rfl) ?_
      exact fnl
    intro a21 w21 st21 hbr21 hfr
    have hs21 := hbr21.size
    have hb := up hb hbr21
    have st : St 46 [(6, Fact.eq (.int .u64 ((p : Nat) : Int))), (37, fF)] a21 w21 := st21.to (fcs ⟨st21.at_ 6, fcs ⟨st21.at_ 37, fnl⟩⟩)
    clear st21 hbr21 hfr
    refine wpList_nil ?_
    refine then_normal ?_
    refine wp_cond_false (st.at_ 37) ?_
    refine wp_skip ?_
    refine inBlock_normal ?_
    refine then_normal ?_
    refine wp_seq ?_
    refine sym_region st [(4, fI 0), (5, fF)] [] 2 (by kernel_rfl) (by kernel_rfl) (by kernel_rfl) (Nat.le_of_ble_eq_true rfl) (by kernel_rfl) rfl rfl ?_ ?_
    · refine fcn (ob_const (.int .i64 0) 4 (.inr rfl) rfl (.inl rfl) rfl) ?_
      refine fcn (ob_const (.bool false) 5 (.inr rfl) rfl (.inl rfl) rfl) ?_
      exact fnl
    intro a22 w22 st22 hbr22 hfr
    have hs22 := hbr22.size
    have hb := up hb hbr22
    have st : St 46 [(4, fI 0), (5, fF)] a22 w22 := st22.to (fcs ⟨st22.at_ 4, fcs ⟨st22.at_ 5, fnl⟩⟩)
    clear st22 hbr22 hfr
    refine wpList_nil ?_
    refine then_normal ?_
    refine wp_ret ?_
    exact sym_ret2 rfl st.defers (resAt_tmp st 4) (resAt_tmp st 5) hb (fun v u h1 h2 => ⟨v, u, rfl, h1, h2⟩)
set_option maxRecDepth 100000 in
theorem s_pos (k p : Nat) (h : p < 9223372036854775808) : ∀ v0 v1 w, (fF).holds v0 w → (Fact.agg (Con.nn k p)).holds v1 w → Calls Tryz.prog 62 #[v0, v1] w (Ret (Fact.two (fI (p : Int)) (fT)) w) := by
  intro v0 v1 w hv0 hv1
  have hp : p < 18446744073709551616 := by omega
  have hc : IntKind.i64.wrap ((p : Nat) : Int) = (p : Int) := by rw [IntKind.wrap_i64]; omega
  refine sym_calls 46 [(0, fF), (1, Fact.agg (Con.nn k p))] Tryz.func62 rfl rfl (Nat.le_of_ble_eq_true rfl) (fcs ⟨⟨Nat.le_of_ble_eq_true rfl, hv0⟩, fcs ⟨⟨Nat.le_of_ble_eq_true rfl, hv1⟩, fnl⟩⟩) fun a st => ?_
  have hb := Below.refl w.heap.size w
  refine wp_seq ?_
  refine sym_region st [(3, Fact.var' (Con.nn k p)), (4, fI 0), (5, fF)] [3] 3 (by kernel_rfl) (by kernel_rfl) (by kernel_rfl) (Nat.le_of_ble_eq_true rfl) (by kernel_rfl) rfl rfl ?_ ?_
  · refine fcs ⟨obn_box 24 1 3 _ (Con.nn k p) rfl rfl rfl (by kernel_rfl) rfl rfl, ?_⟩
    refine fcn (ob_const (.int .i64 0) 4 (.inr rfl) rfl (.inl rfl) rfl) ?_
    refine fcn (ob_const (.bool false) 5 (.inr rfl) rfl (.inl rfl) rfl) ?_
    exact fnl
  intro a1 w1 st1 hbr1 hfr
  have hs1 := hbr1.size
  have hb := up hb hbr1
  obtain ⟨b3, c3⟩ := (show (Fact.var' (Con.nn k p)).holds _ _ from st1.at_ 3)
  have g3 := hfr.ge (s := 3) rfl c3.1
  have st : St 46 [(0, fF), (3, Fact.cell b3 (Con.nn k p)), (4, fI 0), (5, fF)] a1 w1 := st1.to (fcs ⟨st1.at_ 0, fcs ⟨c3, fcs ⟨st1.at_ 4, fcs ⟨st1.at_ 5, fnl⟩⟩⟩⟩)
  clear st1 hbr1 hfr c3
  refine wpList_nil ?_
  refine then_normal ?_
  refine wp_seq ?_
  refine wp_seq ?_
  refine sym_region st [(9, Fact.agg (Con.nn k p)), (10, fI (Nm.blen p : Int)), (11, fF)] [] 3 (by kernel_rfl) (by kernel_rfl) (by kernel_rfl) (Nat.le_of_ble_eq_true rfl) (by kernel_rfl) rfl rfl ?_ ?_
  · refine fcn (ob_read 24 3 9 (Con.nn k p) rfl rfl (.inl rfl) (by kernel_rfl) points_cell rfl row24 info24) ?_
    refine fcn (ob_call1 81 9 10 _ rfl rfl (.inl rfl) (by kernel_rfl) (by kernel_rfl) (n_bits k p _ rfl)) ?_
    refine fcn (ob_gtc 10 11 .i64 3 _ (Nm.blen p : Int) 64 false ((blen_64 p).trans (decide_eq_false (by omega))) rfl rfl (.inl rfl) (by kernel_rfl) rfl rfl) ?_
    exact fnl
  intro a2 w2 st2 hbr2 hfr
  have hs2 := hbr2.size
  have hb := up hb hbr2
  have st : St 46 [(0, fF), (3, Fact.cell b3 (Con.nn k p)), (4, fI 0), (5, fF), (11, fF)] a2 w2 := st2.to (fcs ⟨st2.at_ 0, fcs ⟨st2.at_ 3, fcs ⟨st2.at_ 4, fcs ⟨st2.at_ 5, fcs ⟨st2.at_ 11, fnl⟩⟩⟩⟩⟩)
  clear st2 hbr2 hfr
  refine wpList_nil ?_
  refine then_normal ?_
  refine wp_cond_false (st.at_ 11) ?_
  refine wp_skip ?_
  refine then_normal ?_
  refine wp_seq ?_
  refine sym_region st [(6, Fact.eq (.int .u64 0))] [] 1 (by kernel_rfl) (by kernel_rfl) (by kernel_rfl) (Nat.le_of_ble_eq_true rfl) (by kernel_rfl) rfl rfl ?_ ?_
  · refine fcn (ob_const (.int .u64 0) 6 (.inr rfl) rfl (.inl rfl) rfl) ?_
    exact fnl
  intro a3 w3 st3 hbr3 hfr
  have hs3 := hbr3.size
  have hb := up hb hbr3
  have st : St 46 [(0, fF), (3, Fact.cell b3 (Con.nn k p)), (4, fI 0), (5, fF), (6, Fact.eq (.int .u64 0))] a3 w3 := st3.to (fcs ⟨st3.at_ 0, fcs ⟨st3.at_ 3, fcs ⟨st3.at_ 4, fcs ⟨st3.at_ 5, fcs ⟨st3.at_ 6, fnl⟩⟩⟩⟩⟩)
  clear st3 hbr3 hfr
  refine wpList_nil ?_
  refine then_normal ?_
  refine wp_seq ?_
  refine wp_seq ?_
  refine sym_region st [(12, Fact.ptr (Con.nn k p)), (13, Fact.rown k p), (14, fI ((Nm.nat p).length : Int)), (15, fI 0)] [] 4 (by kernel_rfl) (by kernel_rfl) (by kernel_rfl) (Nat.le_of_ble_eq_true rfl) (by kernel_rfl) rfl rfl ?_ ?_
  · refine fcn (ob_addr 24 0 3 12 0 (Con.nn k p) (Con.nn k p) rfl rfl (.inl rfl) (by kernel_rfl) points_cell rfl (Con.Sub.refl _) field24_0) ?_
    refine fcn (ob_loadrow 12 13 k p rfl rfl (.inl rfl) (by kernel_rfl) points_ptr rfl) ?_
    refine fcn (ob_len 13 14 (Nm.nat p).length 22 rfl (by kernel_rfl) rfl (.inl rfl) (by kernel_rfl) len_rown rfl) ?_
    refine fcn (ob_const (.int .i64 0) 15 (.inl rfl) rfl (.inl rfl) rfl) ?_
    exact fnl
  intro a4 w4 st4 hbr4 hfr
  have hs4 := hbr4.size
  have hb := up hb hbr4
  have st : St 46 [(0, fF), (4, fI 0), (5, fF), (6, Fact.eq (.int .u64 0)), (13, Fact.rown k p), (14, fI ((Nm.nat p).length : Int)), (15, fI 0)] a4 w4 := st4.to (fcs ⟨st4.at_ 0, fcs ⟨st4.at_ 4, fcs ⟨st4.at_ 5, fcs ⟨st4.at_ 6, fcs ⟨st4.at_ 13, fcs ⟨st4.at_ 14, fcs ⟨st4.at_ 15, fnl⟩⟩⟩⟩⟩⟩⟩)
  clear st4 hbr4 hfr
  refine wpList_nil ?_
  refine then_normal ?_
  refine wp_block ?_
  refine wp_loop_ghost (fun n a w0 => ∃ (j : Nat), (j ≤ (Nm.nat p).length) ∧ St 46 [(0, fF), (6, Fact.eq (.int .u64 ((Nm.val ((Nm.nat p).take j) : Nat) : Int))), (13, Fact.rown k p), (14, fI ((Nm.nat p).length : Int)), (15, fI (j : Int))] a w0 ∧ Below w.heap.size w w0 ∧ (Nm.nat p).length - j = n) ((Nm.nat p).length - 0) ⟨0, Nat.zero_le _, st.to (fcs ⟨st.at_ 0, fcs ⟨st.at_ 6, fcs ⟨st.at_ 13, fcs ⟨st.at_ 14, fcs ⟨st.at_ 15, fnl⟩⟩⟩⟩⟩), hb, rfl⟩ ?_
  clear st hb
  rintro n a w5 ⟨j, hjl, st, hb, rfl⟩
  have hs0 := hb.size
  refine wp_seq ?_
  refine sym_region st [(16, Fact.eq (.bool (decide ((j : Int) < ((Nm.nat p).length : Int)))))] [] 1 (by kernel_rfl) (by kernel_rfl) (by kernel_rfl) (Nat.le_of_ble_eq_true rfl) (by kernel_rfl) rfl rfl ?_ ?_
  · refine fcn (ob_lt2 15 14 16 .i64 _ _ (j : Int) ((Nm.nat p).length : Int) (decide ((j : Int) < ((Nm.nat p).length : Int))) rfl rfl rfl (.inl rfl) (by kernel_rfl) (by kernel_rfl) rfl rfl rfl) ?_
    exact fnl
  intro a6 w6 st6 hbr6 hfr
  have hs6 := hbr6.size
  have hb := up hb hbr6
  have st : St 46 [(0, fF), (6, Fact.eq (.int .u64 ((Nm.val ((Nm.nat p).take j) : Nat) : Int))), (13, Fact.rown k p), (14, fI ((Nm.nat p).length : Int)), (15, fI (j : Int)), (16, Fact.eq (.bool (decide ((j : Int) < ((Nm.nat p).length : Int)))))] a6 w6 := st6.to (fcs ⟨st6.at_ 0, fcs ⟨st6.at_ 6, fcs ⟨st6.at_ 13, fcs ⟨st6.at_ 14, fcs ⟨st6.at_ 15, fcs ⟨st6.at_ 16, fnl⟩⟩⟩⟩⟩⟩)
  clear st6 hbr6 hfr
  refine wpList_nil ?_
  refine then_normal ?_
  refine wp_seq ?_
  refine wp_cond_split (st.at_ 16) (fun hlt => ?_) (fun hlt => ?_)
  · skip
    have hj : j < (Nm.nat p).length := by have := of_decide_eq_true hlt; omega
    have hdg := Nm.dig_nat p
    have hl2 := nat_len2 hp
    have hor := or_step hdg hl2 j hj
    have hz := hdg.at_ hj
    have hcv : IntKind.u64.wrap (((Nm.nat p)[j] : Nat) : Int) = (((Nm.nat p)[j] : Nat) : Int) := wrap64 hz
    have hm32 : IntKind.i64.wrap (32 * (j : Int)) = ((32 * j : Nat) : Int) := by rw [show ((32 * j : Nat) : Int) = 32 * (j : Int) from by omega]; exact IntWalk.i64_in _ (by omega)
    have hsh : IntKind.u64.wrap ((((Nm.nat p)[j] : Nat) : Int) * 2 ^ (((32 * j : Nat) : Int)).toNat) = (((Nm.nat p)[j] * 2 ^ (32 * j) : Nat) : Int) := by
      rw [Int.toNat_natCast, show (((Nm.nat p)[j] : Nat) : Int) * 2 ^ (32 * j) = (((Nm.nat p)[j] * 2 ^ (32 * j) : Nat) : Int) from by push_cast; rfl, IntKind.wrap_u64]
      have := hor.2.1
      omega
    refine wp_skip ?_
    refine then_normal ?_
    refine wp_seq ?_
    refine wp_block ?_
    refine wp_seq ?_
    refine sym_region st [(17, fI (j : Int)), (18, Fact.dptr (Nm.nat p)[j]), (19, Fact.eq (.int .u32 (((Nm.nat p)[j] : Nat) : Int))), (7, fI (j : Int)), (8, Fact.eq (.int .u32 (((Nm.nat p)[j] : Nat) : Int)))] [] 5 (by kernel_rfl) (by kernel_rfl) (by kernel_rfl) (Nat.le_of_ble_eq_true rfl) (by kernel_rfl) rfl rfl ?_ ?_
    · refine fcn (ob_copy 15 17 (.inl rfl) rfl (.inl rfl) (by kernel_rfl) rfl) ?_
      refine fcn (ob_digptr 13 15 18 k p j _ rfl hj rfl rfl (.inl rfl) (by kernel_rfl) (by kernel_rfl) rfl rfl rfl) ?_
      refine fcn (ob_loaddig 18 19 (Nm.nat p)[j] rfl rfl (.inl rfl) (by kernel_rfl) rfl rfl) ?_
      refine fcn (ob_copy 17 7 (.inr rfl) rfl (.inl rfl) (by kernel_rfl) rfl) ?_
      refine fcn (ob_copy 19 8 (.inr rfl) rfl (.inl rfl) (by kernel_rfl) rfl) ?_
      exact fnl
    intro a7 w7 st7 hbr7 hfr
    have hs7 := hbr7.size
    have hb := up hb hbr7
    have st : St 46 [(0, fF), (6, Fact.eq (.int .u64 ((Nm.val ((Nm.nat p).take j) : Nat) : Int))), (13, Fact.rown k p), (14, fI ((Nm.nat p).length : Int)), (15, fI (j : Int)), (7, fI (j : Int)), (8, Fact.eq (.int .u32 (((Nm.nat p)[j] : Nat) : Int)))] a7 w7 := st7.to (fcs ⟨st7.at_ 0, fcs ⟨st7.at_ 6, fcs ⟨st7.at_ 13, fcs ⟨st7.at_ 14, fcs ⟨st7.at_ 15, fcs ⟨st7.at_ 7, fcs ⟨st7.at_ 8, fnl⟩⟩⟩⟩⟩⟩⟩)
    clear st7 hbr7 hfr
    refine wpList_nil ?_
    refine then_normal ?_
    refine wp_region_lit ?_
    refine sym_op st 20 (Fact.eq (.int .u64 ((Nm.val ((Nm.nat p).take j) : Nat) : Int))) rfl (Nat.le_of_ble_eq_true rfl) rfl rfl (by kernel_rfl) (ob_copy 6 20 (.inl rfl) rfl (.inl rfl) (by kernel_rfl) rfl) ?_
    clear st; intro a9 w9 hbr st; have hs9 := hbr.size; have hb := up hb hbr; clear hbr
    refine sym_op st 21 (Fact.eq (.int .u32 (((Nm.nat p)[j] : Nat) : Int))) rfl (Nat.le_of_ble_eq_true rfl) rfl rfl (by kernel_rfl) (ob_copy 8 21 (.inl rfl) rfl (.inl rfl) (by kernel_rfl) rfl) ?_
    clear st; intro a10 w10 hbr st; have hs10 := hbr.size; have hb := up hb hbr; clear hbr
    refine sym_op st 22 (Fact.eq (.int .u64 (((Nm.nat p)[j] : Nat) : Int))) rfl (Nat.le_of_ble_eq_true rfl) rfl rfl (by kernel_rfl) (ob_conv3264 21 22 (((Nm.nat p)[j] : Nat) : Int) (((Nm.nat p)[j] : Nat) : Int) hcv rfl rfl (.inl rfl) (by kernel_rfl) rfl rfl) ?_
    clear st; intro a11 w11 hbr st; have hs11 := hbr.size; have hb := up hb hbr; clear hbr
    refine sym_op st 23 (fI (j : Int)) rfl (Nat.le_of_ble_eq_true rfl) rfl rfl (by kernel_rfl) (ob_copy 7 23 (.inl rfl) rfl (.inl rfl) (by kernel_rfl) rfl) ?_
    clear st; intro a12 w12 hbr st; have hs12 := hbr.size; have hb := up hb hbr; clear hbr
    refine sym_op st 24 (fI ((32 * j : Nat) : Int)) rfl (Nat.le_of_ble_eq_true rfl) rfl rfl (by kernel_rfl) (ob_cmul 23 24 32 (j : Int) ((32 * j : Nat) : Int) _ _ hm32 rfl rfl (.inl rfl) (by kernel_rfl) rfl rfl) ?_
    clear st; intro a13 w13 hbr st; have hs13 := hbr.size; have hb := up hb hbr; clear hbr
    refine sym_op st 25 (Fact.eq (.int .u64 (((Nm.nat p)[j] * 2 ^ (32 * j) : Nat) : Int))) rfl (Nat.le_of_ble_eq_true rfl) rfl rfl (by kernel_rfl) (ob_shl 22 24 25 (((Nm.nat p)[j] : Nat) : Int) ((32 * j : Nat) : Int) (((Nm.nat p)[j] * 2 ^ (32 * j) : Nat) : Int) _ _ (by omega) (by omega) hsh rfl rfl (.inl rfl) (by kernel_rfl) (by kernel_rfl) rfl rfl rfl) ?_
    clear st; intro a14 w14 hbr st; have hs14 := hbr.size; have hb := up hb hbr; clear hbr
    refine sym_op st 26 (Fact.eq (.int .u64 ((Nm.val ((Nm.nat p).take (j + 1)) : Nat) : Int))) rfl (Nat.le_of_ble_eq_true rfl) rfl rfl (by kernel_rfl) (ob_or64 20 25 26 (Nm.val ((Nm.nat p).take j)) ((Nm.nat p)[j] * 2 ^ (32 * j)) (Nm.val ((Nm.nat p).take (j + 1))) _ _ hor.2.2 hor.2.1 hor.1 rfl rfl (.inl rfl) (by kernel_rfl) (by kernel_rfl) rfl rfl rfl) ?_
    clear st; intro a15 w15 hbr st; have hs15 := hbr.size; have hb := up hb hbr; clear hbr
    have st := st.to (ks' := [(0, fF), (13, Fact.rown k p), (14, fI ((Nm.nat p).length : Int)), (15, fI (j : Int)), (7, fI (j : Int)), (8, Fact.eq (.int .u32 (((Nm.nat p)[j] : Nat) : Int))), (20, Fact.eq (.int .u64 ((Nm.val ((Nm.nat p).take j) : Nat) : Int))), (21, Fact.eq (.int .u32 (((Nm.nat p)[j] : Nat) : Int))), (22, Fact.eq (.int .u64 (((Nm.nat p)[j] : Nat) : Int))), (23, fI (j : Int)), (24, fI ((32 * j : Nat) : Int)), (25, Fact.eq (.int .u64 (((Nm.nat p)[j] * 2 ^ (32 * j) : Nat) : Int))), (26, Fact.eq (.int .u64 ((Nm.val ((Nm.nat p).take (j + 1)) : Nat) : Int)))]) (fcs ⟨st.at_ 0, fcs ⟨st.at_ 13, fcs ⟨st.at_ 14, fcs ⟨st.at_ 15, fcs ⟨st.at_ 7, fcs ⟨st.at_ 8, fcs ⟨st.at_ 20, fcs ⟨st.at_ 21, fcs ⟨st.at_ 22, fcs ⟨st.at_ 23, fcs ⟨st.at_ 24, fcs ⟨st.at_ 25, fcs ⟨st.at_ 26, fnl⟩⟩⟩⟩⟩⟩⟩⟩⟩⟩⟩⟩⟩)
    refine sym_op st 6 (Fact.eq (.int .u64 ((Nm.val ((Nm.nat p).take (j + 1)) : Nat) : Int))) rfl (Nat.le_of_ble_eq_true rfl) rfl rfl (by kernel_rfl) (ob_copy 26 6 (.inr rfl) rfl (.inl rfl) (by kernel_rfl) rfl) ?_
    clear st; intro a16 w16 hbr st; have hs16 := hbr.size; have hb := up hb hbr; clear hbr
    refine wpList_nil ?_
    refine inBlock_normal ?_
    refine then_normal ?_
    refine wp_region_lit ?_
    refine sym_op st 27 (fI ((j + 1 : Nat) : Int)) rfl (Nat.le_of_ble_eq_true rfl) rfl rfl (by kernel_rfl) (ob_inc 15 27 _ _ j (by omega) rfl rfl (.inl rfl) (by kernel_rfl) rfl rfl) ?_
    clear st; intro a18 w18 hbr st; have hs18 := hbr.size; have hb := up hb hbr; clear hbr
    have st := st.to (ks' := [(0, fF), (13, Fact.rown k p), (14, fI ((Nm.nat p).length : Int)), (6, Fact.eq (.int .u64 ((Nm.val ((Nm.nat p).take (j + 1)) : Nat) : Int))), (27, fI ((j + 1 : Nat) : Int))]) (fcs ⟨st.at_ 0, fcs ⟨st.at_ 13, fcs ⟨st.at_ 14, fcs ⟨st.at_ 6, fcs ⟨st.at_ 27, fnl⟩⟩⟩⟩⟩)
    refine sym_op st 15 (fI ((j + 1 : Nat) : Int)) rfl (Nat.le_of_ble_eq_true rfl) rfl rfl (by kernel_rfl) (ob_copy 27 15 (.inl rfl) rfl (.inl rfl) (by kernel_rfl) rfl) ?_
    clear st; intro a19 w19 hbr st; have hs19 := hbr.size; have hb := up hb hbr; clear hbr
    refine wpList_nil ?_
    refine then_normal ⟨_, ?_, j + 1, hj, st.to (fcs ⟨st.at_ 0, fcs ⟨st.at_ 6, fcs ⟨st.at_ 13, fcs ⟨st.at_ 14, fcs ⟨st.at_ 15, fnl⟩⟩⟩⟩⟩), hb, rfl⟩
    · omega
  · skip
    have hj : j = (Nm.nat p).length := by have := of_decide_eq_false hlt; omega
    have hvl : Nm.val ((Nm.nat p).take j) = p := by rw [hj, List.take_length, Nm.val_nat]
    rw [hvl] at st
    refine wp_exit ?_
    refine then_exit ?_
    refine then_exit ?_
    refine inBlock_exit ?_
    refine then_normal ?_
    refine wp_seq ?_
    refine wp_block ?_
    refine wp_seq ?_
    refine sym_region st [(29, fF), (30, fF), (31, Fact.eq undef), (32, Fact.eq undef), (33, fF), (28, fF)] [] 6 (by kernel_rfl) (by kernel_rfl) (by kernel_rfl) (Nat.le_of_ble_eq_true rfl) (by kernel_rfl) rfl rfl ?_ ?_
    · refine fcn (ob_copy 0 29 (.inl rfl) rfl (.inl rfl) (by kernel_rfl) rfl) ?_
      refine fcn (ob_copy 29 30 (.inl rfl) rfl (.inl rfl) (by kernel_rfl) rfl) ?_
      refine fcn (ob_skip 1 30 31 true rfl rfl (by kernel_rfl) (by decide) rfl rfl rfl) ?_
      refine fcn (ob_skip 1 30 32 true rfl rfl (by kernel_rfl) (by decide) rfl rfl rfl) ?_
      refine fcn (ob_pick_no 30 32 33 (.bool false) rfl rfl (.inl rfl) (by kernel_rfl) rfl rfl) ?_
      refine fcn (ob_copy 33 28 (.inr rfl) rfl (.inl rfl) (by kernel_rfl) rfl) ?_
      exact fnl
    intro a20 w20 st20 hbr20 hfr
    have hs20 := hbr20.size
    have hb := up hb hbr20
    have st : St 46 [(0, fF), (6, Fact.eq (.int .u64 ((p : Nat) : Int))), (28, fF)] a20 w20 := st20.to (fcs ⟨st20.at_ 0, fcs ⟨st20.at_ 6, fcs ⟨st20.at_ 28, fnl⟩⟩⟩)
    clear st20 hbr20 hfr
    refine wpList_nil ?_
    refine then_normal ?_
    refine wp_cond_false (st.at_ 28) ?_
    refine wp_seq ?_
    refine sym_region st [(38, fF), (39, fT), (40, fT), (41, Fact.eq (.int .u64 ((p : Nat) : Int))), (42, fT), (43, fT), (37, fT)] [] 7 (by kernel_rfl) (by kernel_rfl) (by kernel_rfl) (Nat.le_of_ble_eq_true rfl) (by kernel_rfl) rfl rfl ?_ ?_
    · refine fcn (ob_copy 0 38 (.inl rfl) rfl (.inl rfl) (by kernel_rfl) rfl) ?_
      refine fcn (ob_not 38 39 false true rfl rfl rfl (.inl rfl) (by kernel_rfl) rfl rfl) ?_
      refine fcn (ob_copy 39 40 (.inl rfl) rfl (.inl rfl) (by kernel_rfl) rfl) ?_
      refine fcn (ob_copy 6 41 (.inl rfl) rfl (.inr ⟨_, _, _, rfl, rfl, by kernel_rfl, by decide, rfl⟩) (by kernel_rfl) rfl) ?_
      refine fcn (ob_ltc 41 42 .u64 57 _ ((p : Nat) : Int) 9223372036854775808 true (decide_eq_true (by omega)) rfl rfl (.inr ⟨_, _, _, rfl, rfl, by kernel_rfl, by decide, rfl⟩) (by kernel_rfl) rfl rfl) ?_
      refine fcn (ob_pick 40 42 43 _ rfl rfl (.inl rfl) (by kernel_rfl) (by kernel_rfl) rfl rfl) ?_
      refine fcn (ob_copy 43 37 (.inr rfl) rfl (.inl rfl) (by kernel_rfl) rfl) ?_
      exact fnl
    intro a21 w21 st21 hbr21 hfr
    have hs21 := hbr21.size
    have hb := up hb hbr21
    have st : St 46 [(6, Fact.eq (.int .u64 ((p : Nat) : Int))), (37, fT)] a21 w21 := st21.to (fcs ⟨st21.at_ 6, fcs ⟨st21.at_ 37, fnl⟩⟩)
    clear st21 hbr21 hfr
    refine wpList_nil ?_
    refine then_normal ?_
    refine wp_cond_true (st.at_ 37) ?_
    refine wp_seq ?_
    refine sym_region st [(44, Fact.eq (.int .u64 ((p : Nat) : Int))), (45, fI (p : Int)), (4, fI (p : Int)), (5, fT)] [] 4 (by kernel_rfl) (by kernel_rfl) (by kernel_rfl) (Nat.le_of_ble_eq_true rfl) (by kernel_rfl) rfl rfl ?_ ?_
    · refine fcn (ob_copy 6 44 (.inl rfl) rfl (.inl rfl) (by kernel_rfl) rfl) ?_
      refine fcn (ob_convi64 44 45 ((p : Nat) : Int) (p : Int) hc rfl rfl (.inl rfl) (by kernel_rfl) rfl rfl) ?_
      refine fcn (ob_copy 45 4 (.inr rfl) rfl (.inl rfl) (by kernel_rfl) rfl) ?_
      refine fcn (ob_const (.bool true) 5 (.inr rfl) rfl (.inl rfl) rfl) ?_
      exact fnl
    intro a22 w22 st22 hbr22 hfr
    have hs22 := hbr22.size
    have hb := up hb hbr22
    have st : St 46 [(4, fI (p : Int)), (5, fT)] a22 w22 := st22.to (fcs ⟨st22.at_ 4, fcs ⟨st22.at_ 5, fnl⟩⟩)
    clear st22 hbr22 hfr
    refine wpList_nil ?_
    refine then_normal ?_
    refine wp_ret ?_
    exact sym_ret2 rfl st.defers (resAt_tmp st 4) (resAt_tmp st 5) hb (fun v u h1 h2 => ⟨v, u, rfl, h1, h2⟩)
set_option maxRecDepth 100000 in
theorem s_pos0 (k p : Nat) (h : 9223372036854775808 ≤ p) (hp : p < 18446744073709551616) : ∀ v0 v1 w, (fF).holds v0 w → (Fact.agg (Con.nn k p)).holds v1 w → Calls Tryz.prog 62 #[v0, v1] w (Ret (Fact.two (fI 0) (fF)) w) := by
  intro v0 v1 w hv0 hv1
  refine sym_calls 46 [(0, fF), (1, Fact.agg (Con.nn k p))] Tryz.func62 rfl rfl (Nat.le_of_ble_eq_true rfl) (fcs ⟨⟨Nat.le_of_ble_eq_true rfl, hv0⟩, fcs ⟨⟨Nat.le_of_ble_eq_true rfl, hv1⟩, fnl⟩⟩) fun a st => ?_
  have hb := Below.refl w.heap.size w
  refine wp_seq ?_
  refine sym_region st [(3, Fact.var' (Con.nn k p)), (4, fI 0), (5, fF)] [3] 3 (by kernel_rfl) (by kernel_rfl) (by kernel_rfl) (Nat.le_of_ble_eq_true rfl) (by kernel_rfl) rfl rfl ?_ ?_
  · refine fcs ⟨obn_box 24 1 3 _ (Con.nn k p) rfl rfl rfl (by kernel_rfl) rfl rfl, ?_⟩
    refine fcn (ob_const (.int .i64 0) 4 (.inr rfl) rfl (.inl rfl) rfl) ?_
    refine fcn (ob_const (.bool false) 5 (.inr rfl) rfl (.inl rfl) rfl) ?_
    exact fnl
  intro a1 w1 st1 hbr1 hfr
  have hs1 := hbr1.size
  have hb := up hb hbr1
  obtain ⟨b3, c3⟩ := (show (Fact.var' (Con.nn k p)).holds _ _ from st1.at_ 3)
  have g3 := hfr.ge (s := 3) rfl c3.1
  have st : St 46 [(0, fF), (3, Fact.cell b3 (Con.nn k p)), (4, fI 0), (5, fF)] a1 w1 := st1.to (fcs ⟨st1.at_ 0, fcs ⟨c3, fcs ⟨st1.at_ 4, fcs ⟨st1.at_ 5, fnl⟩⟩⟩⟩)
  clear st1 hbr1 hfr c3
  refine wpList_nil ?_
  refine then_normal ?_
  refine wp_seq ?_
  refine wp_seq ?_
  refine sym_region st [(9, Fact.agg (Con.nn k p)), (10, fI (Nm.blen p : Int)), (11, fF)] [] 3 (by kernel_rfl) (by kernel_rfl) (by kernel_rfl) (Nat.le_of_ble_eq_true rfl) (by kernel_rfl) rfl rfl ?_ ?_
  · refine fcn (ob_read 24 3 9 (Con.nn k p) rfl rfl (.inl rfl) (by kernel_rfl) points_cell rfl row24 info24) ?_
    refine fcn (ob_call1 81 9 10 _ rfl rfl (.inl rfl) (by kernel_rfl) (by kernel_rfl) (n_bits k p _ rfl)) ?_
    refine fcn (ob_gtc 10 11 .i64 3 _ (Nm.blen p : Int) 64 false ((blen_64 p).trans (decide_eq_false (by omega))) rfl rfl (.inl rfl) (by kernel_rfl) rfl rfl) ?_
    exact fnl
  intro a2 w2 st2 hbr2 hfr
  have hs2 := hbr2.size
  have hb := up hb hbr2
  have st : St 46 [(0, fF), (3, Fact.cell b3 (Con.nn k p)), (4, fI 0), (5, fF), (11, fF)] a2 w2 := st2.to (fcs ⟨st2.at_ 0, fcs ⟨st2.at_ 3, fcs ⟨st2.at_ 4, fcs ⟨st2.at_ 5, fcs ⟨st2.at_ 11, fnl⟩⟩⟩⟩⟩)
  clear st2 hbr2 hfr
  refine wpList_nil ?_
  refine then_normal ?_
  refine wp_cond_false (st.at_ 11) ?_
  refine wp_skip ?_
  refine then_normal ?_
  refine wp_seq ?_
  refine sym_region st [(6, Fact.eq (.int .u64 0))] [] 1 (by kernel_rfl) (by kernel_rfl) (by kernel_rfl) (Nat.le_of_ble_eq_true rfl) (by kernel_rfl) rfl rfl ?_ ?_
  · refine fcn (ob_const (.int .u64 0) 6 (.inr rfl) rfl (.inl rfl) rfl) ?_
    exact fnl
  intro a3 w3 st3 hbr3 hfr
  have hs3 := hbr3.size
  have hb := up hb hbr3
  have st : St 46 [(0, fF), (3, Fact.cell b3 (Con.nn k p)), (4, fI 0), (5, fF), (6, Fact.eq (.int .u64 0))] a3 w3 := st3.to (fcs ⟨st3.at_ 0, fcs ⟨st3.at_ 3, fcs ⟨st3.at_ 4, fcs ⟨st3.at_ 5, fcs ⟨st3.at_ 6, fnl⟩⟩⟩⟩⟩)
  clear st3 hbr3 hfr
  refine wpList_nil ?_
  refine then_normal ?_
  refine wp_seq ?_
  refine wp_seq ?_
  refine sym_region st [(12, Fact.ptr (Con.nn k p)), (13, Fact.rown k p), (14, fI ((Nm.nat p).length : Int)), (15, fI 0)] [] 4 (by kernel_rfl) (by kernel_rfl) (by kernel_rfl) (Nat.le_of_ble_eq_true rfl) (by kernel_rfl) rfl rfl ?_ ?_
  · refine fcn (ob_addr 24 0 3 12 0 (Con.nn k p) (Con.nn k p) rfl rfl (.inl rfl) (by kernel_rfl) points_cell rfl (Con.Sub.refl _) field24_0) ?_
    refine fcn (ob_loadrow 12 13 k p rfl rfl (.inl rfl) (by kernel_rfl) points_ptr rfl) ?_
    refine fcn (ob_len 13 14 (Nm.nat p).length 22 rfl (by kernel_rfl) rfl (.inl rfl) (by kernel_rfl) len_rown rfl) ?_
    refine fcn (ob_const (.int .i64 0) 15 (.inl rfl) rfl (.inl rfl) rfl) ?_
    exact fnl
  intro a4 w4 st4 hbr4 hfr
  have hs4 := hbr4.size
  have hb := up hb hbr4
  have st : St 46 [(0, fF), (4, fI 0), (5, fF), (6, Fact.eq (.int .u64 0)), (13, Fact.rown k p), (14, fI ((Nm.nat p).length : Int)), (15, fI 0)] a4 w4 := st4.to (fcs ⟨st4.at_ 0, fcs ⟨st4.at_ 4, fcs ⟨st4.at_ 5, fcs ⟨st4.at_ 6, fcs ⟨st4.at_ 13, fcs ⟨st4.at_ 14, fcs ⟨st4.at_ 15, fnl⟩⟩⟩⟩⟩⟩⟩)
  clear st4 hbr4 hfr
  refine wpList_nil ?_
  refine then_normal ?_
  refine wp_block ?_
  refine wp_loop_ghost (fun n a w0 => ∃ (j : Nat), (j ≤ (Nm.nat p).length) ∧ St 46 [(0, fF), (6, Fact.eq (.int .u64 ((Nm.val ((Nm.nat p).take j) : Nat) : Int))), (13, Fact.rown k p), (14, fI ((Nm.nat p).length : Int)), (15, fI (j : Int))] a w0 ∧ Below w.heap.size w w0 ∧ (Nm.nat p).length - j = n) ((Nm.nat p).length - 0) ⟨0, Nat.zero_le _, st.to (fcs ⟨st.at_ 0, fcs ⟨st.at_ 6, fcs ⟨st.at_ 13, fcs ⟨st.at_ 14, fcs ⟨st.at_ 15, fnl⟩⟩⟩⟩⟩), hb, rfl⟩ ?_
  clear st hb
  rintro n a w5 ⟨j, hjl, st, hb, rfl⟩
  have hs0 := hb.size
  refine wp_seq ?_
  refine sym_region st [(16, Fact.eq (.bool (decide ((j : Int) < ((Nm.nat p).length : Int)))))] [] 1 (by kernel_rfl) (by kernel_rfl) (by kernel_rfl) (Nat.le_of_ble_eq_true rfl) (by kernel_rfl) rfl rfl ?_ ?_
  · refine fcn (ob_lt2 15 14 16 .i64 _ _ (j : Int) ((Nm.nat p).length : Int) (decide ((j : Int) < ((Nm.nat p).length : Int))) rfl rfl rfl (.inl rfl) (by kernel_rfl) (by kernel_rfl) rfl rfl rfl) ?_
    exact fnl
  intro a6 w6 st6 hbr6 hfr
  have hs6 := hbr6.size
  have hb := up hb hbr6
  have st : St 46 [(0, fF), (6, Fact.eq (.int .u64 ((Nm.val ((Nm.nat p).take j) : Nat) : Int))), (13, Fact.rown k p), (14, fI ((Nm.nat p).length : Int)), (15, fI (j : Int)), (16, Fact.eq (.bool (decide ((j : Int) < ((Nm.nat p).length : Int)))))] a6 w6 := st6.to (fcs ⟨st6.at_ 0, fcs ⟨st6.at_ 6, fcs ⟨st6.at_ 13, fcs ⟨st6.at_ 14, fcs ⟨st6.at_ 15, fcs ⟨st6.at_ 16, fnl⟩⟩⟩⟩⟩⟩)
  clear st6 hbr6 hfr
  refine wpList_nil ?_
  refine then_normal ?_
  refine wp_seq ?_
  refine wp_cond_split (st.at_ 16) (fun hlt => ?_) (fun hlt => ?_)
  · skip
    have hj : j < (Nm.nat p).length := by have := of_decide_eq_true hlt; omega
    have hdg := Nm.dig_nat p
    have hl2 := nat_len2 hp
    have hor := or_step hdg hl2 j hj
    have hz := hdg.at_ hj
    have hcv : IntKind.u64.wrap (((Nm.nat p)[j] : Nat) : Int) = (((Nm.nat p)[j] : Nat) : Int) := wrap64 hz
    have hm32 : IntKind.i64.wrap (32 * (j : Int)) = ((32 * j : Nat) : Int) := by rw [show ((32 * j : Nat) : Int) = 32 * (j : Int) from by omega]; exact IntWalk.i64_in _ (by omega)
    have hsh : IntKind.u64.wrap ((((Nm.nat p)[j] : Nat) : Int) * 2 ^ (((32 * j : Nat) : Int)).toNat) = (((Nm.nat p)[j] * 2 ^ (32 * j) : Nat) : Int) := by
      rw [Int.toNat_natCast, show (((Nm.nat p)[j] : Nat) : Int) * 2 ^ (32 * j) = (((Nm.nat p)[j] * 2 ^ (32 * j) : Nat) : Int) from by push_cast; rfl, IntKind.wrap_u64]
      have := hor.2.1
      omega
    refine wp_skip ?_
    refine then_normal ?_
    refine wp_seq ?_
    refine wp_block ?_
    refine wp_seq ?_
    refine sym_region st [(17, fI (j : Int)), (18, Fact.dptr (Nm.nat p)[j]), (19, Fact.eq (.int .u32 (((Nm.nat p)[j] : Nat) : Int))), (7, fI (j : Int)), (8, Fact.eq (.int .u32 (((Nm.nat p)[j] : Nat) : Int)))] [] 5 (by kernel_rfl) (by kernel_rfl) (by kernel_rfl) (Nat.le_of_ble_eq_true rfl) (by kernel_rfl) rfl rfl ?_ ?_
    · refine fcn (ob_copy 15 17 (.inl rfl) rfl (.inl rfl) (by kernel_rfl) rfl) ?_
      refine fcn (ob_digptr 13 15 18 k p j _ rfl hj rfl rfl (.inl rfl) (by kernel_rfl) (by kernel_rfl) rfl rfl rfl) ?_
      refine fcn (ob_loaddig 18 19 (Nm.nat p)[j] rfl rfl (.inl rfl) (by kernel_rfl) rfl rfl) ?_
      refine fcn (ob_copy 17 7 (.inr rfl) rfl (.inl rfl) (by kernel_rfl) rfl) ?_
      refine fcn (ob_copy 19 8 (.inr rfl) rfl (.inl rfl) (by kernel_rfl) rfl) ?_
      exact fnl
    intro a7 w7 st7 hbr7 hfr
    have hs7 := hbr7.size
    have hb := up hb hbr7
    have st : St 46 [(0, fF), (6, Fact.eq (.int .u64 ((Nm.val ((Nm.nat p).take j) : Nat) : Int))), (13, Fact.rown k p), (14, fI ((Nm.nat p).length : Int)), (15, fI (j : Int)), (7, fI (j : Int)), (8, Fact.eq (.int .u32 (((Nm.nat p)[j] : Nat) : Int)))] a7 w7 := st7.to (fcs ⟨st7.at_ 0, fcs ⟨st7.at_ 6, fcs ⟨st7.at_ 13, fcs ⟨st7.at_ 14, fcs ⟨st7.at_ 15, fcs ⟨st7.at_ 7, fcs ⟨st7.at_ 8, fnl⟩⟩⟩⟩⟩⟩⟩)
    clear st7 hbr7 hfr
    refine wpList_nil ?_
    refine then_normal ?_
    refine wp_region_lit ?_
    refine sym_op st 20 (Fact.eq (.int .u64 ((Nm.val ((Nm.nat p).take j) : Nat) : Int))) rfl (Nat.le_of_ble_eq_true rfl) rfl rfl (by kernel_rfl) (ob_copy 6 20 (.inl rfl) rfl (.inl rfl) (by kernel_rfl) rfl) ?_
    clear st; intro a9 w9 hbr st; have hs9 := hbr.size; have hb := up hb hbr; clear hbr
    refine sym_op st 21 (Fact.eq (.int .u32 (((Nm.nat p)[j] : Nat) : Int))) rfl (Nat.le_of_ble_eq_true rfl) rfl rfl (by kernel_rfl) (ob_copy 8 21 (.inl rfl) rfl (.inl rfl) (by kernel_rfl) rfl) ?_
    clear st; intro a10 w10 hbr st; have hs10 := hbr.size; have hb := up hb hbr; clear hbr
    refine sym_op st 22 (Fact.eq (.int .u64 (((Nm.nat p)[j] : Nat) : Int))) rfl (Nat.le_of_ble_eq_true rfl) rfl rfl (by kernel_rfl) (ob_conv3264 21 22 (((Nm.nat p)[j] : Nat) : Int) (((Nm.nat p)[j] : Nat) : Int) hcv rfl rfl (.inl rfl) (by kernel_rfl) rfl rfl) ?_
    clear st; intro a11 w11 hbr st; have hs11 := hbr.size; have hb := up hb hbr; clear hbr
    refine sym_op st 23 (fI (j : Int)) rfl (Nat.le_of_ble_eq_true rfl) rfl rfl (by kernel_rfl) (ob_copy 7 23 (.inl rfl) rfl (.inl rfl) (by kernel_rfl) rfl) ?_
    clear st; intro a12 w12 hbr st; have hs12 := hbr.size; have hb := up hb hbr; clear hbr
    refine sym_op st 24 (fI ((32 * j : Nat) : Int)) rfl (Nat.le_of_ble_eq_true rfl) rfl rfl (by kernel_rfl) (ob_cmul 23 24 32 (j : Int) ((32 * j : Nat) : Int) _ _ hm32 rfl rfl (.inl rfl) (by kernel_rfl) rfl rfl) ?_
    clear st; intro a13 w13 hbr st; have hs13 := hbr.size; have hb := up hb hbr; clear hbr
    refine sym_op st 25 (Fact.eq (.int .u64 (((Nm.nat p)[j] * 2 ^ (32 * j) : Nat) : Int))) rfl (Nat.le_of_ble_eq_true rfl) rfl rfl (by kernel_rfl) (ob_shl 22 24 25 (((Nm.nat p)[j] : Nat) : Int) ((32 * j : Nat) : Int) (((Nm.nat p)[j] * 2 ^ (32 * j) : Nat) : Int) _ _ (by omega) (by omega) hsh rfl rfl (.inl rfl) (by kernel_rfl) (by kernel_rfl) rfl rfl rfl) ?_
    clear st; intro a14 w14 hbr st; have hs14 := hbr.size; have hb := up hb hbr; clear hbr
    refine sym_op st 26 (Fact.eq (.int .u64 ((Nm.val ((Nm.nat p).take (j + 1)) : Nat) : Int))) rfl (Nat.le_of_ble_eq_true rfl) rfl rfl (by kernel_rfl) (ob_or64 20 25 26 (Nm.val ((Nm.nat p).take j)) ((Nm.nat p)[j] * 2 ^ (32 * j)) (Nm.val ((Nm.nat p).take (j + 1))) _ _ hor.2.2 hor.2.1 hor.1 rfl rfl (.inl rfl) (by kernel_rfl) (by kernel_rfl) rfl rfl rfl) ?_
    clear st; intro a15 w15 hbr st; have hs15 := hbr.size; have hb := up hb hbr; clear hbr
    have st := st.to (ks' := [(0, fF), (13, Fact.rown k p), (14, fI ((Nm.nat p).length : Int)), (15, fI (j : Int)), (7, fI (j : Int)), (8, Fact.eq (.int .u32 (((Nm.nat p)[j] : Nat) : Int))), (20, Fact.eq (.int .u64 ((Nm.val ((Nm.nat p).take j) : Nat) : Int))), (21, Fact.eq (.int .u32 (((Nm.nat p)[j] : Nat) : Int))), (22, Fact.eq (.int .u64 (((Nm.nat p)[j] : Nat) : Int))), (23, fI (j : Int)), (24, fI ((32 * j : Nat) : Int)), (25, Fact.eq (.int .u64 (((Nm.nat p)[j] * 2 ^ (32 * j) : Nat) : Int))), (26, Fact.eq (.int .u64 ((Nm.val ((Nm.nat p).take (j + 1)) : Nat) : Int)))]) (fcs ⟨st.at_ 0, fcs ⟨st.at_ 13, fcs ⟨st.at_ 14, fcs ⟨st.at_ 15, fcs ⟨st.at_ 7, fcs ⟨st.at_ 8, fcs ⟨st.at_ 20, fcs ⟨st.at_ 21, fcs ⟨st.at_ 22, fcs ⟨st.at_ 23, fcs ⟨st.at_ 24, fcs ⟨st.at_ 25, fcs ⟨st.at_ 26, fnl⟩⟩⟩⟩⟩⟩⟩⟩⟩⟩⟩⟩⟩)
    refine sym_op st 6 (Fact.eq (.int .u64 ((Nm.val ((Nm.nat p).take (j + 1)) : Nat) : Int))) rfl (Nat.le_of_ble_eq_true rfl) rfl rfl (by kernel_rfl) (ob_copy 26 6 (.inr rfl) rfl (.inl rfl) (by kernel_rfl) rfl) ?_
    clear st; intro a16 w16 hbr st; have hs16 := hbr.size; have hb := up hb hbr; clear hbr
    refine wpList_nil ?_
    refine inBlock_normal ?_
    refine then_normal ?_
    refine wp_region_lit ?_
    refine sym_op st 27 (fI ((j + 1 : Nat) : Int)) rfl (Nat.le_of_ble_eq_true rfl) rfl rfl (by kernel_rfl) (ob_inc 15 27 _ _ j (by omega) rfl rfl (.inl rfl) (by kernel_rfl) rfl rfl) ?_
    clear st; intro a18 w18 hbr st; have hs18 := hbr.size; have hb := up hb hbr; clear hbr
    have st := st.to (ks' := [(0, fF), (13, Fact.rown k p), (14, fI ((Nm.nat p).length : Int)), (6, Fact.eq (.int .u64 ((Nm.val ((Nm.nat p).take (j + 1)) : Nat) : Int))), (27, fI ((j + 1 : Nat) : Int))]) (fcs ⟨st.at_ 0, fcs ⟨st.at_ 13, fcs ⟨st.at_ 14, fcs ⟨st.at_ 6, fcs ⟨st.at_ 27, fnl⟩⟩⟩⟩⟩)
    refine sym_op st 15 (fI ((j + 1 : Nat) : Int)) rfl (Nat.le_of_ble_eq_true rfl) rfl rfl (by kernel_rfl) (ob_copy 27 15 (.inl rfl) rfl (.inl rfl) (by kernel_rfl) rfl) ?_
    clear st; intro a19 w19 hbr st; have hs19 := hbr.size; have hb := up hb hbr; clear hbr
    refine wpList_nil ?_
    refine then_normal ⟨_, ?_, j + 1, hj, st.to (fcs ⟨st.at_ 0, fcs ⟨st.at_ 6, fcs ⟨st.at_ 13, fcs ⟨st.at_ 14, fcs ⟨st.at_ 15, fnl⟩⟩⟩⟩⟩), hb, rfl⟩
    · omega
  · skip
    have hj : j = (Nm.nat p).length := by have := of_decide_eq_false hlt; omega
    have hvl : Nm.val ((Nm.nat p).take j) = p := by rw [hj, List.take_length, Nm.val_nat]
    rw [hvl] at st
    refine wp_exit ?_
    refine then_exit ?_
    refine then_exit ?_
    refine inBlock_exit ?_
    refine then_normal ?_
    refine wp_seq ?_
    refine wp_block ?_
    refine wp_seq ?_
    refine sym_region st [(29, fF), (30, fF), (31, Fact.eq undef), (32, Fact.eq undef), (33, fF), (28, fF)] [] 6 (by kernel_rfl) (by kernel_rfl) (by kernel_rfl) (Nat.le_of_ble_eq_true rfl) (by kernel_rfl) rfl rfl ?_ ?_
    · refine fcn (ob_copy 0 29 (.inl rfl) rfl (.inl rfl) (by kernel_rfl) rfl) ?_
      refine fcn (ob_copy 29 30 (.inl rfl) rfl (.inl rfl) (by kernel_rfl) rfl) ?_
      refine fcn (ob_skip 1 30 31 true rfl rfl (by kernel_rfl) (by decide) rfl rfl rfl) ?_
      refine fcn (ob_skip 1 30 32 true rfl rfl (by kernel_rfl) (by decide) rfl rfl rfl) ?_
      refine fcn (ob_pick_no 30 32 33 (.bool false) rfl rfl (.inl rfl) (by kernel_rfl) rfl rfl) ?_
      refine fcn (ob_copy 33 28 (.inr rfl) rfl (.inl rfl) (by kernel_rfl) rfl) ?_
      exact fnl
    intro a20 w20 st20 hbr20 hfr
    have hs20 := hbr20.size
    have hb := up hb hbr20
    have st : St 46 [(0, fF), (6, Fact.eq (.int .u64 ((p : Nat) : Int))), (28, fF)] a20 w20 := st20.to (fcs ⟨st20.at_ 0, fcs ⟨st20.at_ 6, fcs ⟨st20.at_ 28, fnl⟩⟩⟩)
    clear st20 hbr20 hfr
    refine wpList_nil ?_
    refine then_normal ?_
    refine wp_cond_false (st.at_ 28) ?_
    refine wp_seq ?_
    refine sym_region st [(38, fF), (39, fT), (40, fT), (41, Fact.eq (.int .u64 ((p : Nat) : Int))), (42, fF), (43, fF), (37, fF)] [] 7 (by kernel_rfl) (by kernel_rfl) (by kernel_rfl) (Nat.le_of_ble_eq_true rfl) (by kernel_rfl) rfl rfl ?_ ?_
    · refine fcn (ob_copy 0 38 (.inl rfl) rfl (.inl rfl) (by kernel_rfl) rfl) ?_
      refine fcn (ob_not 38 39 false true rfl rfl rfl (.inl rfl) (by kernel_rfl) rfl rfl) ?_
      refine fcn (ob_copy 39 40 (.inl rfl) rfl (.inl rfl) (by kernel_rfl) rfl) ?_
      refine fcn (ob_copy 6 41 (.inl rfl) rfl (.inr ⟨_, _, _, rfl, rfl, by kernel_rfl, by decide, rfl⟩) (by kernel_rfl) rfl) ?_
      refine fcn (ob_ltc 41 42 .u64 57 _ ((p : Nat) : Int) 9223372036854775808 false (decide_eq_false (by omega)) rfl rfl (.inr ⟨_, _, _, rfl, rfl, by kernel_rfl, by decide, rfl⟩) (by kernel_rfl) rfl rfl) ?_
      refine fcn (ob_pick 40 42 43 _ rfl rfl (.inl rfl) (by kernel_rfl) (by kernel_rfl) rfl rfl) ?_
      refine fcn (ob_copy 43 37 (.inr rfl) rfl (.inl rfl) (by kernel_rfl) rfl) ?_
      exact fnl
    intro a21 w21 st21 hbr21 hfr
    have hs21 := hbr21.size
    have hb := up hb hbr21
    have st : St 46 [(6, Fact.eq (.int .u64 ((p : Nat) : Int))), (37, fF)] a21 w21 := st21.to (fcs ⟨st21.at_ 6, fcs ⟨st21.at_ 37, fnl⟩⟩)
    clear st21 hbr21 hfr
    refine wpList_nil ?_
    refine then_normal ?_
    refine wp_cond_false (st.at_ 37) ?_
    refine wp_skip ?_
    refine inBlock_normal ?_
    refine then_normal ?_
    refine wp_seq ?_
    refine sym_region st [(4, fI 0), (5, fF)] [] 2 (by kernel_rfl) (by kernel_rfl) (by kernel_rfl) (Nat.le_of_ble_eq_true rfl) (by kernel_rfl) rfl rfl ?_ ?_
    · refine fcn (ob_const (.int .i64 0) 4 (.inr rfl) rfl (.inl rfl) rfl) ?_
      refine fcn (ob_const (.bool false) 5 (.inr rfl) rfl (.inl rfl) rfl) ?_
      exact fnl
    intro a22 w22 st22 hbr22 hfr
    have hs22 := hbr22.size
    have hb := up hb hbr22
    have st : St 46 [(4, fI 0), (5, fF)] a22 w22 := st22.to (fcs ⟨st22.at_ 4, fcs ⟨st22.at_ 5, fnl⟩⟩)
    clear st22 hbr22 hfr
    refine wpList_nil ?_
    refine then_normal ?_
    refine wp_ret ?_
    exact sym_ret2 rfl st.defers (resAt_tmp st 4) (resAt_tmp st 5) hb (fun v u h1 h2 => ⟨v, u, rfl, h1, h2⟩)
theorem q_signed (k : Nat) (s : Bool) (p : Nat) : ∀ v0 v1 w, (Fact.eq (.bool s)).holds v0 w → (Fact.agg (Con.nn k p)).holds v1 w → Calls Tryz.prog 62 #[v0, v1] w (Ret (Fact.two (fI (asI (Rt.sg s p))) (Fact.eq (.bool (fitsI (Rt.sg s p))))) w) := by
  intro v0 v1 w hv0 hv1
  by_cases hp : p < 18446744073709551616
  · cases s with
    | true =>
      by_cases h : p ≤ 9223372036854775808
      · have e : fitsI (Rt.sg true p) = true := by unfold fitsI; rw [Rt.sg_true]; exact decide_eq_true (by omega)
        rw [asI, if_pos e, e, Rt.sg_true]
        exact s_neg k p h v0 v1 w hv0 hv1
      · have e : fitsI (Rt.sg true p) = false := by unfold fitsI; rw [Rt.sg_true]; exact decide_eq_false (by omega)
        rw [asI, if_neg (by rw [e]; decide), e]
        exact s_neg0 k p (by omega) hp v0 v1 w hv0 hv1
    | false =>
      by_cases h : p < 9223372036854775808
      · have e : fitsI (Rt.sg false p) = true := by unfold fitsI; rw [Rt.sg_false]; exact decide_eq_true (by omega)
        rw [asI, if_pos e, e, Rt.sg_false]
        exact s_pos k p h v0 v1 w hv0 hv1
      · have e : fitsI (Rt.sg false p) = false := by unfold fitsI; rw [Rt.sg_false]; exact decide_eq_false (by omega)
        rw [asI, if_neg (by rw [e]; decide), e]
        exact s_pos0 k p (by omega) hp v0 v1 w hv0 hv1
  · have e := big_no (s := s) (p := p) (by omega)
    rw [asI, if_neg (by rw [e]; decide), e]
    exact s_big k s p (by omega) v0 v1 w hv0 hv1
end Go.Proofs.YtjfehdkfogdpgaaGreatDoor
namespace Go.Proofs.YtjfehdkfogdpgaaGreatDoor
open Go.RowKit
section
variable {ops : Array Oper} {Q : Exit → Act → World → Prop} {F : Nat → Fact} {base : List Nat} {N : Nat} {o : Oper}
end
namespace Rt
theorem floor_pos {x : Rat} (h : ng x = false) : x.floor = sg false (tp x / x.den) := by
  rw [floor_eq, ← sg_parts x, h, sg_false, sg_false]; simp
theorem floor_neg0 {x : Rat} (h : ng x = true) (hr : tp x % x.den = 0) : x.floor = sg true (tp x / x.den) := by
  rw [floor_eq, ← sg_parts x, h, sg_true, sg_true]
  have hd : (x.den : Int) ∣ (tp x : Int) := Int.ofNat_dvd.2 (Nat.dvd_of_mod_eq_zero hr)
  rw [Int.neg_ediv_of_dvd hd]; simp
theorem floor_neg1 {x : Rat} (h : ng x = true) (hr : tp x % x.den ≠ 0) : x.floor = sg true (tp x / x.den + 1) := by
  rw [floor_eq, ← sg_parts x, h, sg_true, sg_true]
  have hp : (0 : Int) < (x.den : Int) := by have := den_pos x; omega
  have hm := Nat.div_add_mod (tp x) x.den
  have hl := Nat.mod_lt (tp x) (den_pos x)
  refine ((Int.ediv_emod_unique (r := (x.den : Int) - ((tp x % x.den : Nat) : Int)) hp).2 ⟨?_, ?_, ?_⟩).1
  · have e : ((tp x : Nat) : Int) = (x.den : Int) * ((tp x / x.den : Nat) : Int) + ((tp x % x.den : Nat) : Int) := by
      rw [← Int.natCast_mul, ← Int.natCast_add, hm]
    generalize ((tp x % x.den : Nat) : Int) = r at *
    rw [show ((tp x / x.den + 1 : Nat) : Int) = ((tp x / x.den : Nat) : Int) + 1 from by omega]
    generalize ((tp x / x.den : Nat) : Int) = q at *
    rw [e, Int.mul_neg, Int.mul_add, Int.mul_one]
    generalize (x.den : Int) * q = t
    omega
  · omega
  · omega
end Rt
end Go.Proofs.YtjfehdkfogdpgaaGreatDoor
namespace Go.Proofs.YtjfehdkfogdpgaaGreatDoor
open Go.RowKit
set_option maxRecDepth 100000 in
theorem q_floor (k : Nat) (x : Rat) (hk : k + 1 ≤ 400) : ∀ v0 w, (Fact.agg (Con.fr k x)).holds v0 w → Calls Tryz.prog 28 #[v0] w (Ret (Fact.two (fI (asI x.floor)) (Fact.eq (.bool (fitsI x.floor)))) w) := by
  intro v0 w hv0
  cases hng : Rt.ng x with
  | false =>
    refine sym_calls 34 [(0, Fact.agg (Con.fr k x))] Tryz.func28 rfl rfl (Nat.le_of_ble_eq_true rfl) (fcs ⟨⟨Nat.le_of_ble_eq_true rfl, hv0⟩, fnl⟩) fun a st => ?_
    have hb := Below.refl w.heap.size w
    refine wp_seq ?_
    refine sym_region st [(1, Fact.var' (Con.fr k x)), (2, fI 0), (3, fF)] [1] 3 (by kernel_rfl) (by kernel_rfl) (by kernel_rfl) (Nat.le_of_ble_eq_true rfl) (by kernel_rfl) rfl rfl ?_ ?_
    · refine fcs ⟨obn_box 26 0 1 _ (Con.fr k x) rfl rfl rfl (by kernel_rfl) rfl rfl, ?_⟩
      refine fcn (ob_const (.int .i64 0) 2 (.inr rfl) rfl (.inl rfl) rfl) ?_
      refine fcn (ob_const (.bool false) 3 (.inr rfl) rfl (.inl rfl) rfl) ?_
      exact fnl
    intro a1 w1 st1 hbr1 hfr
    have hs1 := hbr1.size
    have hb := up hb hbr1
    obtain ⟨b1, c1⟩ := (show (Fact.var' (Con.fr k x)).holds _ _ from st1.at_ 1)
    have g1 := hfr.ge (s := 1) rfl c1.1
    have st : St 34 [(1, Fact.cell b1 (Con.fr k x)), (2, fI 0), (3, fF)] a1 w1 := st1.to (fcs ⟨c1, fcs ⟨st1.at_ 2, fcs ⟨st1.at_ 3, fnl⟩⟩⟩)
    clear st1 hbr1 hfr c1
    refine wpList_nil ?_
    refine then_normal ?_
    refine wp_seq ?_
    refine sym_region st [(8, Fact.ptr (Con.nn k (Rt.tp x))), (9, Fact.agg (Con.nn k (Rt.tp x))), (10, Fact.ptr (Con.nn k (Rat.den x))), (11, Fact.agg (Con.nn k (Rat.den x))), (12, Fact.three (Fact.agg (Con.nn k ((Rt.tp x) / (Rat.den x)))) (Fact.agg (Con.nn k ((Rt.tp x) % (Rat.den x)))) (fI 0)), (7, Fact.three (Fact.agg (Con.nn k ((Rt.tp x) / (Rat.den x)))) (Fact.agg (Con.nn k ((Rt.tp x) % (Rat.den x)))) (fI 0)), (13, Fact.agg (Con.nn k ((Rt.tp x) / (Rat.den x)))), (14, Fact.agg (Con.nn k ((Rt.tp x) % (Rat.den x)))), (15, fI 0), (4, Fact.var' (Con.raw 1)), (5, Fact.var' (Con.raw 1))] [4, 5] 11 (by kernel_rfl) (by kernel_rfl) (by kernel_rfl) (Nat.le_of_ble_eq_true rfl) (by kernel_rfl) rfl rfl ?_ ?_
    · refine fcn (ob_addr 26 1 1 8 1 (Con.fr k x) (Con.nn k (Rt.tp x)) rfl rfl (.inl rfl) (by kernel_rfl) points_cell rfl (Con.fr_tp k x) field26_1) ?_
      refine fcn (ob_read 24 8 9 (Con.nn k (Rt.tp x)) rfl rfl (.inl rfl) (by kernel_rfl) points_ptr rfl row24 info24) ?_
      refine fcn (ob_addr 26 2 1 10 2 (Con.fr k x) (Con.nn k (Rat.den x)) rfl rfl (.inl rfl) (by kernel_rfl) points_cell rfl (Con.fr_den k x) field26_2) ?_
      refine fcn (ob_read 24 10 11 (Con.nn k (Rat.den x)) rfl rfl (.inl rfl) (by kernel_rfl) points_ptr rfl row24 info24) ?_
      refine fcn (ob_call2 60 9 11 12 _ rfl rfl (.inl rfl) (by kernel_rfl) (by kernel_rfl) (by kernel_rfl) (n_divMod k k (Rt.tp x) (Rat.den x) x.den_nz (by omega) (by omega))) ?_
      refine fcn (ob_copy 12 7 (.inl rfl) rfl (.inl rfl) (by kernel_rfl) rfl) ?_
      refine fcn (ob_3a 7 13 (Fact.agg (Con.nn k ((Rt.tp x) / (Rat.den x)))) (Fact.agg (Con.nn k ((Rt.tp x) % (Rat.den x)))) (fI 0) rfl rfl (.inl rfl) (by kernel_rfl) rfl rfl) ?_
      refine fcn (ob_3b 7 14 (Fact.agg (Con.nn k ((Rt.tp x) / (Rat.den x)))) (Fact.agg (Con.nn k ((Rt.tp x) % (Rat.den x)))) (fI 0) rfl rfl (.inl rfl) (by kernel_rfl) rfl rfl) ?_
      refine fcn (ob_3c 7 15 (Fact.agg (Con.nn k ((Rt.tp x) / (Rat.den x)))) (Fact.agg (Con.nn k ((Rt.tp x) % (Rat.den x)))) (fI 0) rfl rfl (.inl rfl) (by kernel_rfl) rfl rfl) ?_
      refine fcs ⟨obn_new 24 4 _ [.slice none 0 0] rfl rfl rfl rfl rfl alloc24, ?_⟩
      refine fcs ⟨obn_new 24 5 _ [.slice none 0 0] rfl rfl rfl rfl rfl alloc24, ?_⟩
      exact fnl
    intro a2 w2 st2 hbr2 hfr
    have hs2 := hbr2.size
    have hb := up hb hbr2
    obtain ⟨b4, c4⟩ := (show (Fact.var' (Con.raw 1)).holds _ _ from st2.at_ 4)
    have g4 := hfr.ge (s := 4) rfl c4.1
    obtain ⟨b5, c5⟩ := (show (Fact.var' (Con.raw 1)).holds _ _ from st2.at_ 5)
    have g5 := hfr.ge (s := 5) rfl c5.1
    have ne4_5 := hfr.apart (s := 4) (t := 5) rfl rfl (by decide) c4.1 c5.1
    have st : St 34 [(1, Fact.cell b1 (Con.fr k x)), (2, fI 0), (3, fF), (13, Fact.agg (Con.nn k ((Rt.tp x) / (Rat.den x)))), (14, Fact.agg (Con.nn k ((Rt.tp x) % (Rat.den x)))), (15, fI 0), (4, Fact.cell b4 (Con.raw 1)), (5, Fact.cell b5 (Con.raw 1))] a2 w2 := st2.to (fcs ⟨st2.at_ 1, fcs ⟨st2.at_ 2, fcs ⟨st2.at_ 3, fcs ⟨st2.at_ 13, fcs ⟨st2.at_ 14, fcs ⟨st2.at_ 15, fcs ⟨c4, fcs ⟨c5, fnl⟩⟩⟩⟩⟩⟩⟩⟩)
    clear st2 hbr2 hfr c4 c5
    refine sym_store st 24 4 13 b4 (Con.raw 1) (Con.nn k ((Rt.tp x) / (Rat.den x))) [(1, Fact.cell b1 (Con.fr k x)), (2, fI 0), (3, fF), (14, Fact.agg (Con.nn k ((Rt.tp x) % (Rat.den x)))), (15, fI 0), (4, Fact.cell b4 (Con.nn k ((Rt.tp x) / (Rat.den x)))), (5, Fact.cell b5 (Con.raw 1))] rfl rfl rfl rfl rfl rfl info24 ?_ ?_
    · exact fcs ⟨.inr ⟨rfl, safe_cell _ (by omega)⟩, fcs ⟨.inr ⟨rfl, safe_eq _ _⟩, fcs ⟨.inr ⟨rfl, safe_eq _ _⟩, fcs ⟨.inr ⟨rfl, safe_agg _ _⟩, fcs ⟨.inr ⟨rfl, safe_eq _ _⟩, fcs ⟨.inl rfl, fcs ⟨.inr ⟨rfl, safe_cell _ (by omega)⟩, fnl⟩⟩⟩⟩⟩⟩⟩
    clear st; intro w3 hB hsz3 st
    have hb := hB _ _ hb (by omega) (by omega)
    clear hB
    refine sym_store st 24 5 14 b5 (Con.raw 1) (Con.nn k ((Rt.tp x) % (Rat.den x))) [(1, Fact.cell b1 (Con.fr k x)), (2, fI 0), (3, fF), (15, fI 0), (4, Fact.cell b4 (Con.nn k ((Rt.tp x) / (Rat.den x)))), (5, Fact.cell b5 (Con.nn k ((Rt.tp x) % (Rat.den x))))] rfl rfl rfl rfl rfl rfl info24 ?_ ?_
    · exact fcs ⟨.inr ⟨rfl, safe_cell _ (by omega)⟩, fcs ⟨.inr ⟨rfl, safe_eq _ _⟩, fcs ⟨.inr ⟨rfl, safe_eq _ _⟩, fcs ⟨.inr ⟨rfl, safe_eq _ _⟩, fcs ⟨.inr ⟨rfl, safe_cell _ (by omega)⟩, fcs ⟨.inl rfl, fnl⟩⟩⟩⟩⟩⟩
    clear st; intro w4 hB hsz4 st
    have hb := hB _ _ hb (by omega) (by omega)
    clear hB
    refine sym_op st 6 (fI 0) rfl (Nat.le_of_ble_eq_true rfl) rfl rfl (by kernel_rfl) (ob_copy 15 6 (.inr rfl) rfl (.inl rfl) (by kernel_rfl) rfl) ?_
    clear st; intro a5 w5 hbr st; have hs5 := hbr.size; have hb := up hb hbr; clear hbr
    refine wpList_nil ?_
    refine then_normal ?_
    refine wp_seq ?_
    refine wp_seq ?_
    refine sym_region st [(16, fI 0), (17, fF)] [] 2 (by kernel_rfl) (by kernel_rfl) (by kernel_rfl) (Nat.le_of_ble_eq_true rfl) (by kernel_rfl) rfl rfl ?_ ?_
    · refine fcn (ob_copy 6 16 (.inl rfl) rfl (.inl rfl) (by kernel_rfl) rfl) ?_
      refine fcn (ob_nec 16 17 .i64 33 _ 0 0 false rfl rfl rfl (.inl rfl) (by kernel_rfl) rfl rfl) ?_
      exact fnl
    intro a6 w6 st6 hbr6 hfr
    have hs6 := hbr6.size
    have hb := up hb hbr6
    have st : St 34 [(1, Fact.cell b1 (Con.fr k x)), (2, fI 0), (3, fF), (4, Fact.cell b4 (Con.nn k ((Rt.tp x) / (Rat.den x)))), (5, Fact.cell b5 (Con.nn k ((Rt.tp x) % (Rat.den x)))), (17, fF)] a6 w6 := st6.to (fcs ⟨st6.at_ 1, fcs ⟨st6.at_ 2, fcs ⟨st6.at_ 3, fcs ⟨st6.at_ 4, fcs ⟨st6.at_ 5, fcs ⟨st6.at_ 17, fnl⟩⟩⟩⟩⟩⟩)
    clear st6 hbr6 hfr
    refine wpList_nil ?_
    refine then_normal ?_
    refine wp_cond_false (st.at_ 17) ?_
    refine wp_skip ?_
    refine then_normal ?_
    refine wp_seq ?_
    refine wp_seq ?_
    refine sym_region st [(18, Fact.ptr (Con.bool (Rt.ng x))), (19, fF), (20, fF), (21, Fact.eq undef), (22, Fact.eq undef), (23, Fact.eq undef), (24, fF)] [] 7 (by kernel_rfl) (by kernel_rfl) (by kernel_rfl) (Nat.le_of_ble_eq_true rfl) (by kernel_rfl) rfl rfl ?_ ?_
    · refine fcn (ob_addr 26 0 1 18 0 (Con.fr k x) (Con.bool (Rt.ng x)) rfl rfl (.inl rfl) (by kernel_rfl) points_cell rfl (Con.fr_ng k x) field26_0) ?_
      refine fcn (ob_readb 18 19 (Rt.ng x) false hng rfl rfl (.inl rfl) (by kernel_rfl) points_ptr rfl) ?_
      refine fcn (ob_copy 19 20 (.inl rfl) rfl (.inl rfl) (by kernel_rfl) rfl) ?_
      refine fcn (ob_skip 2 20 21 true rfl rfl (by kernel_rfl) (by decide) rfl rfl rfl) ?_
      refine fcn (ob_skip 2 20 22 true rfl rfl (by kernel_rfl) (by decide) rfl rfl rfl) ?_
      refine fcn (ob_skip 2 20 23 true rfl rfl (by kernel_rfl) (by decide) rfl rfl rfl) ?_
      refine fcn (ob_pick_no 20 23 24 (.bool false) rfl rfl (.inl rfl) (by kernel_rfl) rfl rfl) ?_
      exact fnl
    intro a7 w7 st7 hbr7 hfr
    have hs7 := hbr7.size
    have hb := up hb hbr7
    have st : St 34 [(1, Fact.cell b1 (Con.fr k x)), (2, fI 0), (3, fF), (4, Fact.cell b4 (Con.nn k ((Rt.tp x) / (Rat.den x)))), (24, fF)] a7 w7 := st7.to (fcs ⟨st7.at_ 1, fcs ⟨st7.at_ 2, fcs ⟨st7.at_ 3, fcs ⟨st7.at_ 4, fcs ⟨st7.at_ 24, fnl⟩⟩⟩⟩⟩)
    clear st7 hbr7 hfr
    refine wpList_nil ?_
    refine then_normal ?_
    refine wp_cond_false (st.at_ 24) ?_
    refine wp_skip ?_
    refine then_normal ?_
    refine wp_seq ?_
    have st := st.to (ks' := [(1, Fact.cell b1 (Con.fr k x)), (4, Fact.cell b4 (Con.nn k ((Rt.tp x) / (Rat.den x)))), (24, fF)]) (fcs ⟨st.at_ 1, fcs ⟨st.at_ 4, fcs ⟨st.at_ 24, fnl⟩⟩⟩)
    refine sym_region st [(28, Fact.ptr (Con.bool (Rt.ng x))), (29, fF), (30, Fact.agg (Con.nn k ((Rt.tp x) / (Rat.den x)))), (31, Fact.two (fI (asI (Rt.sg false ((Rt.tp x) / (Rat.den x))))) (Fact.eq (.bool (fitsI (Rt.sg false ((Rt.tp x) / (Rat.den x))))))), (32, fI (asI (Rt.sg false ((Rt.tp x) / (Rat.den x))))), (33, Fact.eq (.bool (fitsI (Rt.sg false ((Rt.tp x) / (Rat.den x)))))), (2, fI (asI (Rt.sg false ((Rt.tp x) / (Rat.den x))))), (3, Fact.eq (.bool (fitsI (Rt.sg false ((Rt.tp x) / (Rat.den x))))))] [] 8 (by kernel_rfl) (by kernel_rfl) (by kernel_rfl) (Nat.le_of_ble_eq_true rfl) (by kernel_rfl) rfl rfl ?_ ?_
    · refine fcn (ob_addr 26 0 1 28 0 (Con.fr k x) (Con.bool (Rt.ng x)) rfl rfl (.inl rfl) (by kernel_rfl) points_cell rfl (Con.fr_ng k x) field26_0) ?_
      refine fcn (ob_readb 28 29 (Rt.ng x) false hng rfl rfl (.inl rfl) (by kernel_rfl) points_ptr rfl) ?_
      refine fcn (ob_read 24 4 30 (Con.nn k ((Rt.tp x) / (Rat.den x))) rfl rfl (.inl rfl) (by kernel_rfl) points_cell rfl row24 info24) ?_
      refine fcn (ob_call2 62 29 30 31 _ rfl rfl (.inl rfl) (by kernel_rfl) (by kernel_rfl) (by kernel_rfl) (q_signed k false ((Rt.tp x) / (Rat.den x)))) ?_
      refine fcn (ob_fst 31 32 (fI (asI (Rt.sg false ((Rt.tp x) / (Rat.den x))))) (Fact.eq (.bool (fitsI (Rt.sg false ((Rt.tp x) / (Rat.den x)))))) rfl rfl (.inl rfl) (by kernel_rfl) rfl rfl) ?_
      refine fcn (ob_snd 31 33 (fI (asI (Rt.sg false ((Rt.tp x) / (Rat.den x))))) (Fact.eq (.bool (fitsI (Rt.sg false ((Rt.tp x) / (Rat.den x)))))) rfl rfl (.inl rfl) (by kernel_rfl) rfl rfl) ?_
      refine fcn (ob_copy 32 2 (.inr rfl) rfl (.inl rfl) (by kernel_rfl) rfl) ?_
      refine fcn (ob_copy 33 3 (.inr rfl) rfl (.inl rfl) (by kernel_rfl) rfl) ?_
      exact fnl
    intro a8 w8 st8 hbr8 hfr
    have hs8 := hbr8.size
    have hb := up hb hbr8
    have st : St 34 [(2, fI (asI (Rt.sg false ((Rt.tp x) / (Rat.den x))))), (3, Fact.eq (.bool (fitsI (Rt.sg false ((Rt.tp x) / (Rat.den x))))))] a8 w8 := st8.to (fcs ⟨st8.at_ 2, fcs ⟨st8.at_ 3, fnl⟩⟩)
    clear st8 hbr8 hfr
    refine wpList_nil ?_
    refine then_normal ?_
    refine wp_ret ?_
    exact sym_ret2 rfl st.defers (resAt_tmp st 2) (resAt_tmp st 3) hb (fun v u h1 h2 => by rw [Rt.floor_pos hng]; exact ⟨v, u, rfl, h1, h2⟩)
  | true =>
  by_cases hr : Rt.tp x % x.den = 0
  · have hd := decide_eq_true hr
    refine sym_calls 34 [(0, Fact.agg (Con.fr k x))] Tryz.func28 rfl rfl (Nat.le_of_ble_eq_true rfl) (fcs ⟨⟨Nat.le_of_ble_eq_true rfl, hv0⟩, fnl⟩) fun a st => ?_
    have hb := Below.refl w.heap.size w
    refine wp_seq ?_
    refine sym_region st [(1, Fact.var' (Con.fr k x)), (2, fI 0), (3, fF)] [1] 3 (by kernel_rfl) (by kernel_rfl) (by kernel_rfl) (Nat.le_of_ble_eq_true rfl) (by kernel_rfl) rfl rfl ?_ ?_
    · refine fcs ⟨obn_box 26 0 1 _ (Con.fr k x) rfl rfl rfl (by kernel_rfl) rfl rfl, ?_⟩
      refine fcn (ob_const (.int .i64 0) 2 (.inr rfl) rfl (.inl rfl) rfl) ?_
      refine fcn (ob_const (.bool false) 3 (.inr rfl) rfl (.inl rfl) rfl) ?_
      exact fnl
    intro a1 w1 st1 hbr1 hfr
    have hs1 := hbr1.size
    have hb := up hb hbr1
    obtain ⟨b1, c1⟩ := (show (Fact.var' (Con.fr k x)).holds _ _ from st1.at_ 1)
    have g1 := hfr.ge (s := 1) rfl c1.1
    have st : St 34 [(1, Fact.cell b1 (Con.fr k x)), (2, fI 0), (3, fF)] a1 w1 := st1.to (fcs ⟨c1, fcs ⟨st1.at_ 2, fcs ⟨st1.at_ 3, fnl⟩⟩⟩)
    clear st1 hbr1 hfr c1
    refine wpList_nil ?_
    refine then_normal ?_
    refine wp_seq ?_
    refine sym_region st [(8, Fact.ptr (Con.nn k (Rt.tp x))), (9, Fact.agg (Con.nn k (Rt.tp x))), (10, Fact.ptr (Con.nn k (Rat.den x))), (11, Fact.agg (Con.nn k (Rat.den x))), (12, Fact.three (Fact.agg (Con.nn k ((Rt.tp x) / (Rat.den x)))) (Fact.agg (Con.nn k ((Rt.tp x) % (Rat.den x)))) (fI 0)), (7, Fact.three (Fact.agg (Con.nn k ((Rt.tp x) / (Rat.den x)))) (Fact.agg (Con.nn k ((Rt.tp x) % (Rat.den x)))) (fI 0)), (13, Fact.agg (Con.nn k ((Rt.tp x) / (Rat.den x)))), (14, Fact.agg (Con.nn k ((Rt.tp x) % (Rat.den x)))), (15, fI 0), (4, Fact.var' (Con.raw 1)), (5, Fact.var' (Con.raw 1))] [4, 5] 11 (by kernel_rfl) (by kernel_rfl) (by kernel_rfl) (Nat.le_of_ble_eq_true rfl) (by kernel_rfl) rfl rfl ?_ ?_
    · refine fcn (ob_addr 26 1 1 8 1 (Con.fr k x) (Con.nn k (Rt.tp x)) rfl rfl (.inl rfl) (by kernel_rfl) points_cell rfl (Con.fr_tp k x) field26_1) ?_
      refine fcn (ob_read 24 8 9 (Con.nn k (Rt.tp x)) rfl rfl (.inl rfl) (by kernel_rfl) points_ptr rfl row24 info24) ?_
      refine fcn (ob_addr 26 2 1 10 2 (Con.fr k x) (Con.nn k (Rat.den x)) rfl rfl (.inl rfl) (by kernel_rfl) points_cell rfl (Con.fr_den k x) field26_2) ?_
      refine fcn (ob_read 24 10 11 (Con.nn k (Rat.den x)) rfl rfl (.inl rfl) (by kernel_rfl) points_ptr rfl row24 info24) ?_
      refine fcn (ob_call2 60 9 11 12 _ rfl rfl (.inl rfl) (by kernel_rfl) (by kernel_rfl) (by kernel_rfl) (n_divMod k k (Rt.tp x) (Rat.den x) x.den_nz (by omega) (by omega))) ?_
      refine fcn (ob_copy 12 7 (.inl rfl) rfl (.inl rfl) (by kernel_rfl) rfl) ?_
      refine fcn (ob_3a 7 13 (Fact.agg (Con.nn k ((Rt.tp x) / (Rat.den x)))) (Fact.agg (Con.nn k ((Rt.tp x) % (Rat.den x)))) (fI 0) rfl rfl (.inl rfl) (by kernel_rfl) rfl rfl) ?_
      refine fcn (ob_3b 7 14 (Fact.agg (Con.nn k ((Rt.tp x) / (Rat.den x)))) (Fact.agg (Con.nn k ((Rt.tp x) % (Rat.den x)))) (fI 0) rfl rfl (.inl rfl) (by kernel_rfl) rfl rfl) ?_
      refine fcn (ob_3c 7 15 (Fact.agg (Con.nn k ((Rt.tp x) / (Rat.den x)))) (Fact.agg (Con.nn k ((Rt.tp x) % (Rat.den x)))) (fI 0) rfl rfl (.inl rfl) (by kernel_rfl) rfl rfl) ?_
      refine fcs ⟨obn_new 24 4 _ [.slice none 0 0] rfl rfl rfl rfl rfl alloc24, ?_⟩
      refine fcs ⟨obn_new 24 5 _ [.slice none 0 0] rfl rfl rfl rfl rfl alloc24, ?_⟩
      exact fnl
    intro a2 w2 st2 hbr2 hfr
    have hs2 := hbr2.size
    have hb := up hb hbr2
    obtain ⟨b4, c4⟩ := (show (Fact.var' (Con.raw 1)).holds _ _ from st2.at_ 4)
    have g4 := hfr.ge (s := 4) rfl c4.1
    obtain ⟨b5, c5⟩ := (show (Fact.var' (Con.raw 1)).holds _ _ from st2.at_ 5)
    have g5 := hfr.ge (s := 5) rfl c5.1
    have ne4_5 := hfr.apart (s := 4) (t := 5) rfl rfl (by decide) c4.1 c5.1
    have st : St 34 [(1, Fact.cell b1 (Con.fr k x)), (2, fI 0), (3, fF), (13, Fact.agg (Con.nn k ((Rt.tp x) / (Rat.den x)))), (14, Fact.agg (Con.nn k ((Rt.tp x) % (Rat.den x)))), (15, fI 0), (4, Fact.cell b4 (Con.raw 1)), (5, Fact.cell b5 (Con.raw 1))] a2 w2 := st2.to (fcs ⟨st2.at_ 1, fcs ⟨st2.at_ 2, fcs ⟨st2.at_ 3, fcs ⟨st2.at_ 13, fcs ⟨st2.at_ 14, fcs ⟨st2.at_ 15, fcs ⟨c4, fcs ⟨c5, fnl⟩⟩⟩⟩⟩⟩⟩⟩)
    clear st2 hbr2 hfr c4 c5
    refine sym_store st 24 4 13 b4 (Con.raw 1) (Con.nn k ((Rt.tp x) / (Rat.den x))) [(1, Fact.cell b1 (Con.fr k x)), (2, fI 0), (3, fF), (14, Fact.agg (Con.nn k ((Rt.tp x) % (Rat.den x)))), (15, fI 0), (4, Fact.cell b4 (Con.nn k ((Rt.tp x) / (Rat.den x)))), (5, Fact.cell b5 (Con.raw 1))] rfl rfl rfl rfl rfl rfl info24 ?_ ?_
    · exact fcs ⟨.inr ⟨rfl, safe_cell _ (by omega)⟩, fcs ⟨.inr ⟨rfl, safe_eq _ _⟩, fcs ⟨.inr ⟨rfl, safe_eq _ _⟩, fcs ⟨.inr ⟨rfl, safe_agg _ _⟩, fcs ⟨.inr ⟨rfl, safe_eq _ _⟩, fcs ⟨.inl rfl, fcs ⟨.inr ⟨rfl, safe_cell _ (by omega)⟩, fnl⟩⟩⟩⟩⟩⟩⟩
    clear st; intro w3 hB hsz3 st
    have hb := hB _ _ hb (by omega) (by omega)
    clear hB
    refine sym_store st 24 5 14 b5 (Con.raw 1) (Con.nn k ((Rt.tp x) % (Rat.den x))) [(1, Fact.cell b1 (Con.fr k x)), (2, fI 0), (3, fF), (15, fI 0), (4, Fact.cell b4 (Con.nn k ((Rt.tp x) / (Rat.den x)))), (5, Fact.cell b5 (Con.nn k ((Rt.tp x) % (Rat.den x))))] rfl rfl rfl rfl rfl rfl info24 ?_ ?_
    · exact fcs ⟨.inr ⟨rfl, safe_cell _ (by omega)⟩, fcs ⟨.inr ⟨rfl, safe_eq _ _⟩, fcs ⟨.inr ⟨rfl, safe_eq _ _⟩, fcs ⟨.inr ⟨rfl, safe_eq _ _⟩, fcs ⟨.inr ⟨rfl, safe_cell _ (by omega)⟩, fcs ⟨.inl rfl, fnl⟩⟩⟩⟩⟩⟩
    clear st; intro w4 hB hsz4 st
    have hb := hB _ _ hb (by omega) (by omega)
    clear hB
    refine sym_op st 6 (fI 0) rfl (Nat.le_of_ble_eq_true rfl) rfl rfl (by kernel_rfl) (ob_copy 15 6 (.inr rfl) rfl (.inl rfl) (by kernel_rfl) rfl) ?_
    clear st; intro a5 w5 hbr st; have hs5 := hbr.size; have hb := up hb hbr; clear hbr
    refine wpList_nil ?_
    refine then_normal ?_
    refine wp_seq ?_
    refine wp_seq ?_
    refine sym_region st [(16, fI 0), (17, fF)] [] 2 (by kernel_rfl) (by kernel_rfl) (by kernel_rfl) (Nat.le_of_ble_eq_true rfl) (by kernel_rfl) rfl rfl ?_ ?_
    · refine fcn (ob_copy 6 16 (.inl rfl) rfl (.inl rfl) (by kernel_rfl) rfl) ?_
      refine fcn (ob_nec 16 17 .i64 33 _ 0 0 false rfl rfl rfl (.inl rfl) (by kernel_rfl) rfl rfl) ?_
      exact fnl
    intro a6 w6 st6 hbr6 hfr
    have hs6 := hbr6.size
    have hb := up hb hbr6
    have st : St 34 [(1, Fact.cell b1 (Con.fr k x)), (2, fI 0), (3, fF), (4, Fact.cell b4 (Con.nn k ((Rt.tp x) / (Rat.den x)))), (5, Fact.cell b5 (Con.nn k ((Rt.tp x) % (Rat.den x)))), (17, fF)] a6 w6 := st6.to (fcs ⟨st6.at_ 1, fcs ⟨st6.at_ 2, fcs ⟨st6.at_ 3, fcs ⟨st6.at_ 4, fcs ⟨st6.at_ 5, fcs ⟨st6.at_ 17, fnl⟩⟩⟩⟩⟩⟩)
    clear st6 hbr6 hfr
    refine wpList_nil ?_
    refine then_normal ?_
    refine wp_cond_false (st.at_ 17) ?_
    refine wp_skip ?_
    refine then_normal ?_
    refine wp_seq ?_
    refine wp_seq ?_
    refine sym_region st [(18, Fact.ptr (Con.bool (Rt.ng x))), (19, fT), (20, fT), (21, Fact.agg (Con.nn k ((Rt.tp x) % (Rat.den x)))), (22, fT), (23, fF), (24, fF)] [] 7 (by kernel_rfl) (by kernel_rfl) (by kernel_rfl) (Nat.le_of_ble_eq_true rfl) (by kernel_rfl) rfl rfl ?_ ?_
    · refine fcn (ob_addr 26 0 1 18 0 (Con.fr k x) (Con.bool (Rt.ng x)) rfl rfl (.inl rfl) (by kernel_rfl) points_cell rfl (Con.fr_ng k x) field26_0) ?_
      refine fcn (ob_readb 18 19 (Rt.ng x) true hng rfl rfl (.inl rfl) (by kernel_rfl) points_ptr rfl) ?_
      refine fcn (ob_copy 19 20 (.inl rfl) rfl (.inl rfl) (by kernel_rfl) rfl) ?_
      refine fcn (ob_read 24 5 21 (Con.nn k ((Rt.tp x) % (Rat.den x))) rfl rfl (.inr ⟨_, _, _, rfl, rfl, by kernel_rfl, by decide, rfl⟩) (by kernel_rfl) points_cell rfl row24 info24) ?_
      refine fcn (ob_call1 48 21 22 _ rfl rfl (.inr ⟨_, _, _, rfl, rfl, by kernel_rfl, by decide, rfl⟩) (by kernel_rfl) (by kernel_rfl) (q_isZero k ((Rt.tp x) % (Rat.den x)) true hd)) ?_
      refine fcn (ob_not 22 23 true false rfl rfl rfl (.inr ⟨_, _, _, rfl, rfl, by kernel_rfl, by decide, rfl⟩) (by kernel_rfl) rfl rfl) ?_
      refine fcn (ob_pick 20 23 24 _ rfl rfl (.inl rfl) (by kernel_rfl) (by kernel_rfl) rfl rfl) ?_
      exact fnl
    intro a7 w7 st7 hbr7 hfr
    have hs7 := hbr7.size
    have hb := up hb hbr7
    have st : St 34 [(1, Fact.cell b1 (Con.fr k x)), (2, fI 0), (3, fF), (4, Fact.cell b4 (Con.nn k ((Rt.tp x) / (Rat.den x)))), (24, fF)] a7 w7 := st7.to (fcs ⟨st7.at_ 1, fcs ⟨st7.at_ 2, fcs ⟨st7.at_ 3, fcs ⟨st7.at_ 4, fcs ⟨st7.at_ 24, fnl⟩⟩⟩⟩⟩)
    clear st7 hbr7 hfr
    refine wpList_nil ?_
    refine then_normal ?_
    refine wp_cond_false (st.at_ 24) ?_
    refine wp_skip ?_
    refine then_normal ?_
    refine wp_seq ?_
    have st := st.to (ks' := [(1, Fact.cell b1 (Con.fr k x)), (4, Fact.cell b4 (Con.nn k ((Rt.tp x) / (Rat.den x)))), (24, fF)]) (fcs ⟨st.at_ 1, fcs ⟨st.at_ 4, fcs ⟨st.at_ 24, fnl⟩⟩⟩)
    refine sym_region st [(28, Fact.ptr (Con.bool (Rt.ng x))), (29, fT), (30, Fact.agg (Con.nn k ((Rt.tp x) / (Rat.den x)))), (31, Fact.two (fI (asI (Rt.sg true ((Rt.tp x) / (Rat.den x))))) (Fact.eq (.bool (fitsI (Rt.sg true ((Rt.tp x) / (Rat.den x))))))), (32, fI (asI (Rt.sg true ((Rt.tp x) / (Rat.den x))))), (33, Fact.eq (.bool (fitsI (Rt.sg true ((Rt.tp x) / (Rat.den x)))))), (2, fI (asI (Rt.sg true ((Rt.tp x) / (Rat.den x))))), (3, Fact.eq (.bool (fitsI (Rt.sg true ((Rt.tp x) / (Rat.den x))))))] [] 8 (by kernel_rfl) (by kernel_rfl) (by kernel_rfl) (Nat.le_of_ble_eq_true rfl) (by kernel_rfl) rfl rfl ?_ ?_
    · refine fcn (ob_addr 26 0 1 28 0 (Con.fr k x) (Con.bool (Rt.ng x)) rfl rfl (.inl rfl) (by kernel_rfl) points_cell rfl (Con.fr_ng k x) field26_0) ?_
      refine fcn (ob_readb 28 29 (Rt.ng x) true hng rfl rfl (.inl rfl) (by kernel_rfl) points_ptr rfl) ?_
      refine fcn (ob_read 24 4 30 (Con.nn k ((Rt.tp x) / (Rat.den x))) rfl rfl (.inl rfl) (by kernel_rfl) points_cell rfl row24 info24) ?_
      refine fcn (ob_call2 62 29 30 31 _ rfl rfl (.inl rfl) (by kernel_rfl) (by kernel_rfl) (by kernel_rfl) (q_signed k true ((Rt.tp x) / (Rat.den x)))) ?_
      refine fcn (ob_fst 31 32 (fI (asI (Rt.sg true ((Rt.tp x) / (Rat.den x))))) (Fact.eq (.bool (fitsI (Rt.sg true ((Rt.tp x) / (Rat.den x)))))) rfl rfl (.inl rfl) (by kernel_rfl) rfl rfl) ?_
      refine fcn (ob_snd 31 33 (fI (asI (Rt.sg true ((Rt.tp x) / (Rat.den x))))) (Fact.eq (.bool (fitsI (Rt.sg true ((Rt.tp x) / (Rat.den x)))))) rfl rfl (.inl rfl) (by kernel_rfl) rfl rfl) ?_
      refine fcn (ob_copy 32 2 (.inr rfl) rfl (.inl rfl) (by kernel_rfl) rfl) ?_
      refine fcn (ob_copy 33 3 (.inr rfl) rfl (.inl rfl) (by kernel_rfl) rfl) ?_
      exact fnl
    intro a8 w8 st8 hbr8 hfr
    have hs8 := hbr8.size
    have hb := up hb hbr8
    have st : St 34 [(2, fI (asI (Rt.sg true ((Rt.tp x) / (Rat.den x))))), (3, Fact.eq (.bool (fitsI (Rt.sg true ((Rt.tp x) / (Rat.den x))))))] a8 w8 := st8.to (fcs ⟨st8.at_ 2, fcs ⟨st8.at_ 3, fnl⟩⟩)
    clear st8 hbr8 hfr
    refine wpList_nil ?_
    refine then_normal ?_
    refine wp_ret ?_
    exact sym_ret2 rfl st.defers (resAt_tmp st 2) (resAt_tmp st 3) hb (fun v u h1 h2 => by rw [Rt.floor_neg0 hng hr]; exact ⟨v, u, rfl, h1, h2⟩)
  · have hd := decide_eq_false hr
    refine sym_calls 34 [(0, Fact.agg (Con.fr k x))] Tryz.func28 rfl rfl (Nat.le_of_ble_eq_true rfl) (fcs ⟨⟨Nat.le_of_ble_eq_true rfl, hv0⟩, fnl⟩) fun a st => ?_
    have hb := Below.refl w.heap.size w
    refine wp_seq ?_
    refine sym_region st [(1, Fact.var' (Con.fr k x)), (2, fI 0), (3, fF)] [1] 3 (by kernel_rfl) (by kernel_rfl) (by kernel_rfl) (Nat.le_of_ble_eq_true rfl) (by kernel_rfl) rfl rfl ?_ ?_
    · refine fcs ⟨obn_box 26 0 1 _ (Con.fr k x) rfl rfl rfl (by kernel_rfl) rfl rfl, ?_⟩
      refine fcn (ob_const (.int .i64 0) 2 (.inr rfl) rfl (.inl rfl) rfl) ?_
      refine fcn (ob_const (.bool false) 3 (.inr rfl) rfl (.inl rfl) rfl) ?_
      exact fnl
    intro a1 w1 st1 hbr1 hfr
    have hs1 := hbr1.size
    have hb := up hb hbr1
    obtain ⟨b1, c1⟩ := (show (Fact.var' (Con.fr k x)).holds _ _ from st1.at_ 1)
    have g1 := hfr.ge (s := 1) rfl c1.1
    have st : St 34 [(1, Fact.cell b1 (Con.fr k x)), (2, fI 0), (3, fF)] a1 w1 := st1.to (fcs ⟨c1, fcs ⟨st1.at_ 2, fcs ⟨st1.at_ 3, fnl⟩⟩⟩)
    clear st1 hbr1 hfr c1
    refine wpList_nil ?_
    refine then_normal ?_
    refine wp_seq ?_
    refine sym_region st [(8, Fact.ptr (Con.nn k (Rt.tp x))), (9, Fact.agg (Con.nn k (Rt.tp x))), (10, Fact.ptr (Con.nn k (Rat.den x))), (11, Fact.agg (Con.nn k (Rat.den x))), (12, Fact.three (Fact.agg (Con.nn k ((Rt.tp x) / (Rat.den x)))) (Fact.agg (Con.nn k ((Rt.tp x) % (Rat.den x)))) (fI 0)), (7, Fact.three (Fact.agg (Con.nn k ((Rt.tp x) / (Rat.den x)))) (Fact.agg (Con.nn k ((Rt.tp x) % (Rat.den x)))) (fI 0)), (13, Fact.agg (Con.nn k ((Rt.tp x) / (Rat.den x)))), (14, Fact.agg (Con.nn k ((Rt.tp x) % (Rat.den x)))), (15, fI 0), (4, Fact.var' (Con.raw 1)), (5, Fact.var' (Con.raw 1))] [4, 5] 11 (by kernel_rfl) (by kernel_rfl) (by kernel_rfl) (Nat.le_of_ble_eq_true rfl) (by kernel_rfl) rfl rfl ?_ ?_
    · refine fcn (ob_addr 26 1 1 8 1 (Con.fr k x) (Con.nn k (Rt.tp x)) rfl rfl (.inl rfl) (by kernel_rfl) points_cell rfl (Con.fr_tp k x) field26_1) ?_
      refine fcn (ob_read 24 8 9 (Con.nn k (Rt.tp x)) rfl rfl (.inl rfl) (by kernel_rfl) points_ptr rfl row24 info24) ?_
      refine fcn (ob_addr 26 2 1 10 2 (Con.fr k x) (Con.nn k (Rat.den x)) rfl rfl (.inl rfl) (by kernel_rfl) points_cell rfl (Con.fr_den k x) field26_2) ?_
      refine fcn (ob_read 24 10 11 (Con.nn k (Rat.den x)) rfl rfl (.inl rfl) (by kernel_rfl) points_ptr rfl row24 info24) ?_
      refine fcn (ob_call2 60 9 11 12 _ rfl rfl (.inl rfl) (by kernel_rfl) (by kernel_rfl) (by kernel_rfl) (n_divMod k k (Rt.tp x) (Rat.den x) x.den_nz (by omega) (by omega))) ?_
      refine fcn (ob_copy 12 7 (.inl rfl) rfl (.inl rfl) (by kernel_rfl) rfl) ?_
      refine fcn (ob_3a 7 13 (Fact.agg (Con.nn k ((Rt.tp x) / (Rat.den x)))) (Fact.agg (Con.nn k ((Rt.tp x) % (Rat.den x)))) (fI 0) rfl rfl (.inl rfl) (by kernel_rfl) rfl rfl) ?_
      refine fcn (ob_3b 7 14 (Fact.agg (Con.nn k ((Rt.tp x) / (Rat.den x)))) (Fact.agg (Con.nn k ((Rt.tp x) % (Rat.den x)))) (fI 0) rfl rfl (.inl rfl) (by kernel_rfl) rfl rfl) ?_
      refine fcn (ob_3c 7 15 (Fact.agg (Con.nn k ((Rt.tp x) / (Rat.den x)))) (Fact.agg (Con.nn k ((Rt.tp x) % (Rat.den x)))) (fI 0) rfl rfl (.inl rfl) (by kernel_rfl) rfl rfl) ?_
      refine fcs ⟨obn_new 24 4 _ [.slice none 0 0] rfl rfl rfl rfl rfl alloc24, ?_⟩
      refine fcs ⟨obn_new 24 5 _ [.slice none 0 0] rfl rfl rfl rfl rfl alloc24, ?_⟩
      exact fnl
    intro a2 w2 st2 hbr2 hfr
    have hs2 := hbr2.size
    have hb := up hb hbr2
    obtain ⟨b4, c4⟩ := (show (Fact.var' (Con.raw 1)).holds _ _ from st2.at_ 4)
    have g4 := hfr.ge (s := 4) rfl c4.1
    obtain ⟨b5, c5⟩ := (show (Fact.var' (Con.raw 1)).holds _ _ from st2.at_ 5)
    have g5 := hfr.ge (s := 5) rfl c5.1
    have ne4_5 := hfr.apart (s := 4) (t := 5) rfl rfl (by decide) c4.1 c5.1
    have st : St 34 [(1, Fact.cell b1 (Con.fr k x)), (2, fI 0), (3, fF), (13, Fact.agg (Con.nn k ((Rt.tp x) / (Rat.den x)))), (14, Fact.agg (Con.nn k ((Rt.tp x) % (Rat.den x)))), (15, fI 0), (4, Fact.cell b4 (Con.raw 1)), (5, Fact.cell b5 (Con.raw 1))] a2 w2 := st2.to (fcs ⟨st2.at_ 1, fcs ⟨st2.at_ 2, fcs ⟨st2.at_ 3, fcs ⟨st2.at_ 13, fcs ⟨st2.at_ 14, fcs ⟨st2.at_ 15, fcs ⟨c4, fcs ⟨c5, fnl⟩⟩⟩⟩⟩⟩⟩⟩)
    clear st2 hbr2 hfr c4 c5
    refine sym_store st 24 4 13 b4 (Con.raw 1) (Con.nn k ((Rt.tp x) / (Rat.den x))) [(1, Fact.cell b1 (Con.fr k x)), (2, fI 0), (3, fF), (14, Fact.agg (Con.nn k ((Rt.tp x) % (Rat.den x)))), (15, fI 0), (4, Fact.cell b4 (Con.nn k ((Rt.tp x) / (Rat.den x)))), (5, Fact.cell b5 (Con.raw 1))] rfl rfl rfl rfl rfl rfl info24 ?_ ?_
    · exact fcs ⟨.inr ⟨rfl, safe_cell _ (by omega)⟩, fcs ⟨.inr ⟨rfl, safe_eq _ _⟩, fcs ⟨.inr ⟨rfl, safe_eq _ _⟩, fcs ⟨.inr ⟨rfl, safe_agg _ _⟩, fcs ⟨.inr ⟨rfl, safe_eq _ _⟩, fcs ⟨.inl rfl, fcs ⟨.inr ⟨rfl, safe_cell _ (by omega)⟩, fnl⟩⟩⟩⟩⟩⟩⟩
    clear st; intro w3 hB hsz3 st
    have hb := hB _ _ hb (by omega) (by omega)
    clear hB
    refine sym_store st 24 5 14 b5 (Con.raw 1) (Con.nn k ((Rt.tp x) % (Rat.den x))) [(1, Fact.cell b1 (Con.fr k x)), (2, fI 0), (3, fF), (15, fI 0), (4, Fact.cell b4 (Con.nn k ((Rt.tp x) / (Rat.den x)))), (5, Fact.cell b5 (Con.nn k ((Rt.tp x) % (Rat.den x))))] rfl rfl rfl rfl rfl rfl info24 ?_ ?_
    · exact fcs ⟨.inr ⟨rfl, safe_cell _ (by omega)⟩, fcs ⟨.inr ⟨rfl, safe_eq _ _⟩, fcs ⟨.inr ⟨rfl, safe_eq _ _⟩, fcs ⟨.inr ⟨rfl, safe_eq _ _⟩, fcs ⟨.inr ⟨rfl, safe_cell _ (by omega)⟩, fcs ⟨.inl rfl, fnl⟩⟩⟩⟩⟩⟩
    clear st; intro w4 hB hsz4 st
    have hb := hB _ _ hb (by omega) (by omega)
    clear hB
    refine sym_op st 6 (fI 0) rfl (Nat.le_of_ble_eq_true rfl) rfl rfl (by kernel_rfl) (ob_copy 15 6 (.inr rfl) rfl (.inl rfl) (by kernel_rfl) rfl) ?_
    clear st; intro a5 w5 hbr st; have hs5 := hbr.size; have hb := up hb hbr; clear hbr
    refine wpList_nil ?_
    refine then_normal ?_
    refine wp_seq ?_
    refine wp_seq ?_
    refine sym_region st [(16, fI 0), (17, fF)] [] 2 (by kernel_rfl) (by kernel_rfl) (by kernel_rfl) (Nat.le_of_ble_eq_true rfl) (by kernel_rfl) rfl rfl ?_ ?_
    · refine fcn (ob_copy 6 16 (.inl rfl) rfl (.inl rfl) (by kernel_rfl) rfl) ?_
      refine fcn (ob_nec 16 17 .i64 33 _ 0 0 false rfl rfl rfl (.inl rfl) (by kernel_rfl) rfl rfl) ?_
      exact fnl
    intro a6 w6 st6 hbr6 hfr
    have hs6 := hbr6.size
    have hb := up hb hbr6
    have st : St 34 [(1, Fact.cell b1 (Con.fr k x)), (2, fI 0), (3, fF), (4, Fact.cell b4 (Con.nn k ((Rt.tp x) / (Rat.den x)))), (5, Fact.cell b5 (Con.nn k ((Rt.tp x) % (Rat.den x)))), (17, fF)] a6 w6 := st6.to (fcs ⟨st6.at_ 1, fcs ⟨st6.at_ 2, fcs ⟨st6.at_ 3, fcs ⟨st6.at_ 4, fcs ⟨st6.at_ 5, fcs ⟨st6.at_ 17, fnl⟩⟩⟩⟩⟩⟩)
    clear st6 hbr6 hfr
    refine wpList_nil ?_
    refine then_normal ?_
    refine wp_cond_false (st.at_ 17) ?_
    refine wp_skip ?_
    refine then_normal ?_
    refine wp_seq ?_
    refine wp_seq ?_
    refine sym_region st [(18, Fact.ptr (Con.bool (Rt.ng x))), (19, fT), (20, fT), (21, Fact.agg (Con.nn k ((Rt.tp x) % (Rat.den x)))), (22, fF), (23, fT), (24, fT)] [] 7 (by kernel_rfl) (by kernel_rfl) (by kernel_rfl) (Nat.le_of_ble_eq_true rfl) (by kernel_rfl) rfl rfl ?_ ?_
    · refine fcn (ob_addr 26 0 1 18 0 (Con.fr k x) (Con.bool (Rt.ng x)) rfl rfl (.inl rfl) (by kernel_rfl) points_cell rfl (Con.fr_ng k x) field26_0) ?_
      refine fcn (ob_readb 18 19 (Rt.ng x) true hng rfl rfl (.inl rfl) (by kernel_rfl) points_ptr rfl) ?_
      refine fcn (ob_copy 19 20 (.inl rfl) rfl (.inl rfl) (by kernel_rfl) rfl) ?_
      refine fcn (ob_read 24 5 21 (Con.nn k ((Rt.tp x) % (Rat.den x))) rfl rfl (.inr ⟨_, _, _, rfl, rfl, by kernel_rfl, by decide, rfl⟩) (by kernel_rfl) points_cell rfl row24 info24) ?_
      refine fcn (ob_call1 48 21 22 _ rfl rfl (.inr ⟨_, _, _, rfl, rfl, by kernel_rfl, by decide, rfl⟩) (by kernel_rfl) (by kernel_rfl) (q_isZero k ((Rt.tp x) % (Rat.den x)) false hd)) ?_
      refine fcn (ob_not 22 23 false true rfl rfl rfl (.inr ⟨_, _, _, rfl, rfl, by kernel_rfl, by decide, rfl⟩) (by kernel_rfl) rfl rfl) ?_
      refine fcn (ob_pick 20 23 24 _ rfl rfl (.inl rfl) (by kernel_rfl) (by kernel_rfl) rfl rfl) ?_
      exact fnl
    intro a7 w7 st7 hbr7 hfr
    have hs7 := hbr7.size
    have hb := up hb hbr7
    have st : St 34 [(1, Fact.cell b1 (Con.fr k x)), (2, fI 0), (3, fF), (4, Fact.cell b4 (Con.nn k ((Rt.tp x) / (Rat.den x)))), (24, fT)] a7 w7 := st7.to (fcs ⟨st7.at_ 1, fcs ⟨st7.at_ 2, fcs ⟨st7.at_ 3, fcs ⟨st7.at_ 4, fcs ⟨st7.at_ 24, fnl⟩⟩⟩⟩⟩)
    clear st7 hbr7 hfr
    refine wpList_nil ?_
    refine then_normal ?_
    refine wp_cond_true (st.at_ 24) ?_
    refine sym_region st [(25, Fact.agg (Con.nn k ((Rt.tp x) / (Rat.den x)))), (26, Fact.agg (Con.nn 1 1)), (27, Fact.agg (Con.nn ((max k 1) + 1) (((Rt.tp x) / (Rat.den x)) + 1)))] [] 3 (by kernel_rfl) (by kernel_rfl) (by kernel_rfl) (Nat.le_of_ble_eq_true rfl) (by kernel_rfl) rfl rfl ?_ ?_
    · refine fcn (ob_read 24 4 25 (Con.nn k ((Rt.tp x) / (Rat.den x))) rfl rfl (.inl rfl) (by kernel_rfl) points_cell rfl row24 info24) ?_
      refine fcn (ob_callc 61 _ 26 _ rfl rfl (.inl rfl) (by kernel_rfl) (n_of 1 1 (by decide) (by unfold Nm.Sz; decide) (by decide))) ?_
      refine fcn (ob_call2 41 25 26 27 _ rfl rfl (.inl rfl) (by kernel_rfl) (by kernel_rfl) (by kernel_rfl) (n_addr k 1 (max k 1) ((Rt.tp x) / (Rat.den x)) 1 (by omega) (by omega) (by omega))) ?_
      exact fnl
    intro a8 w8 st8 hbr8 hfr
    have hs8 := hbr8.size
    have hb := up hb hbr8
    have st : St 34 [(1, Fact.cell b1 (Con.fr k x)), (2, fI 0), (3, fF), (4, Fact.cell b4 (Con.nn k ((Rt.tp x) / (Rat.den x)))), (27, Fact.agg (Con.nn ((max k 1) + 1) (((Rt.tp x) / (Rat.den x)) + 1)))] a8 w8 := st8.to (fcs ⟨st8.at_ 1, fcs ⟨st8.at_ 2, fcs ⟨st8.at_ 3, fcs ⟨st8.at_ 4, fcs ⟨st8.at_ 27, fnl⟩⟩⟩⟩⟩)
    clear st8 hbr8 hfr
    refine sym_store st 24 4 27 b4 (Con.nn k ((Rt.tp x) / (Rat.den x))) (Con.nn ((max k 1) + 1) (((Rt.tp x) / (Rat.den x)) + 1)) [(1, Fact.cell b1 (Con.fr k x)), (2, fI 0), (3, fF), (4, Fact.cell b4 (Con.nn ((max k 1) + 1) (((Rt.tp x) / (Rat.den x)) + 1)))] rfl rfl rfl rfl rfl rfl info24 ?_ ?_
    · exact fcs ⟨.inr ⟨rfl, safe_cell _ (by omega)⟩, fcs ⟨.inr ⟨rfl, safe_eq _ _⟩, fcs ⟨.inr ⟨rfl, safe_eq _ _⟩, fcs ⟨.inl rfl, fnl⟩⟩⟩⟩
    clear st; intro w9 hB hsz9 st
    have hb := hB _ _ hb (by omega) (by omega)
    clear hB
    refine wpList_nil ?_
    refine then_normal ?_
    refine wp_seq ?_
    have st := st.to (ks' := [(1, Fact.cell b1 (Con.fr k x)), (4, Fact.cell b4 (Con.nn ((max k 1) + 1) (((Rt.tp x) / (Rat.den x)) + 1)))]) (fcs ⟨st.at_ 1, fcs ⟨st.at_ 4, fnl⟩⟩)
    refine sym_region st [(28, Fact.ptr (Con.bool (Rt.ng x))), (29, fT), (30, Fact.agg (Con.nn ((max k 1) + 1) (((Rt.tp x) / (Rat.den x)) + 1))), (31, Fact.two (fI (asI (Rt.sg true (((Rt.tp x) / (Rat.den x)) + 1)))) (Fact.eq (.bool (fitsI (Rt.sg true (((Rt.tp x) / (Rat.den x)) + 1)))))), (32, fI (asI (Rt.sg true (((Rt.tp x) / (Rat.den x)) + 1)))), (33, Fact.eq (.bool (fitsI (Rt.sg true (((Rt.tp x) / (Rat.den x)) + 1))))), (2, fI (asI (Rt.sg true (((Rt.tp x) / (Rat.den x)) + 1)))), (3, Fact.eq (.bool (fitsI (Rt.sg true (((Rt.tp x) / (Rat.den x)) + 1)))))] [] 8 (by kernel_rfl) (by kernel_rfl) (by kernel_rfl) (Nat.le_of_ble_eq_true rfl) (by kernel_rfl) rfl rfl ?_ ?_
    · refine fcn (ob_addr 26 0 1 28 0 (Con.fr k x) (Con.bool (Rt.ng x)) rfl rfl (.inl rfl) (by kernel_rfl) points_cell rfl (Con.fr_ng k x) field26_0) ?_
      refine fcn (ob_readb 28 29 (Rt.ng x) true hng rfl rfl (.inl rfl) (by kernel_rfl) points_ptr rfl) ?_
      refine fcn (ob_read 24 4 30 (Con.nn ((max k 1) + 1) (((Rt.tp x) / (Rat.den x)) + 1)) rfl rfl (.inl rfl) (by kernel_rfl) points_cell rfl row24 info24) ?_
      refine fcn (ob_call2 62 29 30 31 _ rfl rfl (.inl rfl) (by kernel_rfl) (by kernel_rfl) (by kernel_rfl) (q_signed ((max k 1) + 1) true (((Rt.tp x) / (Rat.den x)) + 1))) ?_
      refine fcn (ob_fst 31 32 (fI (asI (Rt.sg true (((Rt.tp x) / (Rat.den x)) + 1)))) (Fact.eq (.bool (fitsI (Rt.sg true (((Rt.tp x) / (Rat.den x)) + 1))))) rfl rfl (.inl rfl) (by kernel_rfl) rfl rfl) ?_
      refine fcn (ob_snd 31 33 (fI (asI (Rt.sg true (((Rt.tp x) / (Rat.den x)) + 1)))) (Fact.eq (.bool (fitsI (Rt.sg true (((Rt.tp x) / (Rat.den x)) + 1))))) rfl rfl (.inl rfl) (by kernel_rfl) rfl rfl) ?_
      refine fcn (ob_copy 32 2 (.inr rfl) rfl (.inl rfl) (by kernel_rfl) rfl) ?_
      refine fcn (ob_copy 33 3 (.inr rfl) rfl (.inl rfl) (by kernel_rfl) rfl) ?_
      exact fnl
    intro a10 w10 st10 hbr10 hfr
    have hs10 := hbr10.size
    have hb := up hb hbr10
    have st : St 34 [(2, fI (asI (Rt.sg true (((Rt.tp x) / (Rat.den x)) + 1)))), (3, Fact.eq (.bool (fitsI (Rt.sg true (((Rt.tp x) / (Rat.den x)) + 1)))))] a10 w10 := st10.to (fcs ⟨st10.at_ 2, fcs ⟨st10.at_ 3, fnl⟩⟩)
    clear st10 hbr10 hfr
    refine wpList_nil ?_
    refine then_normal ?_
    refine wp_ret ?_
    exact sym_ret2 rfl st.defers (resAt_tmp st 2) (resAt_tmp st 3) hb (fun v u h1 h2 => by rw [Rt.floor_neg1 hng hr]; exact ⟨v, u, rfl, h1, h2⟩)
end Go.Proofs.YtjfehdkfogdpgaaGreatDoor
namespace Go.Proofs.YtjfehdkfogdpgaaGreatDoor
open Go.RowKit
def ofB (l : List Nat) : ByteArray := ⟨(l.map Nat.toUInt8).toArray⟩
theorem Bt_ofB {l : List Nat} (h : ∀ c ∈ l, c < 256) : Bt (ofB l) = l := by
  unfold Bt ofB
  rw [List.map_map]
  conv => rhs; rw [← List.map_id l]
  refine List.map_congr_left fun c hc => ?_
  have := h c hc
  show (Nat.toUInt8 c).toNat = c
  simp [Nat.toUInt8, UInt8.toNat_ofNat']
  omega
theorem ofB_Bt (s : ByteArray) : ofB (Bt s) = s := Bt_inj (Bt_ofB (Bt_lt s))
theorem ofB_size (l : List Nat) : (ofB l).size = l.length := by simp [ofB, ByteArray.size]
set_option maxRecDepth 100000 in
set_option maxHeartbeats 1000000 in
theorem indexByte_c (s : ByteArray) (w : World) : Calls Tryz.prog 115 #[.string s, .int .u8 47] w fun e w' => e = .returned (.int .i64 (Lib.indexByte s.data.toList 47)) ∧ w = w' := by
  have hx := run_callFunc_extern Tryz.func124 (by kernel_rfl) (by kernel_rfl) (by kernel_rfl) (e := Extern.BytealgIndexByte.indexByte) (by kernel_rfl) #[.string s, .int .u8 47] w
  rw [Lib.run_indexByteString] at hx
  go_enter Tryz.func115, Tryz.ntmps115
  go_wp2
  go_ret
  exact ⟨rfl, rfl⟩
theorem toList_extract (s : ByteArray) : (s.extract 0 1).toList = s.data.toList.take 1 := by
  rw [ByteArray.toList_eq]
  simp [ByteArray.data_extract]
set_option maxHeartbeats 1000000 in
theorem hasPrefix_c (s : ByteArray) (w : World) (hs : s.size ≤ 1000000) : Calls Tryz.prog 104 #[.string s, .string ⟨#[45]⟩] w fun e w' => e = .returned (.bool (s.data.toList.take 1 == [45])) ∧ w = w' := by
  rcases Nat.eq_zero_or_pos s.size with h0 | h0
  · have e0 : (s.data.toList.take 1 == [45]) = false := by
      have : s.data.toList = [] := List.eq_nil_of_length_eq_zero (by rw [Array.length_toList]; exact h0)
      rw [this]; rfl
    have H := Lib.hid e0
    have H0 := Lib.hid h0
    have hlt : ¬ (1 : Int) ≤ (s.size : Int) := by omega
    clear e0 h0
    go_enter Tryz.func104, Tryz.ntmps104
    go_wp2
    go_ret
    exact ⟨ret_bool H.out.symm, rfl⟩
  · have hge : (1 : Int) ≤ (s.size : Int) := by omega
    have H := Lib.hid (toList_extract s)
    go_enter Tryz.func104, Tryz.ntmps104
    go_wp2
    go_ret
    exact ⟨ret_bool (by rw [H.out]), rfl⟩
set_option maxHeartbeats 1000000 in
theorem cutPrefix0_c (s : ByteArray) (w : World) (hs : s.size ≤ 1000000) (b : Bool) (hb : (s.data.toList.take 1 == [45]) = b) : Calls Tryz.prog 88 #[.string s, .string ⟨#[45]⟩] w fun e w' => e = .returned (.tuple #[.string (if b then s.extract 1 s.size else s), .bool b]) ∧ w = w' := by
  cases b with
  | false =>
    have H := Lib.hid hb
    clear hb
    go_enter Tryz.func88, Tryz.ntmps88
    go_wp2_with (refine (hasPrefix_c s w hs).mono ?_; rw [H.out]; rintro e w' ⟨rfl, rfl⟩)
    go_ret2
    exact ⟨rfl, rfl⟩
  | true =>
    have h1 : (1 : Int) ≤ (s.size : Int) := by
      rcases Nat.eq_zero_or_pos s.size with h0 | h0
      · have : s.data.toList = [] := List.eq_nil_of_length_eq_zero (by rw [Array.length_toList]; exact h0)
        rw [this] at hb; cases hb
      · omega
    have H := Lib.hid hb
    clear hb
    go_enter Tryz.func88, Tryz.ntmps88
    go_wp2_with (refine (hasPrefix_c s w hs).mono ?_; rw [H.out]; rintro e w' ⟨rfl, rfl⟩)
    go_ret2
    exact ⟨rfl, rfl⟩
set_option maxHeartbeats 1000000 in
theorem cutPrefix_c (s : ByteArray) (w : World) (hs : s.size ≤ 1000000) (b : Bool) (hb : (s.data.toList.take 1 == [45]) = b) : Calls Tryz.prog 66 #[.string s, .string ⟨#[45]⟩] w fun e w' => e = .returned (.tuple #[.string (if b then s.extract 1 s.size else s), .bool b]) ∧ w = w' := by
  have H := Lib.hid hb
  clear hb
  cases b
  all_goals
    go_enter Tryz.func66, Tryz.ntmps66
    go_wp2_with (refine (cutPrefix0_c s w hs _ H.out).mono ?_; rintro e w' ⟨rfl, rfl⟩)
    go_ret2
    exact ⟨rfl, rfl⟩
set_option maxRecDepth 100000 in
set_option maxHeartbeats 1000000 in
theorem index_c (s : ByteArray) (w : World) : Calls Tryz.prog 105 #[.string s, .string ⟨#[47]⟩] w fun e w' => e = .returned (.int .i64 (Lib.indexByte s.data.toList 47)) ∧ w = w' := by
  by_cases hq : s.toList = [47]
  · have e0 : Lib.indexByte s.data.toList 47 = 0 := by rw [← ByteArray.toList_eq, hq]; rfl
    have H := Lib.hid e0
    have h1 : (([47] : List UInt8) == s.toList) = true := by rw [hq]; rfl
    clear hq e0
    go_enter Tryz.func105, Tryz.ntmps105
    go_wp2
    go_ret
    exact ⟨ret_int (by rw [H.out]), rfl⟩
  · have h1 : (([47] : List UInt8) == s.toList) = false := beq_eq_false_iff_ne.2 fun e => hq e.symm
    clear hq
    go_enter Tryz.func105, Tryz.ntmps105
    go_wp2_with (refine (indexByte_c s w).mono ?_; rintro e w' ⟨rfl, rfl⟩)
    go_ret
    exact ⟨rfl, rfl⟩
def slashAt (s : ByteArray) (i : Int) : Value := if i < 0 then .tuple #[.string s, .string ⟨#[]⟩, .bool false] else .tuple #[.string (s.extract 0 i.toNat), .string (s.extract (i.toNat + 1) s.size), .bool true]
set_option maxRecDepth 100000 in
set_option maxHeartbeats 1000000 in
theorem cut0_c (s : ByteArray) (w : World) (hs : s.size ≤ 1000000) : Calls Tryz.prog 89 #[.string s, .string ⟨#[47]⟩] w fun e w' => e = .returned (slashAt s (Lib.indexByte s.data.toList 47)) ∧ ∃ n, w' = w.drewN n := by
  rcases Int.lt_or_le (Lib.indexByte s.data.toList 47) 0 with h0 | h0
  · have h1 : Lib.indexByte s.data.toList 47 = -1 := by have := Lib.indexByte_ge s.data.toList 47; omega
    have H := Lib.hid h1
    clear h0 h1
    go_enter Tryz.func89, Tryz.ntmps89
    go_wp2_with (refine (index_c s w).mono ?_; rw [H.out]; rintro e w' ⟨rfl, rfl⟩)
    go_ret3
    exact ⟨by rw [H.out]; rfl, 0, rfl⟩
  · obtain ⟨n, hn⟩ : ∃ n : Nat, Lib.indexByte s.data.toList 47 = n := ⟨(Lib.indexByte s.data.toList 47).toNat, by omega⟩
    have hlt : n < s.size := by
      have := (Lib.indexByte_some hn).1
      have h2 := (List.getElem?_eq_some_iff.1 this).1
      rw [Array.length_toList] at h2
      exact h2
    have H := Lib.hid hn
    have hi1 : (n : Int) + 1 ≤ (s.size : Int) := by omega
    have hi2 : (n : Int) ≤ (s.size : Int) := by omega
    have hw1 : IntKind.i64.wrap ((n : Int) + 1) = (n : Int) + 1 := IntWalk.i64_in _ (by omega)
    have hw2 : ((n : Int) + 1).toNat = n + 1 := by omega
    clear hn h0
    go_enter Tryz.func89, Tryz.ntmps89
    go_wp2_with (refine (index_c s w).mono ?_; rw [H.out]; rintro e w' ⟨rfl, rfl⟩)
    go_quiet (fail)
    go_wp2
    go_ret3
    refine ⟨?_, nq, rfl⟩
    rw [H.out]
    show _ = Ending.returned (slashAt s (n : Int))
    unfold slashAt
    rw [if_neg (by omega), Int.toNat_natCast]
    rfl
set_option maxHeartbeats 1000000 in
theorem cut_c (s : ByteArray) (w : World) (hs : s.size ≤ 1000000) : Calls Tryz.prog 67 #[.string s, .string ⟨#[47]⟩] w fun e w' => e = .returned (slashAt s (Lib.indexByte s.data.toList 47)) ∧ ∃ n, w' = w.drewN n := by
  rcases Int.lt_or_le (Lib.indexByte s.data.toList 47) 0 with h0 | h0
  · have h1 : slashAt s (Lib.indexByte s.data.toList 47) = .tuple #[.string s, .string ⟨#[]⟩, .bool false] := if_pos h0
    have H := Lib.hid h1
    clear h1
    go_enter Tryz.func67, Tryz.ntmps67
    go_wp2_with (refine (cut0_c s w hs).mono ?_; rw [H.out]; rintro e w' ⟨rfl, n, rfl⟩)
    go_ret3
    exact ⟨by rw [H.out]; rfl, n, rfl⟩
  · have h1 : slashAt s (Lib.indexByte s.data.toList 47) = .tuple #[.string (s.extract 0 (Lib.indexByte s.data.toList 47).toNat), .string (s.extract ((Lib.indexByte s.data.toList 47).toNat + 1) s.size), .bool true] := if_neg (by omega)
    have H := Lib.hid h1
    clear h1
    go_enter Tryz.func67, Tryz.ntmps67
    go_wp2_with (refine (cut0_c s w hs).mono ?_; rw [H.out]; rintro e w' ⟨rfl, n, rfl⟩)
    go_ret3
    exact ⟨by rw [H.out]; rfl, n, rfl⟩
def Byt (l : List Nat) : Prop := ∀ c ∈ l, c < 256
def bef (l : List Nat) : List Nat := l.takeWhile (fun c => c != 47)
def aft (l : List Nat) : List Nat := (l.dropWhile (fun c => c != 47)).tail
def sls (l : List Nat) : Bool := l.contains 47
def neg45 (l : List Nat) : Bool := l.head? == some 45
def unsg (l : List Nat) : List Nat := if neg45 l then l.tail else l
theorem Byt.of_sub {l m : List Nat} (h : Byt l) (hs : ∀ c ∈ m, c ∈ l) : Byt m := fun c hc => h c (hs c hc)
theorem Byt.unsg {l : List Nat} (h : Byt l) : Byt (unsg l) := h.of_sub fun c hc => by
  unfold Go.Proofs.YtjfehdkfogdpgaaGreatDoor.unsg at hc
  split at hc
  · exact List.mem_of_mem_tail hc
  · exact hc
theorem Byt.bef {l : List Nat} (h : Byt l) : Byt (bef l) := h.of_sub fun _ hc => (List.takeWhile_sublist _).subset hc
theorem Byt.aft {l : List Nat} (h : Byt l) : Byt (aft l) := h.of_sub fun _ hc => (List.dropWhile_sublist _).subset (List.mem_of_mem_tail hc)
theorem data_toNat {l : List Nat} (h : Byt l) : (ofB l).data.toList.map UInt8.toNat = l := Bt_ofB h
theorem take45 {l : List Nat} (h : Byt l) : ((ofB l).data.toList.take 1 == [45]) = neg45 l := by
  have e := data_toNat h
  unfold neg45
  generalize (ofB l).data.toList = m at e
  subst e
  cases m with
  | nil => rfl
  | cons b m =>
    by_cases hb : b = 45
    · subst hb; simp
    · have : b.toNat ≠ 45 := fun e => hb (UInt8.toNat_inj.1 e)
      rw [beq_eq_false_iff_ne.2 (by simpa using hb), beq_eq_false_iff_ne.2 (by simpa using this)]
theorem extract_tail {l : List Nat} (h : Byt l) : (ofB l).extract 1 (ofB l).size = ofB l.tail := by
  refine Bt_inj ?_
  rw [Bt_extract _ _ _ (Nat.le_refl _), Bt_ofB h, Bt_ofB (h.of_sub fun c hc => List.mem_of_mem_tail hc), ofB_size, List.take_length, List.drop_one]
theorem idx_spec (m : List UInt8) : (Lib.indexByte m 47 = -1 → bef (m.map UInt8.toNat) = m.map UInt8.toNat ∧ sls (m.map UInt8.toNat) = false) ∧
    ∀ n : Nat, Lib.indexByte m 47 = n → bef (m.map UInt8.toNat) = (m.map UInt8.toNat).take n ∧ aft (m.map UInt8.toNat) = (m.map UInt8.toNat).drop (n + 1) ∧ sls (m.map UInt8.toNat) = true := by
  induction m with
  | nil => exact ⟨fun _ => ⟨rfl, rfl⟩, fun n h => by simp [Lib.indexByte] at h⟩
  | cons b m ih =>
    unfold Lib.indexByte
    by_cases hb : b = 47
    · subst hb
      refine ⟨fun h => by simp at h, fun n h => ?_⟩
      have : n = 0 := by simpa using h.symm
      subst this
      exact ⟨by simp [bef], by simp [aft], by simp [sls]⟩
    · have hne : b.toNat ≠ 47 := fun e => hb (UInt8.toNat_inj.1 e)
      have hbb : (b == 47) = false := beq_eq_false_iff_ne.2 hb
      have hnb : (b.toNat != 47) = true := bne_iff_ne.2 hne
      rw [hbb]
      simp only [Bool.false_eq_true, if_false, List.map_cons]
      have hbef : bef (b.toNat :: m.map UInt8.toNat) = b.toNat :: bef (m.map UInt8.toNat) := by unfold bef; rw [List.takeWhile_cons, hnb]; rfl
      have haft : aft (b.toNat :: m.map UInt8.toNat) = aft (m.map UInt8.toNat) := by unfold aft; rw [List.dropWhile_cons, hnb]; rfl
      have hsls : sls (b.toNat :: m.map UInt8.toNat) = sls (m.map UInt8.toNat) := by
        unfold sls
        rw [List.contains_cons, show (47 == b.toNat) = false from beq_eq_false_iff_ne.2 (Ne.symm hne), Bool.false_or]
      rw [hbef, haft, hsls]
      by_cases h1 : Lib.indexByte m 47 = -1
      · rw [h1]
        refine ⟨fun _ => ⟨by rw [(ih.1 h1).1], (ih.1 h1).2⟩, fun n h => ?_⟩
        simp at h
      · have hb1 : (Lib.indexByte m 47 == -1) = false := beq_eq_false_iff_ne.2 h1
        rw [hb1]
        have hge := Lib.indexByte_ge m 47
        simp only [Bool.false_eq_true, if_false]
        refine ⟨fun h => by omega, fun n h => ?_⟩
        obtain ⟨k, rfl⟩ : ∃ k, n = k + 1 := ⟨n - 1, by omega⟩
        obtain ⟨i1, i2, i3⟩ := ih.2 k (by omega)
        exact ⟨by rw [i1]; rfl, by rw [i2]; rfl, i3⟩
theorem aft_none {l : List Nat} (h : sls l = false) : aft l = [] := by
  have hall : l.dropWhile (fun c => c != 47) = [] := by
    unfold sls at h
    induction l with
    | nil => rfl
    | cons c l ih =>
      rw [List.contains_cons, Bool.or_eq_false_iff] at h
      have hc : (c != 47) = true := by
        rw [bne_iff_ne]
        rintro rfl
        have := h.1
        rw [beq_self_eq_true] at this
        cases this
      rw [List.dropWhile_cons, hc, if_pos rfl]
      exact ih h.2
  unfold aft
  rw [hall]; rfl
theorem slashAt_ofB {l : List Nat} (h : Byt l) : slashAt (ofB l) (Lib.indexByte (ofB l).data.toList 47) = .tuple #[.string (ofB (bef l)), .string (ofB (aft l)), .bool (sls l)] := by
  have e := data_toNat h
  have hs := idx_spec (ofB l).data.toList
  rw [e] at hs
  unfold slashAt
  rcases Int.lt_or_le (Lib.indexByte (ofB l).data.toList 47) 0 with h0 | h0
  · have h1 : Lib.indexByte (ofB l).data.toList 47 = -1 := by have := Lib.indexByte_ge (ofB l).data.toList 47; omega
    obtain ⟨i1, i2⟩ := hs.1 h1
    rw [if_pos h0, i1, i2, aft_none i2]
    rfl
  · obtain ⟨n, hn⟩ : ∃ n : Nat, Lib.indexByte (ofB l).data.toList 47 = n := ⟨(Lib.indexByte (ofB l).data.toList 47).toNat, by omega⟩
    obtain ⟨i1, i2, i3⟩ := hs.2 n hn
    have hlt : n < (ofB l).size := by
      have := (Lib.indexByte_some hn).1
      have h2 := (List.getElem?_eq_some_iff.1 this).1
      rw [Array.length_toList] at h2
      exact h2
    rw [if_neg (by omega), hn, Int.toNat_natCast, i1, i2, i3]
    have e1 : (ofB l).extract 0 n = ofB (l.take n) := Bt_inj (by rw [Bt_extract _ _ _ (by omega), Bt_ofB h, Bt_ofB (h.of_sub fun c hc => List.mem_of_mem_take hc), List.drop_zero])
    have e2 : (ofB l).extract (n + 1) (ofB l).size = ofB (l.drop (n + 1)) := Bt_inj (by rw [Bt_extract _ _ _ (Nat.le_refl _), Bt_ofB h, Bt_ofB (h.of_sub fun c hc => List.mem_of_mem_drop hc), ofB_size, List.take_length])
    rw [e1, e2]
end Go.Proofs.YtjfehdkfogdpgaaGreatDoor
namespace Go.Proofs.YtjfehdkfogdpgaaGreatDoor
open Go.RowKit
theorem parse_all (s : ByteArray) (w : World) (hs : s.size ≤ 1000000) :
    Calls Tryz.prog 68 #[.string s] w fun e w' => ParseRet s e w' ∧ Below w.heap.size w w' := by
  by_cases h : Nm.chk (Bt s) = 0
  · refine (parse_good s w hs h).mono ?_
    rintro e w' ⟨A, c, rfl, hc, hf, hb⟩
    refine ⟨⟨A, _, c, _, by rw [h]; rfl, hf.num hc (Nm.dig_nat _) ?_, fun h' => absurd h h', fun _ => rfl⟩, hb⟩
    have hall : Nm.alldec (Bt s) ∧ (Bt s).length ≤ 400 := by
      unfold Nm.chk at h
      split at h
      · omega
      · split at h
        · omega
        · split at h
          · omega
          · rename_i h2 h3
            exact ⟨by simpa using h3, by omega⟩
    refine Nat.le_trans (Nm.nat_len (k := 42) (Nat.lt_of_lt_of_le (Nm.dval_lt _ hall.1) ?_)) (by decide)
    exact Nat.le_trans (Nat.pow_le_pow_right (by omega) hall.2) ten_small
  · refine (parse_bad s w hs h).mono ?_
    rintro e w' ⟨rfl, hb⟩
    exact ⟨parse_err rfl h rfl, hb⟩
end Go.Proofs.YtjfehdkfogdpgaaGreatDoor
namespace Go.Proofs.YtjfehdkfogdpgaaGreatDoor
open Go.RowKit
theorem t_cutPrefix (l : List Nat) (h : Byt l) (hs : l.length ≤ 1000000) : ∀ v w, (Fact.eq (.string (ofB l))).holds v w → Calls Tryz.prog 66 #[v, .string ⟨#[45]⟩] w (Ret (Fact.two (Fact.eq (.string (ofB (unsg l)))) (Fact.eq (.bool (neg45 l)))) w) := by
  rintro v w rfl
  refine (cutPrefix_c (ofB l) w (by rw [ofB_size]; exact hs) (neg45 l) (take45 h)).mono fun e w' ⟨he, hw⟩ => ⟨_, he, by subst hw; exact Below.refl _ _, _, _, rfl, ?_, rfl⟩
  show Value.string _ = Value.string _
  unfold unsg
  split
  · rw [extract_tail h]
  · rfl
theorem t_cut (l : List Nat) (h : Byt l) (hs : l.length ≤ 1000000) : ∀ v w, (Fact.eq (.string (ofB l))).holds v w → Calls Tryz.prog 67 #[v, .string ⟨#[47]⟩] w (Ret (Fact.three (Fact.eq (.string (ofB (bef l)))) (Fact.eq (.string (ofB (aft l)))) (Fact.eq (.bool (sls l)))) w) := by
  rintro v w rfl
  refine (cut_c (ofB l) w (by rw [ofB_size]; exact hs)).mono fun e w' ⟨he, n, hw⟩ => ⟨_, he, by subst hw; exact below_drewN (Below.refl _ _) n, _, _, _, slashAt_ofB h, rfl, rfl, rfl⟩
def pv (l : List Nat) : Nat := if Nm.chk l = 0 then Nm.dval l else 0
theorem pv_sz (l : List Nat) : Nm.Sz 42 (pv l) := by
  unfold pv
  split
  · rename_i h
    have hall : Nm.alldec l ∧ l.length ≤ 400 := by
      unfold Nm.chk at h
      split at h
      · cases h
      · split at h
        · cases h
        · split at h
          · cases h
          · rename_i h1 h2 h3
            exact ⟨Classical.byContradiction h3, by omega⟩
    exact Nat.lt_of_lt_of_le (Nat.lt_of_lt_of_le (Nm.dval_lt l hall.1) (Nat.pow_le_pow_right (by omega) hall.2)) ten_small
  · exact sz_zero 42
theorem parseRet {l : List Nat} {e : Ending} {w w' : World} (hl : Byt l) (h : ParseRet (ofB l) e w') (hb : Below w.heap.size w w') : Ret (Fact.two (Fact.nn 42 (pv l)) (fI (Nm.chk l : Int))) w e w' := by
  obtain ⟨A, n, c, zs, he, hn, h1, h2⟩ := h
  rw [Bt_ofB hl] at he h1 h2
  have hz : zs = Nm.nat (pv l) := by
    unfold pv
    by_cases h0 : Nm.chk l = 0
    · rw [if_pos h0]; exact h2 h0
    · rw [if_neg h0, Nm.nat_zero]; exact h1 h0
  subst hz
  obtain rfl := hn.len
  exact ⟨_, he, hb, _, _, rfl, Fact.num_nn ⟨A, c, rfl, hn⟩ (pv_sz l), rfl⟩
theorem n_parse (l : List Nat) (h : Byt l) (hs : l.length ≤ 1000000) : ∀ v w, (Fact.eq (.string (ofB l))).holds v w → Calls Tryz.prog 68 #[v] w (Ret (Fact.two (Fact.nn 42 (pv l)) (fI (Nm.chk l : Int))) w) := by
  rintro v w rfl
  exact (parse_all (ofB l) w (by rw [ofB_size]; exact hs)).mono fun e w' ⟨h1, h2⟩ => parseRet h h1 h2
theorem r_parse (l : List Nat) (h : Byt l) (hs : l.length ≤ 1000000) : ∀ v w, (Fact.eq (.string (ofB l))).holds v w → Calls Tryz.prog 71 #[v] w (Ret (Fact.two (Fact.nn 42 (pv l)) (fI (Nm.chk l : Int))) w) := by
  rintro v w rfl
  exact (refParse_any (ofB l) w (by rw [ofB_size]; exact hs)).mono fun e w' ⟨h1, h2⟩ => parseRet h h1 h2
theorem byt_dec (p : Nat) : Byt (Nm.dec p) := fun c hc => by have := Nm.dec_alldec p c hc; omega
theorem n_format (k p : Nat) : ∀ v w, (Fact.nn k p).holds v w → Calls Tryz.prog 72 #[v] w (Ret (Fact.eq (.string (ofB (Nm.dec p)))) w) := by
  intro v w hv
  obtain ⟨⟨A, c, rfl, hx⟩, _⟩ := Fact.nn_num hv
  exact (format_n hx).mono fun e w' ⟨s, he, hB, hb⟩ => ⟨_, he, hb, by rw [nn_val] at hB; rw [← hB, ofB_Bt]; rfl⟩
theorem r_format (k p : Nat) : ∀ v w, (Fact.nn k p).holds v w → Calls Tryz.prog 73 #[v] w (Ret (Fact.eq (.string (ofB (Nm.dec p)))) w) := by
  intro v w hv
  obtain ⟨⟨A, c, rfl, hx⟩, _⟩ := Fact.nn_num hv
  exact (refFormat_n hx (by rw [nn_val])).mono fun e w' ⟨s, he, hB, hb⟩ => ⟨_, he, hb, by rw [nn_val] at hB; rw [← hB, ofB_Bt]; rfl⟩
theorem ofB_append (l m : List Nat) : ofB l ++ ofB m = ofB (l ++ m) := by
  refine ByteArray.ext ?_
  rw [ByteArray.data_append]
  simp [ofB]
section
variable {ops : Array Oper} {Q : Exit → Act → World → Prop} {F : Nat → Fact} {base : List Nat} {N : Nat} {o : Oper}
theorem ob_call_tc (f : FuncId) (t d : Nat) (c : Value) (tys : Array TypeId) (ho : o.op = .call { callee := .value (.func f), args := #[.tmp t, .const c], argTypes := tys }) (hd : o.dst = some d) (hg : GuardOk ops F base N o) (hk : known ops base o t = true) (hfn : fnOk f = true)
    (hc : ∀ v w, (F t).holds v w → Calls Tryz.prog f #[v, c] w (Ret (F d) w)) : Ob ops Q F base N o :=
  ob_enter hg fun a w hf => ⟨f, #[a.tmps.getD t undef, c], by simpa [execOp, ho, resolve, Act.eval] using run_invoke hfn _ w, (hc _ w (hf t hk)).mono fun e w' ⟨u, he, hb, hr⟩ => ⟨u, he, hb, fun s hs => by
    rw [hd] at hs; injection hs with hs; subst hs; exact hr⟩⟩
theorem ob_call_cc (f : FuncId) (d : Nat) (b c : Value) (tys : Array TypeId) (ho : o.op = .call { callee := .value (.func f), args := #[.const b, .const c], argTypes := tys }) (hd : o.dst = some d) (hg : GuardOk ops F base N o) (hfn : fnOk f = true)
    (hc : ∀ w, Calls Tryz.prog f #[b, c] w (Ret (F d) w)) : Ob ops Q F base N o :=
  ob_enter hg fun a w _ => ⟨f, #[b, c], by simpa [execOp, ho, resolve, Act.eval] using run_invoke hfn _ w, (hc w).mono fun e w' ⟨u, he, hb, hr⟩ => ⟨u, he, hb, fun s hs => by
    rw [hd] at hs; injection hs with hs; subst hs; exact hr⟩⟩
theorem ob_cat (t s d : Nat) (l m : List Nat) (hlen : l.length + m.length ≤ 1000000000) (ho : o.op = .binOp .add 9 (.tmp t) (.tmp s) 9) (hd : o.dst = some d) (hg : GuardOk ops F base N o) (hk : known ops base o t = true) (hk2 : known ops base o s = true) (hv : F t = Fact.eq (.string (ofB l))) (hv2 : F s = Fact.eq (.string (ofB m))) (hF : F d = Fact.eq (.string (ofB (l ++ m)))) : Ob ops Q F base N o :=
  ob_two t s d _ _ _ hd hg hk hk2 hv hv2 hF fun a w h1 h2 => by
    rw [← ofB_append]
    have hz : (ofB l).size + (ofB m).size ≤ 9223372036854775807 := by rw [ofB_size, ofB_size]; omega
    simp [execOp, ho, h1, h2]
    go_simp
theorem ob_catc (t d : Nat) (l m : List Nat) (c : ByteArray) (hcm : c = ofB m) (hlen : l.length + m.length ≤ 1000000000) (ho : o.op = .binOp .add 9 (.tmp t) (.const (.string c)) 9) (hd : o.dst = some d) (hg : GuardOk ops F base N o) (hk : known ops base o t = true) (hv : F t = Fact.eq (.string (ofB l))) (hF : F d = Fact.eq (.string (ofB (l ++ m)))) : Ob ops Q F base N o :=
  ob_one t d _ _ hd hg hk hv hF fun a w h1 => by
    have h3 : a.eval (.const (.string c)) = .string c := rfl
    rw [← ofB_append]
    subst hcm
    have hz : (ofB l).size + (ofB m).size ≤ 9223372036854775807 := by rw [ofB_size, ofB_size]; omega
    simp [execOp, ho, h1, h3]
    go_simp
theorem ob_ccat (t d : Nat) (l m : List Nat) (c : ByteArray) (hcm : c = ofB m) (hlen : l.length + m.length ≤ 1000000000) (ho : o.op = .binOp .add 9 (.const (.string c)) (.tmp t) 9) (hd : o.dst = some d) (hg : GuardOk ops F base N o) (hk : known ops base o t = true) (hv : F t = Fact.eq (.string (ofB l))) (hF : F d = Fact.eq (.string (ofB (m ++ l)))) : Ob ops Q F base N o :=
  ob_one t d _ _ hd hg hk hv hF fun a w h1 => by
    have h3 : a.eval (.const (.string c)) = .string c := rfl
    rw [← ofB_append]
    subst hcm
    have hz : (ofB m).size + (ofB l).size ≤ 9223372036854775807 := by rw [ofB_size, ofB_size]; omega
    simp [execOp, ho, h1, h3]
    go_simp
end
end Go.Proofs.YtjfehdkfogdpgaaGreatDoor
namespace Go.Proofs.YtjfehdkfogdpgaaGreatDoor
open Go.RowKit
theorem take_ofB {l : List Nat} (h : Byt l) (j : Nat) (hj : j ≤ l.length) : (ofB l).extract 0 j = ofB (l.take j) := Bt_inj (by rw [Bt_extract _ _ _ (by rw [ofB_size]; exact hj), Bt_ofB h, Bt_ofB (h.of_sub fun c hc => List.mem_of_mem_take hc), List.drop_zero])
theorem drop_ofB {l : List Nat} (h : Byt l) (j : Nat) : (ofB l).extract j l.length = ofB (l.drop j) := Bt_inj (by rw [Bt_extract _ _ _ (by rw [ofB_size]; exact Nat.le_refl _), Bt_ofB h, Bt_ofB (h.of_sub fun c hc => List.mem_of_mem_drop hc), List.take_length])
theorem ofB_get {l : List Nat} (h : Byt l) (j : Nat) (hj : j < l.length) : ((ofB l)[j]'(by rw [ofB_size]; exact hj)).toNat = l[j] := by
  have e := data_toNat h
  have h1 : ((ofB l).data.toList.map UInt8.toNat)[j]? = l[j]? := by rw [e]
  rw [List.getElem?_map, List.getElem?_eq_getElem hj] at h1
  have h2 : j < (ofB l).data.toList.length := by rw [Array.length_toList]; show j < (ofB l).size; rw [ofB_size]; exact hj
  rw [List.getElem?_eq_getElem h2] at h1
  have h3 : (ofB l).data.toList[j].toNat = l[j] := by simpa using h1
  rw [Array.getElem_toList] at h3
  exact h3
section
variable {ops : Array Oper} {Q : Exit → Act → World → Prop} {F : Nat → Fact} {base : List Nat} {N : Nat} {o : Oper}
theorem ob_strlen (t d : Nat) (l : List Nat) (ho : o.op = .call { callee := .builtin .len, args := #[.tmp t], argTypes := #[9] }) (hd : o.dst = some d) (hg : GuardOk ops F base N o) (hk : known ops base o t = true) (hv : F t = Fact.eq (.string (ofB l))) (hF : F d = fI (l.length : Int)) : Ob ops Q F base N o :=
  ob_one t d _ _ hd hg hk hv hF fun a w h1 => by
    have hlen := run_len_string (P := Tryz.prog) (w := w) 9 o.type (ofB l) (by kernel_rfl)
    simp [execOp, ho, resolve, h1, invoke, builtin, hlen]
    rw [ofB_size]; rfl
theorem ob_strindex (t u d j : Nat) (l : List Nat) (ji : Int) (hji : ji = (j : Int)) (hl : Byt l) (hj : j < l.length) (ho : o.op = .index 9 (.tmp t) (.tmp u)) (hd : o.dst = some d) (hg : GuardOk ops F base N o) (hk : known ops base o t = true) (hk2 : known ops base o u = true) (hv : F t = Fact.eq (.string (ofB l))) (hv2 : F u = fI ji) (hF : F d = Fact.eq (.int .u8 ((l[j] : Nat) : Int))) : Ob ops Q F base N o :=
  ob_two t u d _ _ _ hd hg hk hk2 hv hv2 hF fun a w h1 h2 => by
    subst hji
    have hs : j < (ofB l).size := by rw [ofB_size]; exact hj
    rw [← ofB_get hl j hj]
    simp [execOp, ho, h1, h2]
    go_simp
theorem ob_strindexc (t d : Nat) (l : List Nat) (hl : Byt l) (hj : 0 < l.length) (ho : o.op = .index 9 (.tmp t) (.const (.int .i64 0))) (hd : o.dst = some d) (hg : GuardOk ops F base N o) (hk : known ops base o t = true) (hv : F t = Fact.eq (.string (ofB l))) (hF : F d = Fact.eq (.int .u8 ((l[0] : Nat) : Int))) : Ob ops Q F base N o :=
  ob_one t d _ _ hd hg hk hv hF fun a w h1 => by
    have h3 : a.eval (.const (.int .i64 0)) = .int .i64 0 := rfl
    have hs : 0 < (ofB l).size := by rw [ofB_size]; exact hj
    rw [← ofB_get hl 0 hj]
    simp [execOp, ho, h1, h3]
    go_simp
theorem ob_strto (t u d j : Nat) (l : List Nat) (hl : Byt l) (hj : j ≤ l.length) (hm : l.length ≤ 1000000) (ho : o.op = .slice 9 (.tmp t) none (some (.tmp u)) none) (hd : o.dst = some d) (hg : GuardOk ops F base N o) (hk : known ops base o t = true) (hk2 : known ops base o u = true) (hv : F t = Fact.eq (.string (ofB l))) (hv2 : F u = fI (j : Int)) (hF : F d = Fact.eq (.string (ofB (l.take j)))) : Ob ops Q F base N o :=
  ob_two t u d _ _ _ hd hg hk hk2 hv hv2 hF fun a w h1 h2 => by
    have hs : (j : Int) ≤ ((ofB l).size : Int) := by rw [ofB_size]; omega
    have hs2 : ((ofB l).size : Int) ≤ 1000000 := by rw [ofB_size]; omega
    rw [← take_ofB hl j hj]
    simp [execOp, ho, h1, h2]
    go_simp
theorem ob_strfrom (t u d j : Nat) (l : List Nat) (hl : Byt l) (hj : j ≤ l.length) (hm : l.length ≤ 1000000) (ho : o.op = .slice 9 (.tmp t) (some (.tmp u)) none none) (hd : o.dst = some d) (hg : GuardOk ops F base N o) (hk : known ops base o t = true) (hk2 : known ops base o u = true) (hv : F t = Fact.eq (.string (ofB l))) (hv2 : F u = fI (j : Int)) (hF : F d = Fact.eq (.string (ofB (l.drop j)))) : Ob ops Q F base N o :=
  ob_two t u d _ _ _ hd hg hk hk2 hv hv2 hF fun a w h1 h2 => by
    have hs : (j : Int) ≤ ((ofB l).size : Int) := by rw [ofB_size]; omega
    have hs2 : ((ofB l).size : Int) ≤ 1000000 := by rw [ofB_size]; omega
    rw [← drop_ofB hl j, ← ofB_size l]
    simp [execOp, ho, h1, h2]
    go_simp
theorem ob_strfrom1 (t d : Nat) (l : List Nat) (hl : Byt l) (hj : 1 ≤ l.length) (hm : l.length ≤ 1000000) (ho : o.op = .slice 9 (.tmp t) (some (.const (.int .i64 1))) none none) (hd : o.dst = some d) (hg : GuardOk ops F base N o) (hk : known ops base o t = true) (hv : F t = Fact.eq (.string (ofB l))) (hF : F d = Fact.eq (.string (ofB (l.drop 1)))) : Ob ops Q F base N o :=
  ob_one t d _ _ hd hg hk hv hF fun a w h1 => by
    have h3 : a.eval (.const (.int .i64 1)) = .int .i64 1 := rfl
    have hs : (1 : Int) ≤ ((ofB l).size : Int) := by rw [ofB_size]; omega
    have hs2 : ((ofB l).size : Int) ≤ 1000000 := by rw [ofB_size]; omega
    rw [← drop_ofB hl 1, ← ofB_size l]
    simp [execOp, ho, h1, h3]
    go_simp
end
def NoS (u : List Nat) (j : Nat) : Prop := ∀ i, i < j → u[i]? ≠ some 47
theorem bef_at {u : List Nat} {j : Nat} (hj : j ≤ u.length) (hn : NoS u j) (he : j = u.length ∨ u[j]? = some 47) : bef u = u.take j ∧ aft u = u.drop (j + 1) ∧ sls u = decide (j < u.length) := by
  induction u generalizing j with
  | nil =>
    obtain rfl : j = 0 := by simpa using hj
    exact ⟨rfl, rfl, rfl⟩
  | cons c u ih =>
    cases j with
    | zero =>
      rcases he with he | he
      · simp at he
      · have hc : c = 47 := by simpa using he
        subst hc
        exact ⟨by simp [bef], by simp [aft], by simp [sls]⟩
    | succ j =>
      have hc : c ≠ 47 := fun e => hn 0 (by omega) (by rw [e]; rfl)
      obtain ⟨i1, i2, i3⟩ := ih (j := j) (by simpa using hj) (fun i hi => by have := hn (i + 1) (by omega); simpa using this) (by simpa using he)
      have hnb : (c != 47) = true := bne_iff_ne.2 hc
      refine ⟨?_, ?_, ?_⟩
      · unfold bef at i1 ⊢; rw [List.takeWhile_cons, hnb, if_pos rfl, i1]; rfl
      · unfold aft at i2 ⊢; rw [List.dropWhile_cons, hnb, if_pos rfl, i2]; rfl
      · unfold sls at i3 ⊢
        rw [List.contains_cons, show (47 == c) = false from beq_eq_false_iff_ne.2 (Ne.symm hc), Bool.false_or, i3]
        simp
end Go.Proofs.YtjfehdkfogdpgaaGreatDoor

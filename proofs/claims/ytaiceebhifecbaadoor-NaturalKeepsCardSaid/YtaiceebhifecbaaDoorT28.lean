/-
  Contracts of the reference's Of and Cmp. Conditions: numbers of at most 400 digits.
-/
import Derived.Test.YtaiceebhifecbaaDoorT27
import Derived.Test.YtaiceebhifecbaaDoorT24
namespace Go.Proofs.YtaiceebhifecbaaDoor
open Go.RowKit
theorem go_lss_u64 (b c : Int) (r : Bool) (hr : decide (b < c) = r) (a : Act) (w : World) (t s : Nat) (o : Oper) (ho : o.op = .binOp .lss 33 (.tmp t) (.tmp s) 33) (h1 : a.eval (.tmp t) = .int .u64 b) (h2 : a.eval (.tmp s) = .int .u64 c) :
    (execOp a.eval o).run Tryd.prog w = .ok (.value (.bool r)) w := by
  subst hr
  simp [execOp, ho, h1, h2]
  go_simp
theorem go_gtr_u64 (b c : Int) (r : Bool) (hr : decide (c < b) = r) (a : Act) (w : World) (t s : Nat) (o : Oper) (ho : o.op = .binOp .gtr 33 (.tmp t) (.tmp s) 33) (h1 : a.eval (.tmp t) = .int .u64 b) (h2 : a.eval (.tmp s) = .int .u64 c) :
    (execOp a.eval o).run Tryd.prog w = .ok (.value (.bool r)) w := by
  subst hr
  simp [execOp, ho, h1, h2]
  go_simp
theorem c_digit (xs : List Nat) (j : Nat) : ∀ v u w, (Fact.num xs).holds v w → (Fact.eq (.int .i64 (j : Int))).holds u w → Calls Tryd.prog 41 #[v, u] w (Ret (Fact.eq (.int .u64 (Nm.dg xs j : Int))) w) := by
  rintro v u w ⟨A, c, rfl, h⟩ rfl
  exact (digit_any A xs.length c j xs w h.rd rfl (by have := h.small; omega) h.dig).mono fun e w' ⟨he, hb⟩ => ⟨_, he, hb, rfl⟩
set_option maxHeartbeats 400000 in
theorem refOf_any (n : Nat) (w : World) (hn : n < 18446744073709551616) :
    Calls Tryd.prog 62 #[.int .u64 n] w fun e w' => ∃ A c, e = .returned (nt A (Nm.nat n).length c) ∧ (Nm.nat n).length ≤ c ∧ Fr w.heap.size w' A (Nm.nat n) ∧ Below w.heap.size w w' := by
  have hv : Nm.val [n % 4294967296, n / 4294967296] = n := by simp only [Nm.val]; omega
  have hd : Nm.Dig [n % 4294967296, n / 4294967296] := Nm.Dig.mk (by omega) (Nm.Dig.mk (by omega) Nm.Dig.nil)
  have Hv := Lib.hid hv
  clear hv
  go_enter Tryd.func62, Tryd.ntmps62
  go_wp2_with fail
  have ho := Row.new (w.alloc (Obj.cells #[Value.slice none 0 0] 24)) 35 #[Value.int IntKind.u32 (↑n % 4294967296), Value.int IntKind.u32 (↑n / 4294967296)] [n % 4294967296, n / 4294967296] (by
    intro i hi
    match i, hi with
    | 0, _ => simp
    | 1, _ => simp)
  refine (refTrim_n (n := 2) (.inr ⟨_, _, rfl, by simpa using ho.1⟩) rfl (by omega) hd (by rw [Hv.out])).mono ?_
  rintro e w' ⟨A', c', rfl, hc', hf, hb⟩
  obtain ⟨k1, k2⟩ := seen hb
  have hcell : w'.cell? ⟨w.heap.size, 0, none⟩ = some (.slice none 0 0) := by
    rw [k1 _ _ (by simp; omega)]
    simp [World.cell?_alloc_lt]
  clear hn
  go_wp2
  refine bodyPost_ret (v := nt A' (Nm.nat n).length c') (by simp [results, Tryd.results62, go_sem, hcell]) rfl ⟨_, _, rfl, hc', ?_, ?_⟩
  · exact (hf.mono (by simp; omega)).setCell hcell (by simp)
  · exact (up (two _ _ _) hb).setCell (Nat.le_refl _) _
/-- What is known of a region's slots. -/
def rcmpF (b : Bool) (xs ys : List Nat) (j : Nat) (t : Nat) : Fact := (([(2, Fact.var xs), (3, Fact.var ys), (5, Fact.eq (.int .i64 (j : Int))), (18, Fact.num xs), (19, Fact.eq (.int .i64 (j : Int))), (20, Fact.eq (.int .u64 (Nm.dg xs j : Int))), (21, Fact.num ys), (22, Fact.eq (.int .i64 (j : Int))), (23, Fact.eq (.int .u64 (Nm.dg ys j : Int))), (24, Fact.eq (.bool b))] : List (Nat × Fact)).lookup t).getD Fact.any
/-- What is known of a region's slots. -/
def rcmpG (b : Bool) (xs ys : List Nat) (j : Nat) (t : Nat) : Fact := (([(2, Fact.var xs), (3, Fact.var ys), (5, Fact.eq (.int .i64 (j : Int))), (25, Fact.num xs), (26, Fact.eq (.int .i64 (j : Int))), (27, Fact.eq (.int .u64 (Nm.dg xs j : Int))), (28, Fact.num ys), (29, Fact.eq (.int .i64 (j : Int))), (30, Fact.eq (.int .u64 (Nm.dg ys j : Int))), (31, Fact.eq (.bool b))] : List (Nat × Fact)).lookup t).getD Fact.any
/-- The loop of Cmp: the digits from k on are the same. -/
def CmpRel (b1 b2 : Nat) (A B : Option Addr) (c d : Nat) (xs ys : List Nat) (w : World) (iv : Value) (wr : World) : Prop :=
  ∃ k : Nat, k ≤ 400 ∧ iv = .int .i64 ((k : Int) - 1) ∧ Var wr b1 A xs.length c xs ∧ Var wr b2 B ys.length d ys ∧ Below w.heap.size w wr ∧ Hid (∀ j, k ≤ j → Nm.dg xs j = Nm.dg ys j)
theorem cmpI_lt' {x y : Nat} (h : x < y) : cmpI x y = -1 := by
  rcases cmpI_cases x y with h1 | h1 | h1 <;> omega
theorem cmpI_gt' {x y : Nat} (h : y < x) : cmpI x y = 1 := by
  rcases cmpI_cases x y with h1 | h1 | h1 <;> omega
theorem cmpI_eq' {x y : Nat} (h : x = y) : cmpI x y = 0 := by
  rcases cmpI_cases x y with h1 | h1 | h1 <;> omega
set_option maxRecDepth 100000 in
set_option maxHeartbeats 1000000 in
theorem refCmp_n {w : World} {A B : Option Addr} {n m c d : Nat} {xs ys : List Nat} (hx : Num w A n c xs) (hy : Num w B m d ys) :
    Calls Tryd.prog 17 #[nt A n c, nt B m d] w fun e w' => e = .returned (.int .i64 (cmpI (Nm.val xs) (Nm.val ys))) ∧ Below w.heap.size w w' := by
  obtain rfl := hx.len
  obtain rfl := hy.len
  have s1 := hx.small
  have s2 := hy.small
  have dx := hx.dig
  have dy := hy.dig
  rcases Nat.lt_or_ge xs.length ys.length with hle | hle
  · skip
    go_enter Tryd.func17, Tryd.ntmps17
    go_wp2_with fail
    have vx := Var.new hx
    have vx := vx.below (one _ (Obj.cells #[Value.slice B ys.length d] 24))
    have vy : Var _ (w.heap.size + 1) B ys.length d ys := Var.at_ (hy.below (one _ (Obj.cells #[Value.slice A xs.length c] 24))) (by simp)
    have hb := two w (Obj.cells #[Value.slice A xs.length c] 24) (Obj.cells #[Value.slice B ys.length d] 24)
    clear hx hy
    go_loopw [5] (fun i wr => CmpRel w.heap.size (w.heap.size + 1) A B c d xs ys w i wr) (fun i _ => (intOf i + 1).toNat)
    case atStart =>
      refine ⟨max xs.length ys.length, by omega, by congr 1; omega, vx, vy, hb, fun j hj => ?_⟩
      rw [Nm.dg_out (by omega), Nm.dg_out (by omega)]
    case round =>
      obtain ⟨k, hk, rfl, vx, vy, hb, heq⟩ := hrel
      rcases Nat.eq_zero_or_pos k with h0 | h0
      · subst h0
        have hfin : cmpI (Nm.val xs) (Nm.val ys) = 0 := cmpI_eq' (Nm.val_ext 400 xs ys (by omega) (by omega) fun j => heq.out j (Nat.zero_le _))
        have Hf := Lib.hid hfin
        clear hfin
        go_wp2_with fail
        go_ret
        exact ⟨ret_int Hf.out.symm, hb⟩
      · obtain ⟨j, rfl⟩ : ∃ j, k = j + 1 := ⟨k - 1, by omega⟩
        have hji : ((j + 1 : Nat) : Int) - 1 = (j : Int) := by omega
        rw [hji]
        go_wp2_with fail
        by_cases h1 : Nm.dg xs j < Nm.dg ys j
        · have hfin : cmpI (Nm.val xs) (Nm.val ys) = -1 := cmpI_lt' (Nm.lt_of_dg j xs ys dx dy (fun i hi => heq.out i (by omega)) h1)
          have Hf := Lib.hid hfin
          clear hfin
          refine wp_region_on (by kernel_rfl) (rcmpF true xs ys j) [2, 3, 5] 32 [18, 19, 20, 21, 22, 23, 24] rfl (by kernel_rfl) (by kernel_rfl) ?_ ?_ ?_
          · intro t ht
            simp only [List.mem_cons, List.not_mem_nil, or_false] at ht
            rcases ht with rfl | rfl | rfl
            · exact ⟨_, _, _, rfl, vx⟩
            · exact ⟨_, _, _, rfl, vy⟩
            · rfl
          · refine List.forall_mem_cons.2 ⟨ob_load 2 18 xs rfl rfl (by first | exact .inl rfl | exact .inr ⟨_, _, _, rfl, rfl, by kernel_rfl, by decide, rfl⟩) (by kernel_rfl) rfl rfl, ?_⟩
            refine List.forall_mem_cons.2 ⟨ob_copy 5 19 (.inl rfl) rfl (by first | exact .inl rfl | exact .inr ⟨_, _, _, rfl, rfl, by kernel_rfl, by decide, rfl⟩) (by kernel_rfl) rfl, ?_⟩
            refine List.forall_mem_cons.2 ⟨ob_call2 41 18 19 20 _ rfl rfl (by first | exact .inl rfl | exact .inr ⟨_, _, _, rfl, rfl, by kernel_rfl, by decide, rfl⟩) (by kernel_rfl) (by kernel_rfl) (by kernel_rfl) (c_digit xs j), ?_⟩
            refine List.forall_mem_cons.2 ⟨ob_load 3 21 ys rfl rfl (by first | exact .inl rfl | exact .inr ⟨_, _, _, rfl, rfl, by kernel_rfl, by decide, rfl⟩) (by kernel_rfl) rfl rfl, ?_⟩
            refine List.forall_mem_cons.2 ⟨ob_copy 5 22 (.inl rfl) rfl (by first | exact .inl rfl | exact .inr ⟨_, _, _, rfl, rfl, by kernel_rfl, by decide, rfl⟩) (by kernel_rfl) rfl, ?_⟩
            refine List.forall_mem_cons.2 ⟨ob_call2 41 21 22 23 _ rfl rfl (by first | exact .inl rfl | exact .inr ⟨_, _, _, rfl, rfl, by kernel_rfl, by decide, rfl⟩) (by kernel_rfl) (by kernel_rfl) (by kernel_rfl) (c_digit ys j), ?_⟩
            refine List.forall_mem_cons.2 ⟨ob_two 20 23 24 _ _ _ rfl (by first | exact .inl rfl | exact .inr ⟨_, _, _, rfl, rfl, by kernel_rfl, by decide, rfl⟩) (by kernel_rfl) (by kernel_rfl) rfl rfl rfl (fun a w h1 h2 => go_lss_u64 _ _ true (decide_eq_true (by omega)) a w 20 23 _ rfl h1 h2), ?_⟩
            exact fun _ h => absurd h List.not_mem_nil
          intro vv wv hvv hbv
          have hv24 : vv 24 = .bool true := hvv 24 (by decide)
          simp only [lay, List.foldl_cons, List.foldl_nil, List.setIfInBounds_toArray, List.set_cons_succ, List.set_cons_zero, hv24]
          have hb := up hb hbv
          go_wp2_with fail
          go_ret
          exact ⟨ret_int Hf.out.symm, hb⟩
        · by_cases h2 : Nm.dg ys j < Nm.dg xs j
          · have hfin : cmpI (Nm.val xs) (Nm.val ys) = 1 := cmpI_gt' (Nm.lt_of_dg j ys xs dy dx (fun i hi => (heq.out i (by omega)).symm) h2)
            have Hf := Lib.hid hfin
            clear hfin
            refine wp_region_on (by kernel_rfl) (rcmpF false xs ys j) [2, 3, 5] 32 [18, 19, 20, 21, 22, 23, 24] rfl (by kernel_rfl) (by kernel_rfl) ?_ ?_ ?_
            · intro t ht
              simp only [List.mem_cons, List.not_mem_nil, or_false] at ht
              rcases ht with rfl | rfl | rfl
              · exact ⟨_, _, _, rfl, vx⟩
              · exact ⟨_, _, _, rfl, vy⟩
              · rfl
            · refine List.forall_mem_cons.2 ⟨ob_load 2 18 xs rfl rfl (by first | exact .inl rfl | exact .inr ⟨_, _, _, rfl, rfl, by kernel_rfl, by decide, rfl⟩) (by kernel_rfl) rfl rfl, ?_⟩
              refine List.forall_mem_cons.2 ⟨ob_copy 5 19 (.inl rfl) rfl (by first | exact .inl rfl | exact .inr ⟨_, _, _, rfl, rfl, by kernel_rfl, by decide, rfl⟩) (by kernel_rfl) rfl, ?_⟩
              refine List.forall_mem_cons.2 ⟨ob_call2 41 18 19 20 _ rfl rfl (by first | exact .inl rfl | exact .inr ⟨_, _, _, rfl, rfl, by kernel_rfl, by decide, rfl⟩) (by kernel_rfl) (by kernel_rfl) (by kernel_rfl) (c_digit xs j), ?_⟩
              refine List.forall_mem_cons.2 ⟨ob_load 3 21 ys rfl rfl (by first | exact .inl rfl | exact .inr ⟨_, _, _, rfl, rfl, by kernel_rfl, by decide, rfl⟩) (by kernel_rfl) rfl rfl, ?_⟩
              refine List.forall_mem_cons.2 ⟨ob_copy 5 22 (.inl rfl) rfl (by first | exact .inl rfl | exact .inr ⟨_, _, _, rfl, rfl, by kernel_rfl, by decide, rfl⟩) (by kernel_rfl) rfl, ?_⟩
              refine List.forall_mem_cons.2 ⟨ob_call2 41 21 22 23 _ rfl rfl (by first | exact .inl rfl | exact .inr ⟨_, _, _, rfl, rfl, by kernel_rfl, by decide, rfl⟩) (by kernel_rfl) (by kernel_rfl) (by kernel_rfl) (c_digit ys j), ?_⟩
              refine List.forall_mem_cons.2 ⟨ob_two 20 23 24 _ _ _ rfl (by first | exact .inl rfl | exact .inr ⟨_, _, _, rfl, rfl, by kernel_rfl, by decide, rfl⟩) (by kernel_rfl) (by kernel_rfl) rfl rfl rfl (fun a w h1 h2 => go_lss_u64 _ _ false (decide_eq_false (by omega)) a w 20 23 _ rfl h1 h2), ?_⟩
              exact fun _ h => absurd h List.not_mem_nil
            intro vv wv hvv hbv
            have hv24 : vv 24 = .bool false := hvv 24 (by decide)
            simp only [lay, List.foldl_cons, List.foldl_nil, List.setIfInBounds_toArray, List.set_cons_succ, List.set_cons_zero, hv24]
            have hb := up hb hbv
            have vx := vx.below hbv
            have vy := vy.below hbv
            clear hbv hvv
            go_wp2_with fail
            refine wp_region_on (by kernel_rfl) (rcmpG true xs ys j) [2, 3, 5] 32 [25, 26, 27, 28, 29, 30, 31] rfl (by kernel_rfl) (by kernel_rfl) ?_ ?_ ?_
            · intro t ht
              simp only [List.mem_cons, List.not_mem_nil, or_false] at ht
              rcases ht with rfl | rfl | rfl
              · exact ⟨_, _, _, rfl, vx⟩
              · exact ⟨_, _, _, rfl, vy⟩
              · rfl
            · refine List.forall_mem_cons.2 ⟨ob_load 2 25 xs rfl rfl (by first | exact .inl rfl | exact .inr ⟨_, _, _, rfl, rfl, by kernel_rfl, by decide, rfl⟩) (by kernel_rfl) rfl rfl, ?_⟩
              refine List.forall_mem_cons.2 ⟨ob_copy 5 26 (.inl rfl) rfl (by first | exact .inl rfl | exact .inr ⟨_, _, _, rfl, rfl, by kernel_rfl, by decide, rfl⟩) (by kernel_rfl) rfl, ?_⟩
              refine List.forall_mem_cons.2 ⟨ob_call2 41 25 26 27 _ rfl rfl (by first | exact .inl rfl | exact .inr ⟨_, _, _, rfl, rfl, by kernel_rfl, by decide, rfl⟩) (by kernel_rfl) (by kernel_rfl) (by kernel_rfl) (c_digit xs j), ?_⟩
              refine List.forall_mem_cons.2 ⟨ob_load 3 28 ys rfl rfl (by first | exact .inl rfl | exact .inr ⟨_, _, _, rfl, rfl, by kernel_rfl, by decide, rfl⟩) (by kernel_rfl) rfl rfl, ?_⟩
              refine List.forall_mem_cons.2 ⟨ob_copy 5 29 (.inl rfl) rfl (by first | exact .inl rfl | exact .inr ⟨_, _, _, rfl, rfl, by kernel_rfl, by decide, rfl⟩) (by kernel_rfl) rfl, ?_⟩
              refine List.forall_mem_cons.2 ⟨ob_call2 41 28 29 30 _ rfl rfl (by first | exact .inl rfl | exact .inr ⟨_, _, _, rfl, rfl, by kernel_rfl, by decide, rfl⟩) (by kernel_rfl) (by kernel_rfl) (by kernel_rfl) (c_digit ys j), ?_⟩
              refine List.forall_mem_cons.2 ⟨ob_two 27 30 31 _ _ _ rfl (by first | exact .inl rfl | exact .inr ⟨_, _, _, rfl, rfl, by kernel_rfl, by decide, rfl⟩) (by kernel_rfl) (by kernel_rfl) rfl rfl rfl (fun a w h1 h2 => go_gtr_u64 _ _ true (decide_eq_true (by omega)) a w 27 30 _ rfl h1 h2), ?_⟩
              exact fun _ h => absurd h List.not_mem_nil
            intro vv wv hvv hbv
            have hv31 : vv 31 = .bool true := hvv 31 (by decide)
            simp only [lay, List.foldl_cons, List.foldl_nil, List.setIfInBounds_toArray, List.set_cons_succ, List.set_cons_zero, hv31]
            have hb := up hb hbv
            go_wp2_with fail
            go_ret
            exact ⟨ret_int Hf.out.symm, hb⟩
          · have heq' : ∀ i, j ≤ i → Nm.dg xs i = Nm.dg ys i := fun i hi => by
              rcases Nat.lt_or_ge j i with h3 | h3
              · exact heq.out i h3
              · rw [show i = j from by omega]; omega
            have Hq := Lib.hid heq'
            clear heq heq'
            refine wp_region_on (by kernel_rfl) (rcmpF false xs ys j) [2, 3, 5] 32 [18, 19, 20, 21, 22, 23, 24] rfl (by kernel_rfl) (by kernel_rfl) ?_ ?_ ?_
            · intro t ht
              simp only [List.mem_cons, List.not_mem_nil, or_false] at ht
              rcases ht with rfl | rfl | rfl
              · exact ⟨_, _, _, rfl, vx⟩
              · exact ⟨_, _, _, rfl, vy⟩
              · rfl
            · refine List.forall_mem_cons.2 ⟨ob_load 2 18 xs rfl rfl (by first | exact .inl rfl | exact .inr ⟨_, _, _, rfl, rfl, by kernel_rfl, by decide, rfl⟩) (by kernel_rfl) rfl rfl, ?_⟩
              refine List.forall_mem_cons.2 ⟨ob_copy 5 19 (.inl rfl) rfl (by first | exact .inl rfl | exact .inr ⟨_, _, _, rfl, rfl, by kernel_rfl, by decide, rfl⟩) (by kernel_rfl) rfl, ?_⟩
              refine List.forall_mem_cons.2 ⟨ob_call2 41 18 19 20 _ rfl rfl (by first | exact .inl rfl | exact .inr ⟨_, _, _, rfl, rfl, by kernel_rfl, by decide, rfl⟩) (by kernel_rfl) (by kernel_rfl) (by kernel_rfl) (c_digit xs j), ?_⟩
              refine List.forall_mem_cons.2 ⟨ob_load 3 21 ys rfl rfl (by first | exact .inl rfl | exact .inr ⟨_, _, _, rfl, rfl, by kernel_rfl, by decide, rfl⟩) (by kernel_rfl) rfl rfl, ?_⟩
              refine List.forall_mem_cons.2 ⟨ob_copy 5 22 (.inl rfl) rfl (by first | exact .inl rfl | exact .inr ⟨_, _, _, rfl, rfl, by kernel_rfl, by decide, rfl⟩) (by kernel_rfl) rfl, ?_⟩
              refine List.forall_mem_cons.2 ⟨ob_call2 41 21 22 23 _ rfl rfl (by first | exact .inl rfl | exact .inr ⟨_, _, _, rfl, rfl, by kernel_rfl, by decide, rfl⟩) (by kernel_rfl) (by kernel_rfl) (by kernel_rfl) (c_digit ys j), ?_⟩
              refine List.forall_mem_cons.2 ⟨ob_two 20 23 24 _ _ _ rfl (by first | exact .inl rfl | exact .inr ⟨_, _, _, rfl, rfl, by kernel_rfl, by decide, rfl⟩) (by kernel_rfl) (by kernel_rfl) rfl rfl rfl (fun a w h1 h2 => go_lss_u64 _ _ false (decide_eq_false (by omega)) a w 20 23 _ rfl h1 h2), ?_⟩
              exact fun _ h => absurd h List.not_mem_nil
            intro vv wv hvv hbv
            have hv24 : vv 24 = .bool false := hvv 24 (by decide)
            simp only [lay, List.foldl_cons, List.foldl_nil, List.setIfInBounds_toArray, List.set_cons_succ, List.set_cons_zero, hv24]
            have hb := up hb hbv
            have vx := vx.below hbv
            have vy := vy.below hbv
            clear hbv hvv
            go_wp2_with fail
            refine wp_region_on (by kernel_rfl) (rcmpG false xs ys j) [2, 3, 5] 32 [25, 26, 27, 28, 29, 30, 31] rfl (by kernel_rfl) (by kernel_rfl) ?_ ?_ ?_
            · intro t ht
              simp only [List.mem_cons, List.not_mem_nil, or_false] at ht
              rcases ht with rfl | rfl | rfl
              · exact ⟨_, _, _, rfl, vx⟩
              · exact ⟨_, _, _, rfl, vy⟩
              · rfl
            · refine List.forall_mem_cons.2 ⟨ob_load 2 25 xs rfl rfl (by first | exact .inl rfl | exact .inr ⟨_, _, _, rfl, rfl, by kernel_rfl, by decide, rfl⟩) (by kernel_rfl) rfl rfl, ?_⟩
              refine List.forall_mem_cons.2 ⟨ob_copy 5 26 (.inl rfl) rfl (by first | exact .inl rfl | exact .inr ⟨_, _, _, rfl, rfl, by kernel_rfl, by decide, rfl⟩) (by kernel_rfl) rfl, ?_⟩
              refine List.forall_mem_cons.2 ⟨ob_call2 41 25 26 27 _ rfl rfl (by first | exact .inl rfl | exact .inr ⟨_, _, _, rfl, rfl, by kernel_rfl, by decide, rfl⟩) (by kernel_rfl) (by kernel_rfl) (by kernel_rfl) (c_digit xs j), ?_⟩
              refine List.forall_mem_cons.2 ⟨ob_load 3 28 ys rfl rfl (by first | exact .inl rfl | exact .inr ⟨_, _, _, rfl, rfl, by kernel_rfl, by decide, rfl⟩) (by kernel_rfl) rfl rfl, ?_⟩
              refine List.forall_mem_cons.2 ⟨ob_copy 5 29 (.inl rfl) rfl (by first | exact .inl rfl | exact .inr ⟨_, _, _, rfl, rfl, by kernel_rfl, by decide, rfl⟩) (by kernel_rfl) rfl, ?_⟩
              refine List.forall_mem_cons.2 ⟨ob_call2 41 28 29 30 _ rfl rfl (by first | exact .inl rfl | exact .inr ⟨_, _, _, rfl, rfl, by kernel_rfl, by decide, rfl⟩) (by kernel_rfl) (by kernel_rfl) (by kernel_rfl) (c_digit ys j), ?_⟩
              refine List.forall_mem_cons.2 ⟨ob_two 27 30 31 _ _ _ rfl (by first | exact .inl rfl | exact .inr ⟨_, _, _, rfl, rfl, by kernel_rfl, by decide, rfl⟩) (by kernel_rfl) (by kernel_rfl) rfl rfl rfl (fun a w h1 h2 => go_gtr_u64 _ _ false (decide_eq_false (by omega)) a w 27 30 _ rfl h1 h2), ?_⟩
              exact fun _ h => absurd h List.not_mem_nil
            intro vv wv hvv hbv
            have hv31 : vv 31 = .bool false := hvv 31 (by decide)
            simp only [lay, List.foldl_cons, List.foldl_nil, List.setIfInBounds_toArray, List.set_cons_succ, List.set_cons_zero, hv31]
            have hb := up hb hbv
            have vx := vx.below hbv
            have vy := vy.below hbv
            clear hbv hvv
            go_wp2_with fail
            exact ⟨⟨j, by omega, rfl, vx, vy, hb, Hq⟩, by simp [intOf]⟩
  · skip
    go_enter Tryd.func17, Tryd.ntmps17
    go_wp2_with fail
    have vx := Var.new hx
    have vx := vx.below (one _ (Obj.cells #[Value.slice B ys.length d] 24))
    have vy : Var _ (w.heap.size + 1) B ys.length d ys := Var.at_ (hy.below (one _ (Obj.cells #[Value.slice A xs.length c] 24))) (by simp)
    have hb := two w (Obj.cells #[Value.slice A xs.length c] 24) (Obj.cells #[Value.slice B ys.length d] 24)
    clear hx hy
    go_loopw [5] (fun i wr => CmpRel w.heap.size (w.heap.size + 1) A B c d xs ys w i wr) (fun i _ => (intOf i + 1).toNat)
    case atStart =>
      refine ⟨max xs.length ys.length, by omega, by congr 1; omega, vx, vy, hb, fun j hj => ?_⟩
      rw [Nm.dg_out (by omega), Nm.dg_out (by omega)]
    case round =>
      obtain ⟨k, hk, rfl, vx, vy, hb, heq⟩ := hrel
      rcases Nat.eq_zero_or_pos k with h0 | h0
      · subst h0
        have hfin : cmpI (Nm.val xs) (Nm.val ys) = 0 := cmpI_eq' (Nm.val_ext 400 xs ys (by omega) (by omega) fun j => heq.out j (Nat.zero_le _))
        have Hf := Lib.hid hfin
        clear hfin
        go_wp2_with fail
        go_ret
        exact ⟨ret_int Hf.out.symm, hb⟩
      · obtain ⟨j, rfl⟩ : ∃ j, k = j + 1 := ⟨k - 1, by omega⟩
        have hji : ((j + 1 : Nat) : Int) - 1 = (j : Int) := by omega
        rw [hji]
        go_wp2_with fail
        by_cases h1 : Nm.dg xs j < Nm.dg ys j
        · have hfin : cmpI (Nm.val xs) (Nm.val ys) = -1 := cmpI_lt' (Nm.lt_of_dg j xs ys dx dy (fun i hi => heq.out i (by omega)) h1)
          have Hf := Lib.hid hfin
          clear hfin
          refine wp_region_on (by kernel_rfl) (rcmpF true xs ys j) [2, 3, 5] 32 [18, 19, 20, 21, 22, 23, 24] rfl (by kernel_rfl) (by kernel_rfl) ?_ ?_ ?_
          · intro t ht
            simp only [List.mem_cons, List.not_mem_nil, or_false] at ht
            rcases ht with rfl | rfl | rfl
            · exact ⟨_, _, _, rfl, vx⟩
            · exact ⟨_, _, _, rfl, vy⟩
            · rfl
          · refine List.forall_mem_cons.2 ⟨ob_load 2 18 xs rfl rfl (by first | exact .inl rfl | exact .inr ⟨_, _, _, rfl, rfl, by kernel_rfl, by decide, rfl⟩) (by kernel_rfl) rfl rfl, ?_⟩
            refine List.forall_mem_cons.2 ⟨ob_copy 5 19 (.inl rfl) rfl (by first | exact .inl rfl | exact .inr ⟨_, _, _, rfl, rfl, by kernel_rfl, by decide, rfl⟩) (by kernel_rfl) rfl, ?_⟩
            refine List.forall_mem_cons.2 ⟨ob_call2 41 18 19 20 _ rfl rfl (by first | exact .inl rfl | exact .inr ⟨_, _, _, rfl, rfl, by kernel_rfl, by decide, rfl⟩) (by kernel_rfl) (by kernel_rfl) (by kernel_rfl) (c_digit xs j), ?_⟩
            refine List.forall_mem_cons.2 ⟨ob_load 3 21 ys rfl rfl (by first | exact .inl rfl | exact .inr ⟨_, _, _, rfl, rfl, by kernel_rfl, by decide, rfl⟩) (by kernel_rfl) rfl rfl, ?_⟩
            refine List.forall_mem_cons.2 ⟨ob_copy 5 22 (.inl rfl) rfl (by first | exact .inl rfl | exact .inr ⟨_, _, _, rfl, rfl, by kernel_rfl, by decide, rfl⟩) (by kernel_rfl) rfl, ?_⟩
            refine List.forall_mem_cons.2 ⟨ob_call2 41 21 22 23 _ rfl rfl (by first | exact .inl rfl | exact .inr ⟨_, _, _, rfl, rfl, by kernel_rfl, by decide, rfl⟩) (by kernel_rfl) (by kernel_rfl) (by kernel_rfl) (c_digit ys j), ?_⟩
            refine List.forall_mem_cons.2 ⟨ob_two 20 23 24 _ _ _ rfl (by first | exact .inl rfl | exact .inr ⟨_, _, _, rfl, rfl, by kernel_rfl, by decide, rfl⟩) (by kernel_rfl) (by kernel_rfl) rfl rfl rfl (fun a w h1 h2 => go_lss_u64 _ _ true (decide_eq_true (by omega)) a w 20 23 _ rfl h1 h2), ?_⟩
            exact fun _ h => absurd h List.not_mem_nil
          intro vv wv hvv hbv
          have hv24 : vv 24 = .bool true := hvv 24 (by decide)
          simp only [lay, List.foldl_cons, List.foldl_nil, List.setIfInBounds_toArray, List.set_cons_succ, List.set_cons_zero, hv24]
          have hb := up hb hbv
          go_wp2_with fail
          go_ret
          exact ⟨ret_int Hf.out.symm, hb⟩
        · by_cases h2 : Nm.dg ys j < Nm.dg xs j
          · have hfin : cmpI (Nm.val xs) (Nm.val ys) = 1 := cmpI_gt' (Nm.lt_of_dg j ys xs dy dx (fun i hi => (heq.out i (by omega)).symm) h2)
            have Hf := Lib.hid hfin
            clear hfin
            refine wp_region_on (by kernel_rfl) (rcmpF false xs ys j) [2, 3, 5] 32 [18, 19, 20, 21, 22, 23, 24] rfl (by kernel_rfl) (by kernel_rfl) ?_ ?_ ?_
            · intro t ht
              simp only [List.mem_cons, List.not_mem_nil, or_false] at ht
              rcases ht with rfl | rfl | rfl
              · exact ⟨_, _, _, rfl, vx⟩
              · exact ⟨_, _, _, rfl, vy⟩
              · rfl
            · refine List.forall_mem_cons.2 ⟨ob_load 2 18 xs rfl rfl (by first | exact .inl rfl | exact .inr ⟨_, _, _, rfl, rfl, by kernel_rfl, by decide, rfl⟩) (by kernel_rfl) rfl rfl, ?_⟩
              refine List.forall_mem_cons.2 ⟨ob_copy 5 19 (.inl rfl) rfl (by first | exact .inl rfl | exact .inr ⟨_, _, _, rfl, rfl, by kernel_rfl, by decide, rfl⟩) (by kernel_rfl) rfl, ?_⟩
              refine List.forall_mem_cons.2 ⟨ob_call2 41 18 19 20 _ rfl rfl (by first | exact .inl rfl | exact .inr ⟨_, _, _, rfl, rfl, by kernel_rfl, by decide, rfl⟩) (by kernel_rfl) (by kernel_rfl) (by kernel_rfl) (c_digit xs j), ?_⟩
              refine List.forall_mem_cons.2 ⟨ob_load 3 21 ys rfl rfl (by first | exact .inl rfl | exact .inr ⟨_, _, _, rfl, rfl, by kernel_rfl, by decide, rfl⟩) (by kernel_rfl) rfl rfl, ?_⟩
              refine List.forall_mem_cons.2 ⟨ob_copy 5 22 (.inl rfl) rfl (by first | exact .inl rfl | exact .inr ⟨_, _, _, rfl, rfl, by kernel_rfl, by decide, rfl⟩) (by kernel_rfl) rfl, ?_⟩
              refine List.forall_mem_cons.2 ⟨ob_call2 41 21 22 23 _ rfl rfl (by first | exact .inl rfl | exact .inr ⟨_, _, _, rfl, rfl, by kernel_rfl, by decide, rfl⟩) (by kernel_rfl) (by kernel_rfl) (by kernel_rfl) (c_digit ys j), ?_⟩
              refine List.forall_mem_cons.2 ⟨ob_two 20 23 24 _ _ _ rfl (by first | exact .inl rfl | exact .inr ⟨_, _, _, rfl, rfl, by kernel_rfl, by decide, rfl⟩) (by kernel_rfl) (by kernel_rfl) rfl rfl rfl (fun a w h1 h2 => go_lss_u64 _ _ false (decide_eq_false (by omega)) a w 20 23 _ rfl h1 h2), ?_⟩
              exact fun _ h => absurd h List.not_mem_nil
            intro vv wv hvv hbv
            have hv24 : vv 24 = .bool false := hvv 24 (by decide)
            simp only [lay, List.foldl_cons, List.foldl_nil, List.setIfInBounds_toArray, List.set_cons_succ, List.set_cons_zero, hv24]
            have hb := up hb hbv
            have vx := vx.below hbv
            have vy := vy.below hbv
            clear hbv hvv
            go_wp2_with fail
            refine wp_region_on (by kernel_rfl) (rcmpG true xs ys j) [2, 3, 5] 32 [25, 26, 27, 28, 29, 30, 31] rfl (by kernel_rfl) (by kernel_rfl) ?_ ?_ ?_
            · intro t ht
              simp only [List.mem_cons, List.not_mem_nil, or_false] at ht
              rcases ht with rfl | rfl | rfl
              · exact ⟨_, _, _, rfl, vx⟩
              · exact ⟨_, _, _, rfl, vy⟩
              · rfl
            · refine List.forall_mem_cons.2 ⟨ob_load 2 25 xs rfl rfl (by first | exact .inl rfl | exact .inr ⟨_, _, _, rfl, rfl, by kernel_rfl, by decide, rfl⟩) (by kernel_rfl) rfl rfl, ?_⟩
              refine List.forall_mem_cons.2 ⟨ob_copy 5 26 (.inl rfl) rfl (by first | exact .inl rfl | exact .inr ⟨_, _, _, rfl, rfl, by kernel_rfl, by decide, rfl⟩) (by kernel_rfl) rfl, ?_⟩
              refine List.forall_mem_cons.2 ⟨ob_call2 41 25 26 27 _ rfl rfl (by first | exact .inl rfl | exact .inr ⟨_, _, _, rfl, rfl, by kernel_rfl, by decide, rfl⟩) (by kernel_rfl) (by kernel_rfl) (by kernel_rfl) (c_digit xs j), ?_⟩
              refine List.forall_mem_cons.2 ⟨ob_load 3 28 ys rfl rfl (by first | exact .inl rfl | exact .inr ⟨_, _, _, rfl, rfl, by kernel_rfl, by decide, rfl⟩) (by kernel_rfl) rfl rfl, ?_⟩
              refine List.forall_mem_cons.2 ⟨ob_copy 5 29 (.inl rfl) rfl (by first | exact .inl rfl | exact .inr ⟨_, _, _, rfl, rfl, by kernel_rfl, by decide, rfl⟩) (by kernel_rfl) rfl, ?_⟩
              refine List.forall_mem_cons.2 ⟨ob_call2 41 28 29 30 _ rfl rfl (by first | exact .inl rfl | exact .inr ⟨_, _, _, rfl, rfl, by kernel_rfl, by decide, rfl⟩) (by kernel_rfl) (by kernel_rfl) (by kernel_rfl) (c_digit ys j), ?_⟩
              refine List.forall_mem_cons.2 ⟨ob_two 27 30 31 _ _ _ rfl (by first | exact .inl rfl | exact .inr ⟨_, _, _, rfl, rfl, by kernel_rfl, by decide, rfl⟩) (by kernel_rfl) (by kernel_rfl) rfl rfl rfl (fun a w h1 h2 => go_gtr_u64 _ _ true (decide_eq_true (by omega)) a w 27 30 _ rfl h1 h2), ?_⟩
              exact fun _ h => absurd h List.not_mem_nil
            intro vv wv hvv hbv
            have hv31 : vv 31 = .bool true := hvv 31 (by decide)
            simp only [lay, List.foldl_cons, List.foldl_nil, List.setIfInBounds_toArray, List.set_cons_succ, List.set_cons_zero, hv31]
            have hb := up hb hbv
            go_wp2_with fail
            go_ret
            exact ⟨ret_int Hf.out.symm, hb⟩
          · have heq' : ∀ i, j ≤ i → Nm.dg xs i = Nm.dg ys i := fun i hi => by
              rcases Nat.lt_or_ge j i with h3 | h3
              · exact heq.out i h3
              · rw [show i = j from by omega]; omega
            have Hq := Lib.hid heq'
            clear heq heq'
            refine wp_region_on (by kernel_rfl) (rcmpF false xs ys j) [2, 3, 5] 32 [18, 19, 20, 21, 22, 23, 24] rfl (by kernel_rfl) (by kernel_rfl) ?_ ?_ ?_
            · intro t ht
              simp only [List.mem_cons, List.not_mem_nil, or_false] at ht
              rcases ht with rfl | rfl | rfl
              · exact ⟨_, _, _, rfl, vx⟩
              · exact ⟨_, _, _, rfl, vy⟩
              · rfl
            · refine List.forall_mem_cons.2 ⟨ob_load 2 18 xs rfl rfl (by first | exact .inl rfl | exact .inr ⟨_, _, _, rfl, rfl, by kernel_rfl, by decide, rfl⟩) (by kernel_rfl) rfl rfl, ?_⟩
              refine List.forall_mem_cons.2 ⟨ob_copy 5 19 (.inl rfl) rfl (by first | exact .inl rfl | exact .inr ⟨_, _, _, rfl, rfl, by kernel_rfl, by decide, rfl⟩) (by kernel_rfl) rfl, ?_⟩
              refine List.forall_mem_cons.2 ⟨ob_call2 41 18 19 20 _ rfl rfl (by first | exact .inl rfl | exact .inr ⟨_, _, _, rfl, rfl, by kernel_rfl, by decide, rfl⟩) (by kernel_rfl) (by kernel_rfl) (by kernel_rfl) (c_digit xs j), ?_⟩
              refine List.forall_mem_cons.2 ⟨ob_load 3 21 ys rfl rfl (by first | exact .inl rfl | exact .inr ⟨_, _, _, rfl, rfl, by kernel_rfl, by decide, rfl⟩) (by kernel_rfl) rfl rfl, ?_⟩
              refine List.forall_mem_cons.2 ⟨ob_copy 5 22 (.inl rfl) rfl (by first | exact .inl rfl | exact .inr ⟨_, _, _, rfl, rfl, by kernel_rfl, by decide, rfl⟩) (by kernel_rfl) rfl, ?_⟩
              refine List.forall_mem_cons.2 ⟨ob_call2 41 21 22 23 _ rfl rfl (by first | exact .inl rfl | exact .inr ⟨_, _, _, rfl, rfl, by kernel_rfl, by decide, rfl⟩) (by kernel_rfl) (by kernel_rfl) (by kernel_rfl) (c_digit ys j), ?_⟩
              refine List.forall_mem_cons.2 ⟨ob_two 20 23 24 _ _ _ rfl (by first | exact .inl rfl | exact .inr ⟨_, _, _, rfl, rfl, by kernel_rfl, by decide, rfl⟩) (by kernel_rfl) (by kernel_rfl) rfl rfl rfl (fun a w h1 h2 => go_lss_u64 _ _ false (decide_eq_false (by omega)) a w 20 23 _ rfl h1 h2), ?_⟩
              exact fun _ h => absurd h List.not_mem_nil
            intro vv wv hvv hbv
            have hv24 : vv 24 = .bool false := hvv 24 (by decide)
            simp only [lay, List.foldl_cons, List.foldl_nil, List.setIfInBounds_toArray, List.set_cons_succ, List.set_cons_zero, hv24]
            have hb := up hb hbv
            have vx := vx.below hbv
            have vy := vy.below hbv
            clear hbv hvv
            go_wp2_with fail
            refine wp_region_on (by kernel_rfl) (rcmpG false xs ys j) [2, 3, 5] 32 [25, 26, 27, 28, 29, 30, 31] rfl (by kernel_rfl) (by kernel_rfl) ?_ ?_ ?_
            · intro t ht
              simp only [List.mem_cons, List.not_mem_nil, or_false] at ht
              rcases ht with rfl | rfl | rfl
              · exact ⟨_, _, _, rfl, vx⟩
              · exact ⟨_, _, _, rfl, vy⟩
              · rfl
            · refine List.forall_mem_cons.2 ⟨ob_load 2 25 xs rfl rfl (by first | exact .inl rfl | exact .inr ⟨_, _, _, rfl, rfl, by kernel_rfl, by decide, rfl⟩) (by kernel_rfl) rfl rfl, ?_⟩
              refine List.forall_mem_cons.2 ⟨ob_copy 5 26 (.inl rfl) rfl (by first | exact .inl rfl | exact .inr ⟨_, _, _, rfl, rfl, by kernel_rfl, by decide, rfl⟩) (by kernel_rfl) rfl, ?_⟩
              refine List.forall_mem_cons.2 ⟨ob_call2 41 25 26 27 _ rfl rfl (by first | exact .inl rfl | exact .inr ⟨_, _, _, rfl, rfl, by kernel_rfl, by decide, rfl⟩) (by kernel_rfl) (by kernel_rfl) (by kernel_rfl) (c_digit xs j), ?_⟩
              refine List.forall_mem_cons.2 ⟨ob_load 3 28 ys rfl rfl (by first | exact .inl rfl | exact .inr ⟨_, _, _, rfl, rfl, by kernel_rfl, by decide, rfl⟩) (by kernel_rfl) rfl rfl, ?_⟩
              refine List.forall_mem_cons.2 ⟨ob_copy 5 29 (.inl rfl) rfl (by first | exact .inl rfl | exact .inr ⟨_, _, _, rfl, rfl, by kernel_rfl, by decide, rfl⟩) (by kernel_rfl) rfl, ?_⟩
              refine List.forall_mem_cons.2 ⟨ob_call2 41 28 29 30 _ rfl rfl (by first | exact .inl rfl | exact .inr ⟨_, _, _, rfl, rfl, by kernel_rfl, by decide, rfl⟩) (by kernel_rfl) (by kernel_rfl) (by kernel_rfl) (c_digit ys j), ?_⟩
              refine List.forall_mem_cons.2 ⟨ob_two 27 30 31 _ _ _ rfl (by first | exact .inl rfl | exact .inr ⟨_, _, _, rfl, rfl, by kernel_rfl, by decide, rfl⟩) (by kernel_rfl) (by kernel_rfl) rfl rfl rfl (fun a w h1 h2 => go_gtr_u64 _ _ false (decide_eq_false (by omega)) a w 27 30 _ rfl h1 h2), ?_⟩
              exact fun _ h => absurd h List.not_mem_nil
            intro vv wv hvv hbv
            have hv31 : vv 31 = .bool false := hvv 31 (by decide)
            simp only [lay, List.foldl_cons, List.foldl_nil, List.setIfInBounds_toArray, List.set_cons_succ, List.set_cons_zero, hv31]
            have hb := up hb hbv
            have vx := vx.below hbv
            have vy := vy.below hbv
            clear hbv hvv
            go_wp2_with fail
            exact ⟨⟨j, by omega, rfl, vx, vy, hb, Hq⟩, by simp [intOf]⟩
end Go.Proofs.YtaiceebhifecbaaDoor

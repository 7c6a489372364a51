/-
  Contract of the reference's Add. Conditions: numbers of at most 400 digits.
-/
import Derived.Test.YtaiceebhifecbaaDoorT28
namespace Go.Proofs.YtaiceebhifecbaaDoor
open Go.RowKit
theorem go_add_u64 (b c r : Int) (hr : b + c = r) (h0 : 0 ≤ r) (h1 : r < 18446744073709551616) (a : Act) (w : World) (t s : Nat) (o : Oper) (ho : o.op = .binOp .add 33 (.tmp t) (.tmp s) 33) (h2 : a.eval (.tmp t) = .int .u64 b) (h3 : a.eval (.tmp s) = .int .u64 c) :
    (execOp a.eval o).run Tryd.prog w = .ok (.value (.int .u64 r)) w := by
  subst hr
  have hw : IntKind.u64.wrap (b + c) = b + c := by
    simp [IntKind.wrap, IntKind.signed, IntKind.bits]
    omega
  simp [execOp, ho, h2, h3]
  go_simp
theorem mod_cell (w : World) (s : Nat) : (w.alloc (Obj.cells #[Value.int IntKind.u32 ((s : Int) % 4294967296)] 35)).cell? ⟨w.heap.size, 0, none⟩ = some (.int .u32 ((s % 4294967296 : Nat) : Int)) := by
  simp
theorem wrap_div {s : Nat} (h : s < 18446744073709551616) : IntKind.u64.wrap ((s : Int) / 4294967296) = ((s / 4294967296 : Nat) : Int) := by
  simp [IntKind.wrap, IntKind.signed, IntKind.bits]
  omega
theorem new_cell (w : World) (b : Nat) (v : Value) (t : TypeId) (h : b = w.heap.size) : (w.alloc (Obj.cells #[v] t)).cell? ⟨b, 0, none⟩ = some v := by
  subst h
  simp
theorem new_soft (w : World) (b : Nat) (v : Value) (t : TypeId) (h : b = w.heap.size) : (w.alloc (Obj.cells #[v] t)).frozen? ⟨b, 0, none⟩ = false := by
  subst h
  simp
/-- What is known of a region's slots. -/
def raddF (xs ys : List Nat) (k o s : Nat) (t : Nat) : Fact := (([(2, Fact.var xs), (3, Fact.var ys), (6, Fact.eq (.int .u64 (o : Int))), (7, Fact.eq (.int .i64 (k : Int))), (8, Fact.eq (.int .u64 (s : Int))), (20, Fact.num xs), (21, Fact.eq (.int .i64 (k : Int))), (22, Fact.eq (.int .u64 (Nm.dg xs k : Int))), (23, Fact.num ys), (24, Fact.eq (.int .i64 (k : Int))), (25, Fact.eq (.int .u64 (Nm.dg ys k : Int))), (26, Fact.eq (.int .u64 ((Nm.dg xs k + Nm.dg ys k : Nat) : Int))), (27, Fact.eq (.int .u64 (o : Int))), (28, Fact.eq (.int .u64 (s : Int)))] : List (Nat × Fact)).lookup t).getD Fact.any
/-- The loop of Add: k digits of the sum and a carry. -/
def AddRel (BB : Nat) (xs ys : List Nat) (w : World) (ov cv iv : Value) (wr : World) : Prop :=
  ∃ (k o : Nat) (rs : List Nat) (v : Value), k ≤ max xs.length ys.length + 1 ∧ ov = v ∧ Ow BB wr v rs ∧ Hid (rs.length = k) ∧ cv = .int .u64 (o : Int) ∧ o ≤ 1 ∧ iv = .int .i64 (k : Int) ∧ Nm.Dig rs ∧ Hid (Nm.val rs + 4294967296 ^ k * o = Nm.val (xs.take k) + Nm.val (ys.take k)) ∧ Below BB w wr ∧ BB ≤ wr.heap.size
set_option maxRecDepth 100000 in
set_option maxHeartbeats 1000000 in
theorem refAdd_n {w : World} {A B : Option Addr} {n m c d : Nat} {xs ys : List Nat} (hx : Num w A n c xs) (hy : Num w B m d ys) (rs : List Nat) (hr : Nm.nat (Nm.val xs + Nm.val ys) = rs) :
    Calls Tryd.prog 20 #[nt A n c, nt B m d] w fun e w' => ∃ A' c', e = .returned (nt A' rs.length c') ∧ rs.length ≤ c' ∧ Fr w.heap.size w' A' rs ∧ Below w.heap.size w w' := by
  subst hr
  obtain rfl := hx.len
  obtain rfl := hy.len
  have s1 := hx.small
  have s2 := hy.small
  have dx := hx.dig
  have dy := hy.dig
  rcases Nat.lt_or_ge xs.length ys.length with hle | hle
  · skip
    go_enter Tryd.func20, Tryd.ntmps20
    go_wp2_with fail
    have vx := Var.new hx
    have vx := vx.below (two _ (Obj.cells #[Value.slice B ys.length d] 24) (Obj.cells #[Value.slice none 0 0] 24))
    have vy : Var _ (w.heap.size + 1) B ys.length d ys := Var.at_ (hy.below (one _ (Obj.cells #[Value.slice A xs.length c] 24))) (by simp)
    have vy := vy.below (one _ (Obj.cells #[Value.slice none 0 0] 24))
    have hb1 := three w (Obj.cells #[Value.slice A xs.length c] 24) (Obj.cells #[Value.slice B ys.length d] 24) (Obj.cells #[Value.slice none 0 0] 24)
    clear hx hy
    generalize hw1 : ((w.alloc (Obj.cells #[Value.slice A xs.length c] 24)).alloc (Obj.cells #[Value.slice B ys.length d] 24)).alloc (Obj.cells #[Value.slice none 0 0] 24) = w1 at vx vy hb1 ⊢
    have hs1 : w1.heap.size = w.heap.size + 1 + 1 + 1 := by rw [← hw1]; simp
    have hcell1 : w1.cell? ⟨w.heap.size + 1 + 1, 0, none⟩ = some (.slice none 0 0) := by rw [← hw1]; exact new_cell _ _ _ _ (by simp)
    have hfz1 : w1.frozen? ⟨w.heap.size + 1 + 1, 0, none⟩ = false := by rw [← hw1]; exact new_soft _ _ _ _ (by simp)
    clear hw1
    go_loopw [5, 6, 7] (fun ov cv iv wr => AddRel w1.heap.size xs ys w1 ov cv iv wr) (fun _ _ i _ => 402 - (intOf i).toNat)
    case atStart => exact ⟨0, 0, [], _, by omega, rfl, Ow.nil _ _, rfl, rfl, by omega, rfl, Nm.Dig.nil, by show _ = _; simp [Nm.val], Below.refl _ _, Nat.le_refl _⟩
    case round =>
      obtain ⟨k, o, rs, v, hk, hv, how, hrl, rfl, ho, rfl, hrd, hval, hbj, hBj⟩ := hrel
      obtain rfl := hv.symm
      have vx := vx.below hbj
      have vy := vy.below hbj
      have kvx := vx.cell
      have kvy := vy.cell
      by_cases hlt : k ≤ max xs.length ys.length
      · obtain ⟨s, hs⟩ : ∃ s, Nm.dg xs k + Nm.dg ys k + o = s := ⟨_, rfl⟩
        have q1 := Nm.dg_lt dx k
        have q2 := Nm.dg_lt dy k
        have hs2 : s < 8589934592 := by omega
        have hstep : Hid (Nm.val (rs ++ [s % 4294967296]) + 4294967296 ^ (k + 1) * (s / 4294967296) = Nm.val (xs.take (k + 1)) + Nm.val (ys.take (k + 1))) := by
          show _ = _
          rw [Nm.val_append, Nm.val_take_dg, Nm.val_take_dg, hrl.out]
          have e := hval.out
          have e2 : Nm.val [s % 4294967296] = s % 4294967296 := by simp [Nm.val]
          rw [e2, Nat.pow_succ, Nat.mul_assoc]
          have e3 : s % 4294967296 + 4294967296 * (s / 4294967296) = Nm.dg xs k + Nm.dg ys k + o := by omega
          have e4 := congrArg (fun t => 4294967296 ^ k * t) e3
          simp only [Nat.mul_add] at e4
          omega
        have hdig : Nm.Dig (rs ++ [s % 4294967296]) := hrd.append (Nm.Dig.mk (by omega) Nm.Dig.nil)
        have Hs := Lib.hid hs
        have Hs2 := Lib.hid hs2
        have Q1 := Lib.hid q1
        have Q2 := Lib.hid q2
        have hkm : k ≤ 400 := by omega
        clear hval q1 q2 hs hs2
        go_wp2_with fail
        refine wp_region_on (by kernel_rfl) (raddF xs ys k o s) [2, 3, 7, 6] 39 [8, 20, 21, 22, 23, 24, 25, 26, 27, 28] rfl (by kernel_rfl) (by kernel_rfl) ?_ ?_ ?_
        · intro t ht
          simp only [List.mem_cons, List.not_mem_nil, or_false] at ht
          rcases ht with rfl | rfl | rfl | rfl
          · exact ⟨_, _, _, rfl, vx⟩
          · exact ⟨_, _, _, rfl, vy⟩
          · rfl
          · rfl
        · refine List.forall_mem_cons.2 ⟨ob_load 2 20 xs rfl rfl (by first | exact .inl rfl | exact .inr ⟨_, _, _, rfl, rfl, by kernel_rfl, by decide, rfl⟩) (by kernel_rfl) rfl rfl, ?_⟩
          refine List.forall_mem_cons.2 ⟨ob_copy 7 21 (.inl rfl) rfl (by first | exact .inl rfl | exact .inr ⟨_, _, _, rfl, rfl, by kernel_rfl, by decide, rfl⟩) (by kernel_rfl) rfl, ?_⟩
          refine List.forall_mem_cons.2 ⟨ob_call2 41 20 21 22 _ rfl rfl (by first | exact .inl rfl | exact .inr ⟨_, _, _, rfl, rfl, by kernel_rfl, by decide, rfl⟩) (by kernel_rfl) (by kernel_rfl) (by kernel_rfl) (c_digit xs k), ?_⟩
          refine List.forall_mem_cons.2 ⟨ob_load 3 23 ys rfl rfl (by first | exact .inl rfl | exact .inr ⟨_, _, _, rfl, rfl, by kernel_rfl, by decide, rfl⟩) (by kernel_rfl) rfl rfl, ?_⟩
          refine List.forall_mem_cons.2 ⟨ob_copy 7 24 (.inl rfl) rfl (by first | exact .inl rfl | exact .inr ⟨_, _, _, rfl, rfl, by kernel_rfl, by decide, rfl⟩) (by kernel_rfl) rfl, ?_⟩
          refine List.forall_mem_cons.2 ⟨ob_call2 41 23 24 25 _ rfl rfl (by first | exact .inl rfl | exact .inr ⟨_, _, _, rfl, rfl, by kernel_rfl, by decide, rfl⟩) (by kernel_rfl) (by kernel_rfl) (by kernel_rfl) (c_digit ys k), ?_⟩
          refine List.forall_mem_cons.2 ⟨ob_two 22 25 26 _ _ _ rfl (by first | exact .inl rfl | exact .inr ⟨_, _, _, rfl, rfl, by kernel_rfl, by decide, rfl⟩) (by kernel_rfl) (by kernel_rfl) rfl rfl rfl (fun a w h1 h2 => go_add_u64 _ _ _ (by have := Hs.out; omega) (by omega) (by have := Hs.out; have := Q1.out; have := Q2.out; omega) a w 22 25 _ rfl h1 h2), ?_⟩
          refine List.forall_mem_cons.2 ⟨ob_copy 6 27 (.inl rfl) rfl (by first | exact .inl rfl | exact .inr ⟨_, _, _, rfl, rfl, by kernel_rfl, by decide, rfl⟩) (by kernel_rfl) rfl, ?_⟩
          refine List.forall_mem_cons.2 ⟨ob_two 26 27 28 _ _ _ rfl (by first | exact .inl rfl | exact .inr ⟨_, _, _, rfl, rfl, by kernel_rfl, by decide, rfl⟩) (by kernel_rfl) (by kernel_rfl) rfl rfl rfl (fun a w h1 h2 => go_add_u64 _ _ _ (by have := Hs.out; omega) (by omega) (by have := Hs.out; have := Q1.out; have := Q2.out; omega) a w 26 27 _ rfl h1 h2), ?_⟩
          refine List.forall_mem_cons.2 ⟨ob_copy 28 8 (.inr rfl) rfl (by first | exact .inl rfl | exact .inr ⟨_, _, _, rfl, rfl, by kernel_rfl, by decide, rfl⟩) (by kernel_rfl) rfl, ?_⟩
          exact fun _ h => absurd h List.not_mem_nil
        intro vv wv hvv hbv
        have hv8 : vv 8 = .int .u64 (s : Int) := hvv 8 (by decide)
        simp only [lay, List.foldl_cons, List.foldl_nil, List.setIfInBounds_toArray, List.set_cons_succ, List.set_cons_zero, hv8]
        have vx := vx.below hbv
        have vy := vy.below hbv
        have how := how.other hbv
        have hbj := up hbj hbv
        have hBj := Nat.le_trans hBj hbv.size
        clear hbv hvv
        have kvx := vx.cell
        have kvy := vy.cell
        go_wp2_with (at_builtin
                     refine wpList_push rfl (.tmp 29) (.tmp 33) rfl w1.heap.size v rs (s % 4294967296) _ 1 rfl rfl (how.other (one _ _)) (by exact mod_cell _ s) (by rw [hrl.out]; omega) (by simp; omega) ?_
                     intro v4 w4 hown4 hg4 hat4)
        have hb4 := hbj.grown (grown_alloc hg4) hBj (fun k' hk' => (World.ownsRow.lt how k' hk').1)
        refine ⟨⟨k + 1, s / 4294967296, rs ++ [s % 4294967296], v4, by omega, rfl, hown4, ?_, congrArg (Value.int .u64) (wrap_div (by have := Hs2.out; omega)), by have := Hs2.out; omega, by go_num, hdig, hstep, hb4, Nat.le_trans hBj (grown_alloc hg4).size⟩, by simp [intOf]; omega⟩
        show _ = _
        rw [List.length_append, hrl.out]; rfl
      · have hkk : k = max xs.length ys.length + 1 := by omega
        have hfin : Nm.nat (Nm.val rs) = Nm.nat (Nm.val xs + Nm.val ys) := by
          have e := hval.out
          rw [List.take_of_length_le (by omega), List.take_of_length_le (by omega)] at e
          have b1 := Nat.lt_of_lt_of_le (Nm.val_lt dx) (Nat.pow_le_pow_right (by omega) (by omega : xs.length ≤ max xs.length ys.length))
          have b2 := Nat.lt_of_lt_of_le (Nm.val_lt dy) (Nat.pow_le_pow_right (by omega) (by omega : ys.length ≤ max xs.length ys.length))
          rw [hkk, Nat.pow_succ] at e
          generalize 4294967296 ^ max xs.length ys.length = P at e b1 b2
          rcases Nat.eq_zero_or_pos o with h0 | h0
          · subst h0
            rw [Nat.mul_zero, Nat.add_zero] at e
            rw [e]
          · exfalso
            have h1 : o = 1 := by omega
            subst h1
            omega
        have Hf := Lib.hid hfin
        obtain ⟨A', c', hve, hcc, hfr⟩ := how.slice
        subst hve
        have hrl2 : rs.length ≤ 401 := by rw [hrl.out]; omega
        clear hfin hval hkk
        go_wp2_with fail
        refine (refTrim_n hfr.rd rfl (by omega) hrd Hf.out).mono ?_
        rintro e w5 ⟨A5, c5, rfl, hc5, hf5, hb5⟩
        obtain ⟨k1, k2⟩ := seen (up hbj hb5)
        have hcr : w5.cell? ⟨w.heap.size + 1 + 1, 0, none⟩ = some (.slice none 0 0) := by rw [k1 _ _ (by omega)]; exact hcell1
        have hfr1 : w5.frozen? ⟨w.heap.size + 1 + 1, 0, none⟩ = false := by rw [k2 _ _ (by omega)]; exact hfz1
        clear k1 k2
        go_wp2_with fail
        refine bodyPost_ret (v := nt A5 (Nm.nat (Nm.val xs + Nm.val ys)).length c5) (by simp [results, Tryd.results20, go_sem, hcr]) rfl ⟨A5, c5, rfl, hc5, ?_, ?_⟩
        · exact (hf5.mono (by have := hbj.size; omega)).setCell hcr (by simp)
        · exact (up hb1 (up hbj hb5)).setCell (by show w.heap.size ≤ w.heap.size + 1 + 1; omega) _
  · skip
    go_enter Tryd.func20, Tryd.ntmps20
    go_wp2_with fail
    have vx := Var.new hx
    have vx := vx.below (two _ (Obj.cells #[Value.slice B ys.length d] 24) (Obj.cells #[Value.slice none 0 0] 24))
    have vy : Var _ (w.heap.size + 1) B ys.length d ys := Var.at_ (hy.below (one _ (Obj.cells #[Value.slice A xs.length c] 24))) (by simp)
    have vy := vy.below (one _ (Obj.cells #[Value.slice none 0 0] 24))
    have hb1 := three w (Obj.cells #[Value.slice A xs.length c] 24) (Obj.cells #[Value.slice B ys.length d] 24) (Obj.cells #[Value.slice none 0 0] 24)
    clear hx hy
    generalize hw1 : ((w.alloc (Obj.cells #[Value.slice A xs.length c] 24)).alloc (Obj.cells #[Value.slice B ys.length d] 24)).alloc (Obj.cells #[Value.slice none 0 0] 24) = w1 at vx vy hb1 ⊢
    have hs1 : w1.heap.size = w.heap.size + 1 + 1 + 1 := by rw [← hw1]; simp
    have hcell1 : w1.cell? ⟨w.heap.size + 1 + 1, 0, none⟩ = some (.slice none 0 0) := by rw [← hw1]; exact new_cell _ _ _ _ (by simp)
    have hfz1 : w1.frozen? ⟨w.heap.size + 1 + 1, 0, none⟩ = false := by rw [← hw1]; exact new_soft _ _ _ _ (by simp)
    clear hw1
    go_loopw [5, 6, 7] (fun ov cv iv wr => AddRel w1.heap.size xs ys w1 ov cv iv wr) (fun _ _ i _ => 402 - (intOf i).toNat)
    case atStart => exact ⟨0, 0, [], _, by omega, rfl, Ow.nil _ _, rfl, rfl, by omega, rfl, Nm.Dig.nil, by show _ = _; simp [Nm.val], Below.refl _ _, Nat.le_refl _⟩
    case round =>
      obtain ⟨k, o, rs, v, hk, hv, how, hrl, rfl, ho, rfl, hrd, hval, hbj, hBj⟩ := hrel
      obtain rfl := hv.symm
      have vx := vx.below hbj
      have vy := vy.below hbj
      have kvx := vx.cell
      have kvy := vy.cell
      by_cases hlt : k ≤ max xs.length ys.length
      · obtain ⟨s, hs⟩ : ∃ s, Nm.dg xs k + Nm.dg ys k + o = s := ⟨_, rfl⟩
        have q1 := Nm.dg_lt dx k
        have q2 := Nm.dg_lt dy k
        have hs2 : s < 8589934592 := by omega
        have hstep : Hid (Nm.val (rs ++ [s % 4294967296]) + 4294967296 ^ (k + 1) * (s / 4294967296) = Nm.val (xs.take (k + 1)) + Nm.val (ys.take (k + 1))) := by
          show _ = _
          rw [Nm.val_append, Nm.val_take_dg, Nm.val_take_dg, hrl.out]
          have e := hval.out
          have e2 : Nm.val [s % 4294967296] = s % 4294967296 := by simp [Nm.val]
          rw [e2, Nat.pow_succ, Nat.mul_assoc]
          have e3 : s % 4294967296 + 4294967296 * (s / 4294967296) = Nm.dg xs k + Nm.dg ys k + o := by omega
          have e4 := congrArg (fun t => 4294967296 ^ k * t) e3
          simp only [Nat.mul_add] at e4
          omega
        have hdig : Nm.Dig (rs ++ [s % 4294967296]) := hrd.append (Nm.Dig.mk (by omega) Nm.Dig.nil)
        have Hs := Lib.hid hs
        have Hs2 := Lib.hid hs2
        have Q1 := Lib.hid q1
        have Q2 := Lib.hid q2
        have hkm : k ≤ 400 := by omega
        clear hval q1 q2 hs hs2
        go_wp2_with fail
        refine wp_region_on (by kernel_rfl) (raddF xs ys k o s) [2, 3, 7, 6] 39 [8, 20, 21, 22, 23, 24, 25, 26, 27, 28] rfl (by kernel_rfl) (by kernel_rfl) ?_ ?_ ?_
        · intro t ht
          simp only [List.mem_cons, List.not_mem_nil, or_false] at ht
          rcases ht with rfl | rfl | rfl | rfl
          · exact ⟨_, _, _, rfl, vx⟩
          · exact ⟨_, _, _, rfl, vy⟩
          · rfl
          · rfl
        · refine List.forall_mem_cons.2 ⟨ob_load 2 20 xs rfl rfl (by first | exact .inl rfl | exact .inr ⟨_, _, _, rfl, rfl, by kernel_rfl, by decide, rfl⟩) (by kernel_rfl) rfl rfl, ?_⟩
          refine List.forall_mem_cons.2 ⟨ob_copy 7 21 (.inl rfl) rfl (by first | exact .inl rfl | exact .inr ⟨_, _, _, rfl, rfl, by kernel_rfl, by decide, rfl⟩) (by kernel_rfl) rfl, ?_⟩
          refine List.forall_mem_cons.2 ⟨ob_call2 41 20 21 22 _ rfl rfl (by first | exact .inl rfl | exact .inr ⟨_, _, _, rfl, rfl, by kernel_rfl, by decide, rfl⟩) (by kernel_rfl) (by kernel_rfl) (by kernel_rfl) (c_digit xs k), ?_⟩
          refine List.forall_mem_cons.2 ⟨ob_load 3 23 ys rfl rfl (by first | exact .inl rfl | exact .inr ⟨_, _, _, rfl, rfl, by kernel_rfl, by decide, rfl⟩) (by kernel_rfl) rfl rfl, ?_⟩
          refine List.forall_mem_cons.2 ⟨ob_copy 7 24 (.inl rfl) rfl (by first | exact .inl rfl | exact .inr ⟨_, _, _, rfl, rfl, by kernel_rfl, by decide, rfl⟩) (by kernel_rfl) rfl, ?_⟩
          refine List.forall_mem_cons.2 ⟨ob_call2 41 23 24 25 _ rfl rfl (by first | exact .inl rfl | exact .inr ⟨_, _, _, rfl, rfl, by kernel_rfl, by decide, rfl⟩) (by kernel_rfl) (by kernel_rfl) (by kernel_rfl) (c_digit ys k), ?_⟩
          refine List.forall_mem_cons.2 ⟨ob_two 22 25 26 _ _ _ rfl (by first | exact .inl rfl | exact .inr ⟨_, _, _, rfl, rfl, by kernel_rfl, by decide, rfl⟩) (by kernel_rfl) (by kernel_rfl) rfl rfl rfl (fun a w h1 h2 => go_add_u64 _ _ _ (by have := Hs.out; omega) (by omega) (by have := Hs.out; have := Q1.out; have := Q2.out; omega) a w 22 25 _ rfl h1 h2), ?_⟩
          refine List.forall_mem_cons.2 ⟨ob_copy 6 27 (.inl rfl) rfl (by first | exact .inl rfl | exact .inr ⟨_, _, _, rfl, rfl, by kernel_rfl, by decide, rfl⟩) (by kernel_rfl) rfl, ?_⟩
          refine List.forall_mem_cons.2 ⟨ob_two 26 27 28 _ _ _ rfl (by first | exact .inl rfl | exact .inr ⟨_, _, _, rfl, rfl, by kernel_rfl, by decide, rfl⟩) (by kernel_rfl) (by kernel_rfl) rfl rfl rfl (fun a w h1 h2 => go_add_u64 _ _ _ (by have := Hs.out; omega) (by omega) (by have := Hs.out; have := Q1.out; have := Q2.out; omega) a w 26 27 _ rfl h1 h2), ?_⟩
          refine List.forall_mem_cons.2 ⟨ob_copy 28 8 (.inr rfl) rfl (by first | exact .inl rfl | exact .inr ⟨_, _, _, rfl, rfl, by kernel_rfl, by decide, rfl⟩) (by kernel_rfl) rfl, ?_⟩
          exact fun _ h => absurd h List.not_mem_nil
        intro vv wv hvv hbv
        have hv8 : vv 8 = .int .u64 (s : Int) := hvv 8 (by decide)
        simp only [lay, List.foldl_cons, List.foldl_nil, List.setIfInBounds_toArray, List.set_cons_succ, List.set_cons_zero, hv8]
        have vx := vx.below hbv
        have vy := vy.below hbv
        have how := how.other hbv
        have hbj := up hbj hbv
        have hBj := Nat.le_trans hBj hbv.size
        clear hbv hvv
        have kvx := vx.cell
        have kvy := vy.cell
        go_wp2_with (at_builtin
                     refine wpList_push rfl (.tmp 29) (.tmp 33) rfl w1.heap.size v rs (s % 4294967296) _ 1 rfl rfl (how.other (one _ _)) (by exact mod_cell _ s) (by rw [hrl.out]; omega) (by simp; omega) ?_
                     intro v4 w4 hown4 hg4 hat4)
        have hb4 := hbj.grown (grown_alloc hg4) hBj (fun k' hk' => (World.ownsRow.lt how k' hk').1)
        refine ⟨⟨k + 1, s / 4294967296, rs ++ [s % 4294967296], v4, by omega, rfl, hown4, ?_, congrArg (Value.int .u64) (wrap_div (by have := Hs2.out; omega)), by have := Hs2.out; omega, by go_num, hdig, hstep, hb4, Nat.le_trans hBj (grown_alloc hg4).size⟩, by simp [intOf]; omega⟩
        show _ = _
        rw [List.length_append, hrl.out]; rfl
      · have hkk : k = max xs.length ys.length + 1 := by omega
        have hfin : Nm.nat (Nm.val rs) = Nm.nat (Nm.val xs + Nm.val ys) := by
          have e := hval.out
          rw [List.take_of_length_le (by omega), List.take_of_length_le (by omega)] at e
          have b1 := Nat.lt_of_lt_of_le (Nm.val_lt dx) (Nat.pow_le_pow_right (by omega) (by omega : xs.length ≤ max xs.length ys.length))
          have b2 := Nat.lt_of_lt_of_le (Nm.val_lt dy) (Nat.pow_le_pow_right (by omega) (by omega : ys.length ≤ max xs.length ys.length))
          rw [hkk, Nat.pow_succ] at e
          generalize 4294967296 ^ max xs.length ys.length = P at e b1 b2
          rcases Nat.eq_zero_or_pos o with h0 | h0
          · subst h0
            rw [Nat.mul_zero, Nat.add_zero] at e
            rw [e]
          · exfalso
            have h1 : o = 1 := by omega
            subst h1
            omega
        have Hf := Lib.hid hfin
        obtain ⟨A', c', hve, hcc, hfr⟩ := how.slice
        subst hve
        have hrl2 : rs.length ≤ 401 := by rw [hrl.out]; omega
        clear hfin hval hkk
        go_wp2_with fail
        refine (refTrim_n hfr.rd rfl (by omega) hrd Hf.out).mono ?_
        rintro e w5 ⟨A5, c5, rfl, hc5, hf5, hb5⟩
        obtain ⟨k1, k2⟩ := seen (up hbj hb5)
        have hcr : w5.cell? ⟨w.heap.size + 1 + 1, 0, none⟩ = some (.slice none 0 0) := by rw [k1 _ _ (by omega)]; exact hcell1
        have hfr1 : w5.frozen? ⟨w.heap.size + 1 + 1, 0, none⟩ = false := by rw [k2 _ _ (by omega)]; exact hfz1
        clear k1 k2
        go_wp2_with fail
        refine bodyPost_ret (v := nt A5 (Nm.nat (Nm.val xs + Nm.val ys)).length c5) (by simp [results, Tryd.results20, go_sem, hcr]) rfl ⟨A5, c5, rfl, hc5, ?_, ?_⟩
        · exact (hf5.mono (by have := hbj.size; omega)).setCell hcr (by simp)
        · exact (up hb1 (up hbj hb5)).setCell (by show w.heap.size ≤ w.heap.size + 1 + 1; omega) _
end Go.Proofs.YtaiceebhifecbaaDoor

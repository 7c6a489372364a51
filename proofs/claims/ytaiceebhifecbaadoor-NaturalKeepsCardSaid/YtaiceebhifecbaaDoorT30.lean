/-
  Contract of the reference's Sub. Conditions: numbers of at most 400 digits.
-/
import Derived.Test.YtaiceebhifecbaaDoorT29
namespace Go.Proofs.YtaiceebhifecbaaDoor
open Go.RowKit
theorem go_addc_u64 (b c r : Int) (hr : b + c = r) (h0 : 0 ≤ r) (h1 : r < 18446744073709551616) (a : Act) (w : World) (s : Nat) (o : Oper) (ho : o.op = .binOp .add 33 (.const (.int .u64 b)) (.tmp s) 33) (h3 : a.eval (.tmp s) = .int .u64 c) :
    (execOp a.eval o).run Tryd.prog w = .ok (.value (.int .u64 r)) w := by
  subst hr
  have hw : IntKind.u64.wrap (b + c) = b + c := by
    simp [IntKind.wrap, IntKind.signed, IntKind.bits]
    omega
  have h2 : a.eval (.const (.int .u64 b)) = .int .u64 b := rfl
  simp [execOp, ho, h2, h3]
  go_simp
theorem go_sub_u64 (b c r : Int) (hr : b - c = r) (h0 : 0 ≤ r) (h1 : r < 18446744073709551616) (a : Act) (w : World) (t s : Nat) (o : Oper) (ho : o.op = .binOp .sub 33 (.tmp t) (.tmp s) 33) (h2 : a.eval (.tmp t) = .int .u64 b) (h3 : a.eval (.tmp s) = .int .u64 c) :
    (execOp a.eval o).run Tryd.prog w = .ok (.value (.int .u64 r)) w := by
  subst hr
  have hw : IntKind.u64.wrap (b - c) = b - c := by
    simp [IntKind.wrap, IntKind.signed, IntKind.bits]
    omega
  simp [execOp, ho, h2, h3]
  go_simp
theorem wrap_borrow {s : Nat} (h : s < 8589934592) : IntKind.u64.wrap (1 - IntKind.u64.wrap ((s : Int) / 4294967296)) = ((1 - s / 4294967296 : Nat) : Int) := by
  rw [wrap_div (by omega)]
  simp [IntKind.wrap, IntKind.signed, IntKind.bits]
  omega
/-- What is known of a region's slots. -/
def rsubF (xs ys : List Nat) (k o s : Nat) (t : Nat) : Fact := (([(2, Fact.var xs), (3, Fact.var ys), (7, Fact.eq (.int .u64 (o : Int))), (8, Fact.eq (.int .i64 (k : Int))), (9, Fact.eq (.int .u64 (s : Int))), (22, Fact.num xs), (23, Fact.eq (.int .i64 (k : Int))), (24, Fact.eq (.int .u64 (Nm.dg xs k : Int))), (25, Fact.eq (.int .u64 ((4294967296 + Nm.dg xs k : Nat) : Int))), (26, Fact.num ys), (27, Fact.eq (.int .i64 (k : Int))), (28, Fact.eq (.int .u64 (Nm.dg ys k : Int))), (29, Fact.eq (.int .u64 ((4294967296 + Nm.dg xs k - Nm.dg ys k : Nat) : Int))), (30, Fact.eq (.int .u64 (o : Int))), (31, Fact.eq (.int .u64 (s : Int)))] : List (Nat × Fact)).lookup t).getD Fact.any
/-- The loop of Sub: k digits of the difference and a borrow. -/
def SubRel (BB : Nat) (xs ys : List Nat) (w : World) (ov cv iv : Value) (wr : World) : Prop :=
  ∃ (k o : Nat) (rs : List Nat) (v : Value), k ≤ xs.length ∧ ov = v ∧ Ow BB wr v rs ∧ Hid (rs.length = k) ∧ cv = .int .u64 (o : Int) ∧ o ≤ 1 ∧ iv = .int .i64 (k : Int) ∧ Nm.Dig rs ∧ Hid (Nm.val rs + Nm.val (ys.take k) = Nm.val (xs.take k) + 4294967296 ^ k * o) ∧ Below BB w wr ∧ BB ≤ wr.heap.size
set_option maxRecDepth 100000 in
set_option maxHeartbeats 1000000 in
theorem refSub_lt {w : World} {A B : Option Addr} {n m c d : Nat} {xs ys : List Nat} (hx : Num w A n c xs) (hy : Num w B m d ys) (hcmp : cmpI (Nm.val xs) (Nm.val ys) = -1) (rs : List Nat) (hr : rs = []) :
    Calls Tryd.prog 15 #[nt A n c, nt B m d] w fun e w' => ∃ A' c', e = .returned (.tuple #[nt A' rs.length c', .bool false]) ∧ rs.length ≤ c' ∧ Fr w.heap.size w' A' rs ∧ Below w.heap.size w w' := by
  subst hr
  obtain rfl := hx.len
  obtain rfl := hy.len
  have s1 := hx.small
  have s2 := hy.small
  have dx := hx.dig
  have dy := hy.dig
  go_enter Tryd.func15, Tryd.ntmps15
  go_wp2_with fail
  have vx := Var.new hx
  have vx := vx.below (two _ (Obj.cells #[Value.slice B ys.length d] 24) (Obj.cells #[Value.slice none 0 0] 24))
  have vy : Var _ (w.heap.size + 1) B ys.length d ys := Var.at_ (hy.below (one _ (Obj.cells #[Value.slice A xs.length c] 24))) (by simp)
  have vy := vy.below (one _ (Obj.cells #[Value.slice none 0 0] 24))
  have hb1 := three w (Obj.cells #[Value.slice A xs.length c] 24) (Obj.cells #[Value.slice B ys.length d] 24) (Obj.cells #[Value.slice none 0 0] 24)
  clear hx hy
  have hcell0 : (((w.alloc (Obj.cells #[Value.slice A xs.length c] 24)).alloc (Obj.cells #[Value.slice B ys.length d] 24)).alloc (Obj.cells #[Value.slice none 0 0] 24)).cell? ⟨w.heap.size + 1 + 1, 0, none⟩ = some (.slice none 0 0) := new_cell _ _ _ _ (by simp)
  have hfz0 : (((w.alloc (Obj.cells #[Value.slice A xs.length c] 24)).alloc (Obj.cells #[Value.slice B ys.length d] 24)).alloc (Obj.cells #[Value.slice none 0 0] 24)).frozen? ⟨w.heap.size + 1 + 1, 0, none⟩ = false := new_soft _ _ _ _ (by simp)
  have hs0 : (((w.alloc (Obj.cells #[Value.slice A xs.length c] 24)).alloc (Obj.cells #[Value.slice B ys.length d] 24)).alloc (Obj.cells #[Value.slice none 0 0] 24)).heap.size = w.heap.size + 1 + 1 + 1 := by simp
  refine (hcmp ▸ refCmp_n vx.num vy.num).mono ?_
  rintro e w1 ⟨rfl, hs⟩
  obtain ⟨k1, k2⟩ := seen hs
  have hcell1 : w1.cell? ⟨w.heap.size + 1 + 1, 0, none⟩ = some (.slice none 0 0) := by rw [k1 _ _ (by omega)]; exact hcell0
  have hfz1 : w1.frozen? ⟨w.heap.size + 1 + 1, 0, none⟩ = false := by rw [k2 _ _ (by omega)]; exact hfz0
  have hs1 : w.heap.size + 1 + 1 + 1 ≤ w1.heap.size := by have := hs.size; omega
  have vx := vx.below hs
  have vy := vy.below hs
  have hb1 := up hb1 hs
  clear k1 k2 hs hcell0 hfz0 hs0
  go_wp2_with fail
  refine bodyPost_ret (v := .tuple #[nt none 0 0, .bool false]) (by simp [results, Tryd.results15, go_sem, hcell1]) rfl ⟨none, 0, rfl, Nat.le_refl _, .inl rfl, ?_⟩
  exact hb1.setCell (by show w.heap.size ≤ w.heap.size + 1 + 1; omega) _
set_option maxRecDepth 100000 in
set_option maxHeartbeats 1000000 in
theorem refSub_ge {w : World} {A B : Option Addr} {n m c d : Nat} {xs ys : List Nat} (hx : Num w A n c xs) (hy : Num w B m d ys) (a : Int) (hcmp : cmpI (Nm.val xs) (Nm.val ys) = a) (ha : 0 ≤ a) (hge : Nm.val ys ≤ Nm.val xs) (rs : List Nat) (hr : Nm.nat (Nm.val xs - Nm.val ys) = rs) :
    Calls Tryd.prog 15 #[nt A n c, nt B m d] w fun e w' => ∃ A' c', e = .returned (.tuple #[nt A' rs.length c', .bool true]) ∧ rs.length ≤ c' ∧ Fr w.heap.size w' A' rs ∧ Below w.heap.size w w' := by
  subst hr
  obtain rfl := hx.len
  obtain rfl := hy.len
  have s1 := hx.small
  have s2 := hy.small
  have dx := hx.dig
  have dy := hy.dig
  go_enter Tryd.func15, Tryd.ntmps15
  go_wp2_with fail
  have vx := Var.new hx
  have vx := vx.below (two _ (Obj.cells #[Value.slice B ys.length d] 24) (Obj.cells #[Value.slice none 0 0] 24))
  have vy : Var _ (w.heap.size + 1) B ys.length d ys := Var.at_ (hy.below (one _ (Obj.cells #[Value.slice A xs.length c] 24))) (by simp)
  have vy := vy.below (one _ (Obj.cells #[Value.slice none 0 0] 24))
  have hb1 := three w (Obj.cells #[Value.slice A xs.length c] 24) (Obj.cells #[Value.slice B ys.length d] 24) (Obj.cells #[Value.slice none 0 0] 24)
  clear hx hy
  have hcell0 : (((w.alloc (Obj.cells #[Value.slice A xs.length c] 24)).alloc (Obj.cells #[Value.slice B ys.length d] 24)).alloc (Obj.cells #[Value.slice none 0 0] 24)).cell? ⟨w.heap.size + 1 + 1, 0, none⟩ = some (.slice none 0 0) := new_cell _ _ _ _ (by simp)
  have hfz0 : (((w.alloc (Obj.cells #[Value.slice A xs.length c] 24)).alloc (Obj.cells #[Value.slice B ys.length d] 24)).alloc (Obj.cells #[Value.slice none 0 0] 24)).frozen? ⟨w.heap.size + 1 + 1, 0, none⟩ = false := new_soft _ _ _ _ (by simp)
  have hs0 : (((w.alloc (Obj.cells #[Value.slice A xs.length c] 24)).alloc (Obj.cells #[Value.slice B ys.length d] 24)).alloc (Obj.cells #[Value.slice none 0 0] 24)).heap.size = w.heap.size + 1 + 1 + 1 := by simp
  refine (hcmp ▸ refCmp_n vx.num vy.num).mono ?_
  rintro e w1 ⟨rfl, hs⟩
  obtain ⟨k1, k2⟩ := seen hs
  have hcell1 : w1.cell? ⟨w.heap.size + 1 + 1, 0, none⟩ = some (.slice none 0 0) := by rw [k1 _ _ (by omega)]; exact hcell0
  have hfz1 : w1.frozen? ⟨w.heap.size + 1 + 1, 0, none⟩ = false := by rw [k2 _ _ (by omega)]; exact hfz0
  have hs1 : w.heap.size + 1 + 1 + 1 ≤ w1.heap.size := by have := hs.size; omega
  have vx := vx.below hs
  have vy := vy.below hs
  have hb1 := up hb1 hs
  clear k1 k2 hs hcell0 hfz0 hs0
  have kvx := vx.cell
  have kvy := vy.cell
  have ha0 : ¬ a < 0 := by omega
  clear hcmp ha
  go_wp2_with fail
  go_loopw [6, 7, 8] (fun ov cv iv wr => SubRel w1.heap.size xs ys w1 ov cv iv wr) (fun _ _ i _ => 402 - (intOf i).toNat)
  case atStart => exact ⟨0, 0, [], _, by omega, rfl, Ow.nil _ _, rfl, rfl, by omega, rfl, Nm.Dig.nil, by show _ = _; simp [Nm.val], Below.refl _ _, Nat.le_refl _⟩
  case round =>
    obtain ⟨k, o, rs, v, hk, hv, how, hrl, rfl, ho, rfl, hrd, hval, hbj, hBj⟩ := hrel
    obtain rfl := hv.symm
    have vx := vx.below hbj
    have vy := vy.below hbj
    have kvx := vx.cell
    have kvy := vy.cell
    by_cases hlt : k < xs.length
    · have q1 := Nm.dg_lt dx k
      have q2 := Nm.dg_lt dy k
      obtain ⟨s, hs⟩ : ∃ s, 4294967296 + Nm.dg xs k - Nm.dg ys k - o = s := ⟨_, rfl⟩
      have hs2 : s < 8589934592 := by omega
      have hstep : Hid (Nm.val (rs ++ [s % 4294967296]) + Nm.val (ys.take (k + 1)) = Nm.val (xs.take (k + 1)) + 4294967296 ^ (k + 1) * (1 - s / 4294967296)) := by
        show _ = _
        rw [Nm.val_append, Nm.val_take_dg, Nm.val_take_dg, hrl.out]
        have e := hval.out
        have e2 : Nm.val [s % 4294967296] = s % 4294967296 := by simp [Nm.val]
        rw [e2, Nat.pow_succ, Nat.mul_assoc]
        have e3 : s % 4294967296 + Nm.dg ys k + o = Nm.dg xs k + 4294967296 * (1 - s / 4294967296) := by omega
        have e4 := congrArg (fun t => 4294967296 ^ k * t) e3
        simp only [Nat.mul_add] at e4
        omega
      have hdig : Nm.Dig (rs ++ [s % 4294967296]) := hrd.append (Nm.Dig.mk (by omega) Nm.Dig.nil)
      have Hs := Lib.hid hs
      have Hs2 := Lib.hid hs2
      have Q1 := Lib.hid q1
      have Q2 := Lib.hid q2
      have hkm : k ≤ 400 := by omega
      clear hval q1 q2 hs hs2
      go_wp2_with fail
      refine wp_region_on (by kernel_rfl) (rsubF xs ys k o s) [2, 3, 8, 7] 43 [9, 22, 23, 24, 25, 26, 27, 28, 29, 30, 31] rfl (by kernel_rfl) (by kernel_rfl) ?_ ?_ ?_
      · intro t ht
        simp only [List.mem_cons, List.not_mem_nil, or_false] at ht
        rcases ht with rfl | rfl | rfl | rfl
        · exact ⟨_, _, _, rfl, vx⟩
        · exact ⟨_, _, _, rfl, vy⟩
        · rfl
        · rfl
      · refine List.forall_mem_cons.2 ⟨ob_load 2 22 xs rfl rfl (by first | exact .inl rfl | exact .inr ⟨_, _, _, rfl, rfl, by kernel_rfl, by decide, rfl⟩) (by kernel_rfl) rfl rfl, ?_⟩
        refine List.forall_mem_cons.2 ⟨ob_copy 8 23 (.inl rfl) rfl (by first | exact .inl rfl | exact .inr ⟨_, _, _, rfl, rfl, by kernel_rfl, by decide, rfl⟩) (by kernel_rfl) rfl, ?_⟩
        refine List.forall_mem_cons.2 ⟨ob_call2 41 22 23 24 _ rfl rfl (by first | exact .inl rfl | exact .inr ⟨_, _, _, rfl, rfl, by kernel_rfl, by decide, rfl⟩) (by kernel_rfl) (by kernel_rfl) (by kernel_rfl) (c_digit xs k), ?_⟩
        refine List.forall_mem_cons.2 ⟨ob_one 24 25 _ _ rfl (by first | exact .inl rfl | exact .inr ⟨_, _, _, rfl, rfl, by kernel_rfl, by decide, rfl⟩) (by kernel_rfl) rfl rfl (fun a w h1 => go_addc_u64 _ _ _ (by have := Hs.out; have := Q1.out; have := Q2.out; omega) (by have := Hs.out; have := Q1.out; have := Q2.out; omega) (by have := Hs.out; have := Q1.out; have := Q2.out; omega) a w 24 _ rfl h1), ?_⟩
        refine List.forall_mem_cons.2 ⟨ob_load 3 26 ys rfl rfl (by first | exact .inl rfl | exact .inr ⟨_, _, _, rfl, rfl, by kernel_rfl, by decide, rfl⟩) (by kernel_rfl) rfl rfl, ?_⟩
        refine List.forall_mem_cons.2 ⟨ob_copy 8 27 (.inl rfl) rfl (by first | exact .inl rfl | exact .inr ⟨_, _, _, rfl, rfl, by kernel_rfl, by decide, rfl⟩) (by kernel_rfl) rfl, ?_⟩
        refine List.forall_mem_cons.2 ⟨ob_call2 41 26 27 28 _ rfl rfl (by first | exact .inl rfl | exact .inr ⟨_, _, _, rfl, rfl, by kernel_rfl, by decide, rfl⟩) (by kernel_rfl) (by kernel_rfl) (by kernel_rfl) (c_digit ys k), ?_⟩
        refine List.forall_mem_cons.2 ⟨ob_two 25 28 29 _ _ _ rfl (by first | exact .inl rfl | exact .inr ⟨_, _, _, rfl, rfl, by kernel_rfl, by decide, rfl⟩) (by kernel_rfl) (by kernel_rfl) rfl rfl rfl (fun a w h1 h2 => go_sub_u64 _ _ _ (by have := Hs.out; have := Q1.out; have := Q2.out; omega) (by have := Hs.out; have := Q1.out; have := Q2.out; omega) (by have := Hs.out; have := Q1.out; have := Q2.out; omega) a w 25 28 _ rfl h1 h2), ?_⟩
        refine List.forall_mem_cons.2 ⟨ob_copy 7 30 (.inl rfl) rfl (by first | exact .inl rfl | exact .inr ⟨_, _, _, rfl, rfl, by kernel_rfl, by decide, rfl⟩) (by kernel_rfl) rfl, ?_⟩
        refine List.forall_mem_cons.2 ⟨ob_two 29 30 31 _ _ _ rfl (by first | exact .inl rfl | exact .inr ⟨_, _, _, rfl, rfl, by kernel_rfl, by decide, rfl⟩) (by kernel_rfl) (by kernel_rfl) rfl rfl rfl (fun a w h1 h2 => go_sub_u64 _ _ _ (by have := Hs.out; have := Q1.out; have := Q2.out; omega) (by have := Hs.out; have := Q1.out; have := Q2.out; omega) (by have := Hs.out; have := Q1.out; have := Q2.out; omega) a w 29 30 _ rfl h1 h2), ?_⟩
        refine List.forall_mem_cons.2 ⟨ob_copy 31 9 (.inr rfl) rfl (by first | exact .inl rfl | exact .inr ⟨_, _, _, rfl, rfl, by kernel_rfl, by decide, rfl⟩) (by kernel_rfl) rfl, ?_⟩
        exact fun _ h => absurd h List.not_mem_nil
      intro vv wv hvv hbv
      have hv9 : vv 9 = .int .u64 (s : Int) := hvv 9 (by decide)
      simp only [lay, List.foldl_cons, List.foldl_nil, List.setIfInBounds_toArray, List.set_cons_succ, List.set_cons_zero, hv9]
      have how := how.other hbv
      have hbj := up hbj hbv
      have hBj := Nat.le_trans hBj hbv.size
      clear hbv hvv kvx kvy
      go_wp2_with (at_builtin
                   refine wpList_push rfl (.tmp 32) (.tmp 36) rfl w1.heap.size v rs (s % 4294967296) _ 1 rfl rfl (how.other (one _ _)) (by exact mod_cell _ s) (by rw [hrl.out]; omega) (by simp; omega) ?_
                   intro v4 w4 hown4 hg4 hat4)
      have hb4 := hbj.grown (grown_alloc hg4) hBj (fun k' hk' => (World.ownsRow.lt how k' hk').1)
      refine ⟨⟨k + 1, 1 - s / 4294967296, rs ++ [s % 4294967296], v4, by omega, rfl, hown4, ?_, congrArg (Value.int .u64) (wrap_borrow Hs2.out), by omega, by go_num, hdig, hstep, hb4, Nat.le_trans hBj (grown_alloc hg4).size⟩, by simp [intOf]; omega⟩
      show _ = _
      rw [List.length_append, hrl.out]; rfl
    · have hkk : k = xs.length := by omega
      have hfin : Nm.nat (Nm.val rs) = Nm.nat (Nm.val xs - Nm.val ys) := by
        have e := hval.out
        have b1 := Nm.val_lt dx
        have b3 := Nm.val_lt hrd
        have hY : Nm.val (ys.take k) = Nm.val ys := by
          rcases Nat.lt_or_ge ys.length k with h3 | h3
          · rw [List.take_of_length_le (by omega)]
          · have h4 := Nm.val_split ys k h3
            have h5 : Nm.val (ys.drop k) = 0 := by
              rcases Nat.eq_zero_or_pos (Nm.val (ys.drop k)) with h6 | h6
              · exact h6
              · have h7 := Nat.mul_le_mul_left (4294967296 ^ k) h6
                rw [hkk] at h7 h4
                omega
            rw [h5] at h4
            omega
        rw [hY, List.take_of_length_le (by omega)] at e
        rw [hrl.out, hkk] at b3
        rw [hkk] at e
        have ho : o = 0 := by
          rcases Nat.eq_zero_or_pos o with h0 | h0
          · exact h0
          · have h1 : o = 1 := by omega
            subst h1
            omega
        rw [ho, Nat.mul_zero] at e
        congr 1
        omega
      have Hf := Lib.hid hfin
      obtain ⟨A', c', hve, hcc, hfr⟩ := how.slice
      subst hve
      have hrl2 : rs.length ≤ 401 := by rw [hrl.out]; omega
      clear hfin hval hkk
      go_wp2_with fail
      refine (refTrim_n hfr.rd rfl (by omega) hrd Hf.out).mono ?_
      rintro e w5 ⟨A5, c5, rfl, hc5, hf5, hb5⟩
      obtain ⟨k1, k2⟩ := seen (up hbj hb5)
      have hcr : w5.cell? ⟨w.heap.size + 1 + 1, 0, none⟩ = some (.slice none 0 0) := by rw [k1 _ _ (by omega)]; exact hcell1
      have hfr1 : w5.frozen? ⟨w.heap.size + 1 + 1, 0, none⟩ = false := by rw [k2 _ _ (by omega)]; exact hfz1
      clear k1 k2
      go_wp2_with fail
      refine bodyPost_ret (v := .tuple #[nt A5 (Nm.nat (Nm.val xs - Nm.val ys)).length c5, .bool true]) (by simp [results, Tryd.results15, go_sem, hcr]) rfl ⟨A5, c5, rfl, hc5, ?_, ?_⟩
      · exact (hf5.mono (by have := hbj.size; omega)).setCell hcr (by simp)
      · exact (up hb1 (up hbj hb5)).setCell (by show w.heap.size ≤ w.heap.size + 1 + 1; omega) _
theorem refSub_n {w : World} {A B : Option Addr} {n m c d : Nat} {xs ys : List Nat} (hx : Num w A n c xs) (hy : Num w B m d ys) (rs : List Nat) (b : Bool) (hr : Nm.nat (Nm.val xs - Nm.val ys) = rs) (hb : decide (Nm.val ys ≤ Nm.val xs) = b) :
    Calls Tryd.prog 15 #[nt A n c, nt B m d] w fun e w' => ∃ A' c', e = .returned (.tuple #[nt A' rs.length c', .bool b]) ∧ rs.length ≤ c' ∧ Fr w.heap.size w' A' rs ∧ Below w.heap.size w w' := by
  subst hb
  rcases Nat.lt_or_ge (Nm.val xs) (Nm.val ys) with h | h
  · rw [decide_eq_false (by omega)]
    rw [show Nm.val xs - Nm.val ys = 0 from by omega, Nm.nat_zero] at hr
    exact refSub_lt hx hy (cmpI_lt' h) rs hr.symm
  · rw [decide_eq_true h]
    refine refSub_ge hx hy _ rfl ?_ h rs hr
    rcases cmpI_cases (Nm.val xs) (Nm.val ys) with h1 | h1 | h1 <;> omega
end Go.Proofs.YtaiceebhifecbaaDoor

/-
  Types described by the program and by the reference. No conditions beyond those that each names.
-/
import Derived.Test.YthbhbpcjcnkkkaaGreatDoorK19
namespace Go.Proofs.YthbhbpcjcnkkkaaGreatDoor
open Go.RowKit Go.Maps
theorem dts_append (l m : List Ty) : dts (l ++ m) = dts l ++ dts m := by
  induction l with
  | nil => rw [List.nil_append, dts, List.nil_append]
  | cons f l ih => rw [List.cons_append, dts, dts, ih, List.append_assoc]
theorem dts_snoc {l : List Ty} {k : Nat} (h : k < l.length) : dts (l.take (k + 1)) = dts (l.take k) ++ dt (l[k]'h) := by
  rw [List.take_succ_eq_append_getElem h, dts_append, dts, dts, List.append_nil]
theorem dts_take_le (l : List Ty) (k : Nat) : (dts (l.take k)).length ≤ (dts l).length := by
  have h := dts_append (l.take k) (l.drop k)
  rw [List.take_append_drop] at h
  rw [h, List.length_append]
  omega
theorem uv_pos (n : Nat) : 1 ≤ (uv n).length := by
  by_cases h : n < 128
  · rw [uv_small h]; simp
  · rw [uv_big h]; simp
theorem dts_ge (l : List Ty) : l.length ≤ (dts l).length := by
  induction l with
  | nil => exact Nat.zero_le _
  | cons t l ih =>
    obtain ⟨k, s, n, e⟩ := t
    rw [dts, List.length_cons, List.length_append, dt, List.length_append]
    have : 1 ≤ (cnt k).length := uv_pos _
    omega
/-- The length of a slice. -/
theorem len_op {o : Oper} (t : Nat) {ty e : TypeId} (hty : Tryz.prog.underlying ty = some (.slice e)) (ho : o.op = .call { callee := .builtin .len, args := #[.tmp t], argTypes := #[ty] }) {a : Act} {w : World} {A : Option Addr} {n c : Nat} (h1 : a.eval (.tmp t) = .slice A n c) :
    (execOp a.eval o).run Tryz.prog w = .ok (.value (.int .i64 (n : Int))) w := by
  unfold execOp
  simp only [ho, resolve, invoke, builtin, Sem.run_bind, Sem.run_pure, Result.andThen_ok, List.map_toArray, List.map_cons, List.map_nil, h1]
  simp [Builtin.len_, run_underlying hty]
  rfl
section
variable {ops : Array Oper} {Q : Exit → Act → World → Prop} {F : Nat → Fact} {base : List Nat} {N : Nat} {o : Oper} {W0 : World}
/-- Two known strings joined. -/
theorem atcat (t s d : Nat) (a b : List UInt8) (ho : o.op = .binOp .add 9 (.tmp t) (.tmp s) 9) (hd : o.dst = some d) (hg : Gd W0 ops F base N o) (hk : known ops base o t = true) (hk2 : known ops base o s = true) (hv : F t = Fact.at_ W0 (.string (bs a))) (hv2 : F s = Fact.at_ W0 (.string (bs b))) (hF : F d = Fact.at_ W0 (.string (bs (a ++ b)))) (hl : (a ++ b).length ≤ 1000000) : Ob ops Q F base N o :=
  at2 t s d _ _ (.string (bs (a ++ b))) hd hg hk hk2 hv hv2 hF fun a9 W9 hb9 h9 h8 => by
    have k1 := bs_append a b
    have k2 : (bs a).size = a.length := rfl
    have k3 : (bs b).size = b.length := rfl
    rw [List.length_append] at hl
    simp [execOp, ho, h9, h8] <;> go_simp <;> omega
end
set_option maxRecDepth 100000 in
set_option maxHeartbeats 4000000 in
theorem describeType_any (N : Nat) : ∀ (S : Sch) (t : Ty) (u : Value) (w : World), SizeOf.sizeOf t < N → right S t = true → (dt t).length ≤ 100000 → TyV w t u →
    Calls Tryz.prog 80 #[u] w (Ib (.string (bs (dt t))) w) := by
  induction N with
  | zero => intro S t u w h; omega
  | succ N ih =>
    intro S t u w hN hr hL hu
    obtain ⟨k, s, nm, e⟩ := t
    obtain ⟨-, -, k1, k2, s1, s2⟩ := szOk_i64 (k := k) (s := s) (by have h := hr; rw [right_eq, Bool.and_eq_true] at h; exact h.1)
    have hel : ∀ t ∈ e, right S t = true := by
      rcases right_elem hr with ⟨-, t, rfl, ht⟩ | ⟨-, rfl⟩
      · intro t' ht'; obtain rfl := List.mem_singleton.1 ht'; exact ht
      · intro t' ht'; cases ht'
    have hsz0 : ∀ t ∈ e, SizeOf.sizeOf t < N := fun t ht => by
      have := List.sizeOf_lt_of_mem ht
      simp at hN
      omega
    have hdl : dt (.mk k s nm e) = cnt k ++ (cnt s ++ (txt nm ++ (uv e.length ++ dts e))) := by rw [dt]
    rw [hdl] at hL ⊢
    clear hdl hr hN
    have hnl : nm.length ≤ (txt nm).length := by unfold txt; rw [List.length_append]; omega
    rw [TyV.mk_] at hu
    obtain ⟨A, c, rfl, hR⟩ := hu
    obtain ⟨q, hq⟩ : ∃ q, e.length = q := ⟨_, rfl⟩
    have HQ := Lib.hid hq
    have hge := dts_ge e
    rw [hq] at hL hge ⊢
    simp only [List.length_append] at hL
    have hq9 : q ≤ 100000 := by omega
    have c1 := fun W => number_any k W (by omega) (by omega)
    have c2 := fun W => number_any s W (by omega) (by omega)
    have c3 := fun W => text_any nm W (by omega)
    have c4 := fun W => number_any (q : Int) W (by omega) (by omega)
    rw [cnt_nat q (by omega)] at c4
    generalize cnt k = ck at *
    generalize cnt s = cs at *
    generalize txt nm = tn at *
    generalize uv q = cl at *
    obtain ⟨D, hD⟩ : ∃ D, (((ck ++ cs) ++ tn) ++ cl) = D := ⟨_, rfl⟩
    have hDl : D.length + (dts e).length ≤ 100000 := by rw [← hD]; simp only [List.length_append]; omega
    have hfin : ck ++ (cs ++ (tn ++ (cl ++ dts e))) = D ++ dts e := by rw [← hD]; simp only [List.append_assoc]
    rw [hfin]
    have B1 := Bx.new4 w 45 (.int .i64 k) (.int .i64 s) (.string (bs nm)) (.slice A q c)
    have hab := ab1 w (Obj.cells #[.int .i64 k, .int .i64 s, .string (bs nm), .slice A q c] 45)
    clear hq hfin hnl k1 k2 s1 s2
    go_enter Tryz.func80, Tryz.ntmps80
    go_upto_region 1 with (fail)
    generalize w.alloc (Obj.cells #[.int .i64 k, .int .i64 s, .string (bs nm), .slice A q c] 45) = W1 at *
    have p0 := B1.c 0 rfl
    have p1 := B1.c 1 rfl
    have p2 := B1.c 2 rfl
    have p3 := B1.c 3 rfl
    have p4 := B1.lt
    refine wp_region_on (by kernel_rfl) (FF [(1, Fact.at_ W1 (.pointer (some ⟨w.heap.size, 0, none⟩))), (6, Fact.at_ W1 (.pointer (some ⟨w.heap.size, 0, none⟩))), (7, Fact.at_ W1 (.int .i64 k)), (8, Fact.at_ W1 (.string (bs ck))), (9, Fact.at_ W1 (.pointer (some ⟨w.heap.size, 1, none⟩))), (10, Fact.at_ W1 (.int .i64 s)), (11, Fact.at_ W1 (.string (bs cs))), (12, Fact.at_ W1 (.string (bs (ck ++ cs)))), (13, Fact.at_ W1 (.pointer (some ⟨w.heap.size, 2, none⟩))), (14, Fact.at_ W1 (.string (bs nm))), (15, Fact.at_ W1 (.string (bs tn))), (16, Fact.at_ W1 (.string (bs ((ck ++ cs) ++ tn)))), (17, Fact.at_ W1 (.pointer (some ⟨w.heap.size, 3, none⟩))), (18, Fact.at_ W1 (.slice A q c)), (19, Fact.at_ W1 (.int .i64 (q : Int))), (20, Fact.at_ W1 (.string (bs cl))), (21, Fact.at_ W1 (.string (bs (((ck ++ cs) ++ tn) ++ cl)))), (3, Fact.at_ W1 (.string (bs (((ck ++ cs) ++ tn) ++ cl))))]) [1] 35 [6, 7, 8, 9, 10, 11, 12, 13, 14, 15, 16, 17, 18, 19, 20, 21, 3] rfl (by kernel_rfl) (by kernel_rfl) ?_ ?_ ?_
    · intro t9 ht9
      simp only [List.mem_cons, List.not_mem_nil, or_false] at ht9
      rcases ht9 with rfl
      · exact ⟨rfl, Below.refl _ _⟩
    · refine fcs ⟨at1 1 6 (.pointer (some ⟨w.heap.size, 0, none⟩)) (.pointer (some ⟨w.heap.size, 0, none⟩)) rfl (by first | exact .inl rfl | exact .inr ⟨_, _, _, rfl, rfl, by kernel_rfl, by decide, rfl⟩) (by kernel_rfl) rfl rfl (fun a9 W9 hb9 h9 => by simp [execOp, h9] <;> go_simp), ?_⟩
      refine fcs ⟨at1 6 7 (.pointer (some ⟨w.heap.size, 0, none⟩)) (.int .i64 k) rfl (by first | exact .inl rfl | exact .inr ⟨_, _, _, rfl, rfl, by kernel_rfl, by decide, rfl⟩) (by kernel_rfl) rfl rfl (fun a9 W9 hb9 h9 => by have g0 := cell_next hb9 p0; simp [execOp, h9] <;> go_simp), ?_⟩
      refine fcs ⟨atc1 78 7 8 (.int .i64 k) (.string (bs ck)) _ rfl rfl (by first | exact .inl rfl | exact .inr ⟨_, _, _, rfl, rfl, by kernel_rfl, by decide, rfl⟩) (by kernel_rfl) rfl (by kernel_rfl) rfl (fun W9 hb9 => c1 W9), ?_⟩
      refine fcs ⟨at1 1 9 (.pointer (some ⟨w.heap.size, 0, none⟩)) (.pointer (some ⟨w.heap.size, 1, none⟩)) rfl (by first | exact .inl rfl | exact .inr ⟨_, _, _, rfl, rfl, by kernel_rfl, by decide, rfl⟩) (by kernel_rfl) rfl rfl (fun a9 W9 hb9 h9 => by simp [execOp, h9] <;> go_simp), ?_⟩
      refine fcs ⟨at1 9 10 (.pointer (some ⟨w.heap.size, 1, none⟩)) (.int .i64 s) rfl (by first | exact .inl rfl | exact .inr ⟨_, _, _, rfl, rfl, by kernel_rfl, by decide, rfl⟩) (by kernel_rfl) rfl rfl (fun a9 W9 hb9 h9 => by have g0 := cell_next hb9 p1; simp [execOp, h9] <;> go_simp), ?_⟩
      refine fcs ⟨atc1 78 10 11 (.int .i64 s) (.string (bs cs)) _ rfl rfl (by first | exact .inl rfl | exact .inr ⟨_, _, _, rfl, rfl, by kernel_rfl, by decide, rfl⟩) (by kernel_rfl) rfl (by kernel_rfl) rfl (fun W9 hb9 => c2 W9), ?_⟩
      refine fcs ⟨atcat 8 11 12 ck cs rfl rfl (by first | exact .inl rfl | exact .inr ⟨_, _, _, rfl, rfl, by kernel_rfl, by decide, rfl⟩) (by kernel_rfl) (by kernel_rfl) rfl rfl rfl (by simp only [List.length_append]; omega), ?_⟩
      refine fcs ⟨at1 1 13 (.pointer (some ⟨w.heap.size, 0, none⟩)) (.pointer (some ⟨w.heap.size, 2, none⟩)) rfl (by first | exact .inl rfl | exact .inr ⟨_, _, _, rfl, rfl, by kernel_rfl, by decide, rfl⟩) (by kernel_rfl) rfl rfl (fun a9 W9 hb9 h9 => by simp [execOp, h9] <;> go_simp), ?_⟩
      refine fcs ⟨at1 13 14 (.pointer (some ⟨w.heap.size, 2, none⟩)) (.string (bs nm)) rfl (by first | exact .inl rfl | exact .inr ⟨_, _, _, rfl, rfl, by kernel_rfl, by decide, rfl⟩) (by kernel_rfl) rfl rfl (fun a9 W9 hb9 h9 => by have g0 := cell_next hb9 p2; simp [execOp, h9] <;> go_simp), ?_⟩
      refine fcs ⟨atc1 79 14 15 (.string (bs nm)) (.string (bs tn)) _ rfl rfl (by first | exact .inl rfl | exact .inr ⟨_, _, _, rfl, rfl, by kernel_rfl, by decide, rfl⟩) (by kernel_rfl) rfl (by kernel_rfl) rfl (fun W9 hb9 => c3 W9), ?_⟩
      refine fcs ⟨atcat 12 15 16 (ck ++ cs) tn rfl rfl (by first | exact .inl rfl | exact .inr ⟨_, _, _, rfl, rfl, by kernel_rfl, by decide, rfl⟩) (by kernel_rfl) (by kernel_rfl) rfl rfl rfl (by simp only [List.length_append]; omega), ?_⟩
      refine fcs ⟨at1 1 17 (.pointer (some ⟨w.heap.size, 0, none⟩)) (.pointer (some ⟨w.heap.size, 3, none⟩)) rfl (by first | exact .inl rfl | exact .inr ⟨_, _, _, rfl, rfl, by kernel_rfl, by decide, rfl⟩) (by kernel_rfl) rfl rfl (fun a9 W9 hb9 h9 => by simp [execOp, h9] <;> go_simp), ?_⟩
      refine fcs ⟨at1 17 18 (.pointer (some ⟨w.heap.size, 3, none⟩)) (.slice A q c) rfl (by first | exact .inl rfl | exact .inr ⟨_, _, _, rfl, rfl, by kernel_rfl, by decide, rfl⟩) (by kernel_rfl) rfl rfl (fun a9 W9 hb9 h9 => by have g0 := cell_next hb9 p3; simp [execOp, h9] <;> go_simp), ?_⟩
      refine fcs ⟨at1 18 19 (.slice A q c) (.int .i64 (q : Int)) rfl (by first | exact .inl rfl | exact .inr ⟨_, _, _, rfl, rfl, by kernel_rfl, by decide, rfl⟩) (by kernel_rfl) rfl rfl (fun a9 W9 hb9 h9 => by exact len_op 18 Tryz.underlying43 rfl h9), ?_⟩
      refine fcs ⟨atc1 78 19 20 (.int .i64 (q : Int)) (.string (bs cl)) _ rfl rfl (by first | exact .inl rfl | exact .inr ⟨_, _, _, rfl, rfl, by kernel_rfl, by decide, rfl⟩) (by kernel_rfl) rfl (by kernel_rfl) rfl (fun W9 hb9 => c4 W9), ?_⟩
      refine fcs ⟨atcat 16 20 21 ((ck ++ cs) ++ tn) cl rfl rfl (by first | exact .inl rfl | exact .inr ⟨_, _, _, rfl, rfl, by kernel_rfl, by decide, rfl⟩) (by kernel_rfl) (by kernel_rfl) rfl rfl rfl (by simp only [List.length_append]; omega), ?_⟩
      refine fcs ⟨atcopy 21 3 (.string (bs (((ck ++ cs) ++ tn) ++ cl))) (.inr rfl) rfl (by first | exact .inl rfl | exact .inr ⟨_, _, _, rfl, rfl, by kernel_rfl, by decide, rfl⟩) (by kernel_rfl) rfl rfl, ?_⟩
      exact fnl
    intro vv wv hvv hbv
    have hv3 : vv 3 = (.string (bs (((ck ++ cs) ++ tn) ++ cl))) := (hvv 3 (by decide)).1
    rw [hD] at hv3
    simp only [lay, List.foldl_cons, List.foldl_nil, List.setIfInBounds_toArray, List.set_cons_succ, List.set_cons_zero, hv3]
    have B2 := B1.next hbv
    have hb2 := Below.next hab hbv
    clear hvv c1 c2 c3 c4 p0 p1 p2 p3 p4 hD hL B1
    have p3 := B2.c 3 rfl
    have p4 := B2.lt
    go_wp2_with fail
    go_loopw [3, 25] (fun a_ i_ wr => ∃ j : Nat, j ≤ q ∧ i_ = .int .i64 (j : Int) ∧ a_ = .string (bs (D ++ dts (e.take j))) ∧ Bx wr w.heap.size [.int .i64 k, .int .i64 s, .string (bs nm), .slice A q c] ∧ Below w.heap.size w wr) (fun _ i_ _ => q - (intOf i_).toNat)
    case atStart => exact ⟨0, by omega, rfl, by rw [List.take_zero, dts, List.append_nil], B2, hb2⟩
    case round =>
      clear B2 hb2 p3 p4
      obtain ⟨j, hj, rfl, rfl, R1, hbx⟩ := hrel
      have p3 := R1.c 3 rfl
      have p4 := R1.lt
      by_cases hlt : j < q
      · have hje : j < e.length := by rw [HQ.out]; exact hlt
        obtain ⟨a4, rfl, hA4⟩ := hR.get hje
        have htm := List.getElem_mem hje
        have hsn := dts_snoc hje
        have hsz := hsz0 _ htm
        obtain ⟨A5, c5, e0, e1, e2, e3, hV⟩ := hA4.val
        have hlx := dts_take_le e (j + 1)
        generalize e[j]'hje = t at *
        replace e0 := cell_next hbx e0
        replace e1 := cell_next hbx e1
        replace e2 := cell_next hbx e2
        replace e3 := cell_next hbx e3
        have hblk : (a4.add (j * 4)).block < wr.heap.size := blk_lt e0
        rw [hsn, List.length_append] at hlx
        have hly : (dt t).length ≤ 100000 := by omega
        have hal := ab1 wr (Obj.cells #[.int .i64 t.kind, .int .i64 t.size, .string (bs t.name), .slice A5 t.elem.length c5] 45)
        have cI := ih S t _ (wr.alloc (Obj.cells #[.int .i64 t.kind, .int .i64 t.size, .string (bs t.name), .slice A5 t.elem.length c5] 45)) hsz (hel t htm) hly (hV.next (Below.next hbx hal))
        have k1 : bs (D ++ dts (e.take j)) ++ bs (dt t) = bs (D ++ dts (e.take (j + 1))) := by rw [bs_append, hsn, List.append_assoc]
        have k2 : (bs (D ++ dts (e.take j))).size ≤ 200000 := by show (D ++ dts (e.take j)).length ≤ 200000; rw [List.length_append]; omega
        have k3 : (bs (dt t)).size ≤ 100000 := hly
        clear hA4 hsn hlx hly hsz
        go_wp2_with fail
        refine cI.mono ?_
        rintro e w5 ⟨rfl, hb5⟩
        have R5 := (R1.next hal).next hb5
        have hb6 := Below.next (Below.next hbx hal) hb5
        clear cI e0 e1 e2 e3 hblk p3 p4
        go_wp2_with fail
        go_roundw
        case rel => exact ⟨j + 1, by omega, by go_num, (by first | rfl | exact congrArg Value.string k1), R5, hb6⟩
        case measure => simp [intOf]; omega
      · obtain rfl : j = q := by omega
        have hE := Lib.hid (show D ++ dts (e.take j) = D ++ dts e by rw [← HQ.out, List.take_length])
        go_wp2_with fail
        go_ret
        exact ⟨by rw [hE.out]; rfl, hbx⟩
set_option maxRecDepth 100000 in
set_option maxHeartbeats 4000000 in
theorem refDescribeType_any (N : Nat) : ∀ (S : Sch) (t : Ty) (u : Value) (w : World), SizeOf.sizeOf t < N → right S t = true → (dt t).length ≤ 100000 → TyV w t u →
    Calls Tryz.prog 86 #[u] w (Ib (.string (bs (dt t))) w) := by
  induction N with
  | zero => intro S t u w h; omega
  | succ N ih =>
    intro S t u w hN hr hL hu
    obtain ⟨k, s, nm, e⟩ := t
    obtain ⟨-, -, k1, k2, s1, s2⟩ := szOk_i64 (k := k) (s := s) (by have h := hr; rw [right_eq, Bool.and_eq_true] at h; exact h.1)
    have hel : ∀ t ∈ e, right S t = true := by
      rcases right_elem hr with ⟨-, t, rfl, ht⟩ | ⟨-, rfl⟩
      · intro t' ht'; obtain rfl := List.mem_singleton.1 ht'; exact ht
      · intro t' ht'; cases ht'
    have hsz0 : ∀ t ∈ e, SizeOf.sizeOf t < N := fun t ht => by
      have := List.sizeOf_lt_of_mem ht
      simp at hN
      omega
    have hdl : dt (.mk k s nm e) = cnt k ++ (cnt s ++ (txt nm ++ (uv e.length ++ dts e))) := by rw [dt]
    rw [hdl] at hL ⊢
    clear hdl hr hN
    have hnl : nm.length ≤ (txt nm).length := by unfold txt; rw [List.length_append]; omega
    rw [TyV.mk_] at hu
    obtain ⟨A, c, rfl, hR⟩ := hu
    obtain ⟨q, hq⟩ : ∃ q, e.length = q := ⟨_, rfl⟩
    have HQ := Lib.hid hq
    have hge := dts_ge e
    rw [hq] at hL hge ⊢
    simp only [List.length_append] at hL
    have hq9 : q ≤ 100000 := by omega
    have c1 := fun W => refCount_any k W (by omega) (by omega)
    have c2 := fun W => refCount_any s W (by omega) (by omega)
    have c3 := fun W => refText_any nm W (by omega)
    have c4 := fun W => refCount_any (q : Int) W (by omega) (by omega)
    rw [cnt_nat q (by omega)] at c4
    generalize cnt k = ck at *
    generalize cnt s = cs at *
    generalize txt nm = tn at *
    generalize uv q = cl at *
    obtain ⟨D, hD⟩ : ∃ D, (((ck ++ cs) ++ tn) ++ cl) = D := ⟨_, rfl⟩
    have hDl : D.length + (dts e).length ≤ 100000 := by rw [← hD]; simp only [List.length_append]; omega
    have hfin : ck ++ (cs ++ (tn ++ (cl ++ dts e))) = D ++ dts e := by rw [← hD]; simp only [List.append_assoc]
    rw [hfin]
    have B1 := Bx.new4 w 45 (.int .i64 k) (.int .i64 s) (.string (bs nm)) (.slice A q c)
    have hab := ab1 w (Obj.cells #[.int .i64 k, .int .i64 s, .string (bs nm), .slice A q c] 45)
    clear hq hfin hnl k1 k2 s1 s2
    go_enter Tryz.func86, Tryz.ntmps86
    go_upto_region 1 with (fail)
    generalize w.alloc (Obj.cells #[.int .i64 k, .int .i64 s, .string (bs nm), .slice A q c] 45) = W1 at *
    have p0 := B1.c 0 rfl
    have p1 := B1.c 1 rfl
    have p2 := B1.c 2 rfl
    have p3 := B1.c 3 rfl
    have p4 := B1.lt
    refine wp_region_on (by kernel_rfl) (FF [(1, Fact.at_ W1 (.pointer (some ⟨w.heap.size, 0, none⟩))), (5, Fact.at_ W1 (.pointer (some ⟨w.heap.size, 0, none⟩))), (6, Fact.at_ W1 (.int .i64 k)), (7, Fact.at_ W1 (.string (bs ck))), (8, Fact.at_ W1 (.pointer (some ⟨w.heap.size, 1, none⟩))), (9, Fact.at_ W1 (.int .i64 s)), (10, Fact.at_ W1 (.string (bs cs))), (11, Fact.at_ W1 (.string (bs (ck ++ cs)))), (12, Fact.at_ W1 (.pointer (some ⟨w.heap.size, 2, none⟩))), (13, Fact.at_ W1 (.string (bs nm))), (14, Fact.at_ W1 (.string (bs tn))), (15, Fact.at_ W1 (.string (bs ((ck ++ cs) ++ tn)))), (16, Fact.at_ W1 (.pointer (some ⟨w.heap.size, 3, none⟩))), (17, Fact.at_ W1 (.slice A q c)), (18, Fact.at_ W1 (.int .i64 (q : Int))), (19, Fact.at_ W1 (.string (bs cl))), (20, Fact.at_ W1 (.string (bs (((ck ++ cs) ++ tn) ++ cl)))), (3, Fact.at_ W1 (.string (bs (((ck ++ cs) ++ tn) ++ cl))))]) [1] 37 [5, 6, 7, 8, 9, 10, 11, 12, 13, 14, 15, 16, 17, 18, 19, 20, 3] rfl (by kernel_rfl) (by kernel_rfl) ?_ ?_ ?_
    · intro t9 ht9
      simp only [List.mem_cons, List.not_mem_nil, or_false] at ht9
      rcases ht9 with rfl
      · exact ⟨rfl, Below.refl _ _⟩
    · refine fcs ⟨at1 1 5 (.pointer (some ⟨w.heap.size, 0, none⟩)) (.pointer (some ⟨w.heap.size, 0, none⟩)) rfl (by first | exact .inl rfl | exact .inr ⟨_, _, _, rfl, rfl, by kernel_rfl, by decide, rfl⟩) (by kernel_rfl) rfl rfl (fun a9 W9 hb9 h9 => by simp [execOp, h9] <;> go_simp), ?_⟩
      refine fcs ⟨at1 5 6 (.pointer (some ⟨w.heap.size, 0, none⟩)) (.int .i64 k) rfl (by first | exact .inl rfl | exact .inr ⟨_, _, _, rfl, rfl, by kernel_rfl, by decide, rfl⟩) (by kernel_rfl) rfl rfl (fun a9 W9 hb9 h9 => by have g0 := cell_next hb9 p0; simp [execOp, h9] <;> go_simp), ?_⟩
      refine fcs ⟨atc1 84 6 7 (.int .i64 k) (.string (bs ck)) _ rfl rfl (by first | exact .inl rfl | exact .inr ⟨_, _, _, rfl, rfl, by kernel_rfl, by decide, rfl⟩) (by kernel_rfl) rfl (by kernel_rfl) rfl (fun W9 hb9 => c1 W9), ?_⟩
      refine fcs ⟨at1 1 8 (.pointer (some ⟨w.heap.size, 0, none⟩)) (.pointer (some ⟨w.heap.size, 1, none⟩)) rfl (by first | exact .inl rfl | exact .inr ⟨_, _, _, rfl, rfl, by kernel_rfl, by decide, rfl⟩) (by kernel_rfl) rfl rfl (fun a9 W9 hb9 h9 => by simp [execOp, h9] <;> go_simp), ?_⟩
      refine fcs ⟨at1 8 9 (.pointer (some ⟨w.heap.size, 1, none⟩)) (.int .i64 s) rfl (by first | exact .inl rfl | exact .inr ⟨_, _, _, rfl, rfl, by kernel_rfl, by decide, rfl⟩) (by kernel_rfl) rfl rfl (fun a9 W9 hb9 h9 => by have g0 := cell_next hb9 p1; simp [execOp, h9] <;> go_simp), ?_⟩
      refine fcs ⟨atc1 84 9 10 (.int .i64 s) (.string (bs cs)) _ rfl rfl (by first | exact .inl rfl | exact .inr ⟨_, _, _, rfl, rfl, by kernel_rfl, by decide, rfl⟩) (by kernel_rfl) rfl (by kernel_rfl) rfl (fun W9 hb9 => c2 W9), ?_⟩
      refine fcs ⟨atcat 7 10 11 ck cs rfl rfl (by first | exact .inl rfl | exact .inr ⟨_, _, _, rfl, rfl, by kernel_rfl, by decide, rfl⟩) (by kernel_rfl) (by kernel_rfl) rfl rfl rfl (by simp only [List.length_append]; omega), ?_⟩
      refine fcs ⟨at1 1 12 (.pointer (some ⟨w.heap.size, 0, none⟩)) (.pointer (some ⟨w.heap.size, 2, none⟩)) rfl (by first | exact .inl rfl | exact .inr ⟨_, _, _, rfl, rfl, by kernel_rfl, by decide, rfl⟩) (by kernel_rfl) rfl rfl (fun a9 W9 hb9 h9 => by simp [execOp, h9] <;> go_simp), ?_⟩
      refine fcs ⟨at1 12 13 (.pointer (some ⟨w.heap.size, 2, none⟩)) (.string (bs nm)) rfl (by first | exact .inl rfl | exact .inr ⟨_, _, _, rfl, rfl, by kernel_rfl, by decide, rfl⟩) (by kernel_rfl) rfl rfl (fun a9 W9 hb9 h9 => by have g0 := cell_next hb9 p2; simp [execOp, h9] <;> go_simp), ?_⟩
      refine fcs ⟨atc1 85 13 14 (.string (bs nm)) (.string (bs tn)) _ rfl rfl (by first | exact .inl rfl | exact .inr ⟨_, _, _, rfl, rfl, by kernel_rfl, by decide, rfl⟩) (by kernel_rfl) rfl (by kernel_rfl) rfl (fun W9 hb9 => c3 W9), ?_⟩
      refine fcs ⟨atcat 11 14 15 (ck ++ cs) tn rfl rfl (by first | exact .inl rfl | exact .inr ⟨_, _, _, rfl, rfl, by kernel_rfl, by decide, rfl⟩) (by kernel_rfl) (by kernel_rfl) rfl rfl rfl (by simp only [List.length_append]; omega), ?_⟩
      refine fcs ⟨at1 1 16 (.pointer (some ⟨w.heap.size, 0, none⟩)) (.pointer (some ⟨w.heap.size, 3, none⟩)) rfl (by first | exact .inl rfl | exact .inr ⟨_, _, _, rfl, rfl, by kernel_rfl, by decide, rfl⟩) (by kernel_rfl) rfl rfl (fun a9 W9 hb9 h9 => by simp [execOp, h9] <;> go_simp), ?_⟩
      refine fcs ⟨at1 16 17 (.pointer (some ⟨w.heap.size, 3, none⟩)) (.slice A q c) rfl (by first | exact .inl rfl | exact .inr ⟨_, _, _, rfl, rfl, by kernel_rfl, by decide, rfl⟩) (by kernel_rfl) rfl rfl (fun a9 W9 hb9 h9 => by have g0 := cell_next hb9 p3; simp [execOp, h9] <;> go_simp), ?_⟩
      refine fcs ⟨at1 17 18 (.slice A q c) (.int .i64 (q : Int)) rfl (by first | exact .inl rfl | exact .inr ⟨_, _, _, rfl, rfl, by kernel_rfl, by decide, rfl⟩) (by kernel_rfl) rfl rfl (fun a9 W9 hb9 h9 => by exact len_op 17 Tryz.underlying43 rfl h9), ?_⟩
      refine fcs ⟨atc1 84 18 19 (.int .i64 (q : Int)) (.string (bs cl)) _ rfl rfl (by first | exact .inl rfl | exact .inr ⟨_, _, _, rfl, rfl, by kernel_rfl, by decide, rfl⟩) (by kernel_rfl) rfl (by kernel_rfl) rfl (fun W9 hb9 => c4 W9), ?_⟩
      refine fcs ⟨atcat 15 19 20 ((ck ++ cs) ++ tn) cl rfl rfl (by first | exact .inl rfl | exact .inr ⟨_, _, _, rfl, rfl, by kernel_rfl, by decide, rfl⟩) (by kernel_rfl) (by kernel_rfl) rfl rfl rfl (by simp only [List.length_append]; omega), ?_⟩
      refine fcs ⟨atcopy 20 3 (.string (bs (((ck ++ cs) ++ tn) ++ cl))) (.inr rfl) rfl (by first | exact .inl rfl | exact .inr ⟨_, _, _, rfl, rfl, by kernel_rfl, by decide, rfl⟩) (by kernel_rfl) rfl rfl, ?_⟩
      exact fnl
    intro vv wv hvv hbv
    have hv3 : vv 3 = (.string (bs (((ck ++ cs) ++ tn) ++ cl))) := (hvv 3 (by decide)).1
    rw [hD] at hv3
    simp only [lay, List.foldl_cons, List.foldl_nil, List.setIfInBounds_toArray, List.set_cons_succ, List.set_cons_zero, hv3]
    have B2 := B1.next hbv
    have hb2 := Below.next hab hbv
    clear hvv c1 c2 c3 c4 p0 p1 p2 p3 p4 hD hL B1
    have p3 := B2.c 3 rfl
    have p4 := B2.lt
    go_wp2_with fail
    go_loopw [3, 4] (fun a_ i_ wr => ∃ j : Nat, j ≤ q ∧ i_ = .int .i64 (j : Int) ∧ a_ = .string (bs (D ++ dts (e.take j))) ∧ Bx wr w.heap.size [.int .i64 k, .int .i64 s, .string (bs nm), .slice A q c] ∧ Below w.heap.size w wr) (fun _ i_ _ => q - (intOf i_).toNat)
    case atStart => exact ⟨0, by omega, rfl, by rw [List.take_zero, dts, List.append_nil], B2, hb2⟩
    case round =>
      clear B2 hb2 p3 p4
      obtain ⟨j, hj, rfl, rfl, R1, hbx⟩ := hrel
      have p3 := R1.c 3 rfl
      have p4 := R1.lt
      by_cases hlt : j < q
      · have hje : j < e.length := by rw [HQ.out]; exact hlt
        obtain ⟨a4, rfl, hA4⟩ := hR.get hje
        have htm := List.getElem_mem hje
        have hsn := dts_snoc hje
        have hsz := hsz0 _ htm
        obtain ⟨A5, c5, e0, e1, e2, e3, hV⟩ := hA4.val
        have hlx := dts_take_le e (j + 1)
        generalize e[j]'hje = t at *
        replace e0 := cell_next hbx e0
        replace e1 := cell_next hbx e1
        replace e2 := cell_next hbx e2
        replace e3 := cell_next hbx e3
        have hblk : (a4.add (j * 4)).block < wr.heap.size := blk_lt e0
        rw [hsn, List.length_append] at hlx
        have hly : (dt t).length ≤ 100000 := by omega
        have cI := ih S t _ wr hsz (hel t htm) hly (hV.next hbx)
        have k1 : bs (D ++ dts (e.take j)) ++ bs (dt t) = bs (D ++ dts (e.take (j + 1))) := by rw [bs_append, hsn, List.append_assoc]
        have k2 : (bs (D ++ dts (e.take j))).size ≤ 200000 := by show (D ++ dts (e.take j)).length ≤ 200000; rw [List.length_append]; omega
        have k3 : (bs (dt t)).size ≤ 100000 := hly
        clear hA4 hsn hlx hly hsz
        go_wp2_with fail
        refine cI.mono ?_
        rintro e w5 ⟨rfl, hb5⟩
        have R5 := R1.next hb5
        have hb6 := Below.next hbx hb5
        clear cI e0 e1 e2 e3 hblk p3 p4
        go_wp2_with fail
        go_roundw
        case rel => exact ⟨j + 1, by omega, by go_num, (by first | rfl | exact congrArg Value.string k1), R5, hb6⟩
        case measure => simp [intOf]; omega
      · obtain rfl : j = q := by omega
        have hE := Lib.hid (show D ++ dts (e.take j) = D ++ dts e by rw [← HQ.out, List.take_length])
        go_wp2_with fail
        go_ret
        exact ⟨by rw [hE.out]; rfl, hbx⟩
end Go.Proofs.YthbhbpcjcnkkkaaGreatDoor
/-
  Structs and enumerations described by the program. No conditions beyond those that each names.
-/
namespace Go.Proofs.YthbhbpcjcnkkkaaGreatDoor
open Go.RowKit Go.Maps
theorem cnt_one : cnt 1 = [1] := by rw [show cnt 1 = uv 1 from cnt_nat 1 (by decide), uv_small (by decide)]; rfl
theorem cnt_zero : cnt 0 = [0] := by rw [show cnt 0 = uv 0 from cnt_nat 0 (by decide), uv_small (by decide)]; rfl
theorem dfds_take_le (l : List Fd) (k : Nat) : (dfds (l.take k)).length ≤ (dfds l).length := by
  have h := dfds_append (l.take k) (l.drop k)
  rw [List.take_append_drop] at h
  rw [h, List.length_append]
  omega
theorem dfds_ge (l : List Fd) : l.length ≤ (dfds l).length := by
  induction l with
  | nil => exact Nat.zero_le _
  | cons t l ih =>
    rw [dfds, List.length_cons, List.length_append, dfd, List.length_append]
    have : 1 ≤ (cnt t.num).length := uv_pos _
    omega
theorem dns_nil (m : List Int) : dns [] m = [] := by cases m <;> rfl
theorem dns_ge : ∀ {l : List (List UInt8)} {m : List Int}, m.length = l.length → l.length ≤ (dns l m).length
  | [], _, _ => Nat.zero_le _
  | x :: l, [], h => by simp at h
  | x :: l, y :: m, h => by
    have ih := dns_ge (l := l) (m := m) (by simpa using h)
    rw [dns, List.length_cons, List.length_append, List.length_append]
    have : 1 ≤ (cnt y).length := uv_pos _
    omega
theorem dns_take_le : ∀ (l : List (List UInt8)) (m : List Int) (k : Nat), (dns (l.take k) (m.take k)).length ≤ (dns l m).length
  | [], m, k => by rw [List.take_nil, dns_nil]; exact Nat.zero_le _
  | x :: l, [], k => by
    rw [List.take_nil]
    cases (x :: l).take k with
    | nil => simp [dns]
    | cons a b => simp [dns]
  | x :: l, y :: m, 0 => by rw [List.take_zero, dns_nil]; exact Nat.zero_le _
  | x :: l, y :: m, k + 1 => by
    have ih := dns_take_le l m k
    rw [List.take_succ_cons, List.take_succ_cons, dns, dns]
    simp only [List.length_append]
    omega
set_option maxRecDepth 100000 in
set_option maxHeartbeats 8000000 in
theorem describeStruct_any (S : Sch) (t : St) (u : Value) (w : World) (hf : ∀ f ∈ t.fields, right S f.type = true ∧ 1 ≤ f.num ∧ f.num ≤ 127) (hL : (dst t).length ≤ 100000) (hu : StV w t u) :
    Calls Tryz.prog 55 #[u] w (Ib (.string (bs (dst t))) w) := by
  obtain ⟨nm, e⟩ := t
  have hdl : dst ⟨nm, e⟩ = uv 6 ++ (txt nm ++ (uv e.length ++ dfds e)) := rfl
  rw [hdl] at hL ⊢
  clear hdl
  have hnl : nm.length ≤ (txt nm).length := by unfold txt; rw [List.length_append]; omega
  obtain ⟨A, c, rfl, hR⟩ := hu
  have hR : Rw FdA 7 w e A := hR
  have hf : ∀ f ∈ e, right S f.type = true ∧ 1 ≤ f.num ∧ f.num ≤ 127 := hf
  show Calls _ _ #[.agg #[.string (bs nm), .slice A e.length c]] _ _
  obtain ⟨q, hq⟩ : ∃ q, e.length = q := ⟨_, rfl⟩
  have HQ := Lib.hid hq
  have hq9 : q ≤ (dfds e).length := by rw [← hq]; exact dfds_ge e
  rw [hq] at hL ⊢
  simp only [List.length_append] at hL
  have c6 := fun W => number_any 6 W (by omega) (by omega)
  rw [show cnt 6 = uv 6 from cnt_nat 6 (by decide)] at c6
  have c3 := fun W => text_any nm W (by omega)
  have c4 := fun W => number_any (q : Int) W (by omega) (by omega)
  rw [cnt_nat q (by omega)] at c4
  generalize uv 6 = u6 at *
  generalize txt nm = tn at *
  generalize uv q = cl at *
  obtain ⟨D, hD⟩ : ∃ D, ((u6 ++ tn) ++ cl) = D := ⟨_, rfl⟩
  have hDl : D.length + (dfds e).length ≤ 100000 := by rw [← hD]; simp only [List.length_append]; omega
  have hfin : u6 ++ (tn ++ (cl ++ dfds e)) = D ++ dfds e := by rw [← hD]; simp only [List.append_assoc]
  rw [hfin]
  have B1 := Bx.new2 w 32 (.string (bs nm)) (.slice A q c)
  have hab := ab1 w (Obj.cells #[.string (bs nm), .slice A q c] 32)
  have hn1 := fun W => number_any 1 W (by decide) (by decide)
  have hn0 := fun W => number_any 0 W (by decide) (by decide)
  rw [cnt_one] at hn1
  rw [cnt_zero] at hn0
  clear hq hfin hnl
  go_enter Tryz.func55, Tryz.ntmps55
  go_upto_region 1 with (fail)
  generalize w.alloc (Obj.cells #[.string (bs nm), .slice A q c] 32) = W1 at *
  have p0 := B1.c 0 rfl
  have p1 := B1.c 1 rfl
  have p4 := B1.lt
  refine wp_region_on (by kernel_rfl) (FF [(1, Fact.at_ W1 (.pointer (some ⟨w.heap.size, 0, none⟩))), (6, Fact.at_ W1 (.string (bs u6))), (7, Fact.at_ W1 (.pointer (some ⟨w.heap.size, 0, none⟩))), (8, Fact.at_ W1 (.string (bs nm))), (9, Fact.at_ W1 (.string (bs tn))), (10, Fact.at_ W1 (.string (bs (u6 ++ tn)))), (11, Fact.at_ W1 (.pointer (some ⟨w.heap.size, 1, none⟩))), (12, Fact.at_ W1 (.slice A q c)), (13, Fact.at_ W1 (.int .i64 (q : Int))), (14, Fact.at_ W1 (.string (bs cl))), (15, Fact.at_ W1 (.string (bs ((u6 ++ tn) ++ cl)))), (3, Fact.at_ W1 (.string (bs ((u6 ++ tn) ++ cl))))]) [1] 46 [6, 7, 8, 9, 10, 11, 12, 13, 14, 15, 3] rfl (by kernel_rfl) (by kernel_rfl) ?_ ?_ ?_
  · intro t9 ht9
    simp only [List.mem_cons, List.not_mem_nil, or_false] at ht9
    rcases ht9 with rfl
    · exact ⟨rfl, Below.refl _ _⟩
  · refine fcs ⟨at_enter (W0 := W1) (by first | exact .inl rfl | exact .inr ⟨_, _, _, rfl, rfl, by kernel_rfl, by decide, rfl⟩) (fun a9 W9 hf9 => by have hb9 := (hf9 1 (by kernel_rfl)).2; exact ⟨78, #[.int .i64 6], by simpa [execOp, resolve, Act.eval] using run_invoke (by kernel_rfl) _ W9, (c6 W9).mono fun e w' ⟨e1, e2⟩ => ⟨_, e1, e2, fun s hs => by injection hs with hs; subst hs; exact ⟨rfl, upG hb9 e2⟩⟩⟩), ?_⟩
    refine fcs ⟨at1 1 7 (.pointer (some ⟨w.heap.size, 0, none⟩)) (.pointer (some ⟨w.heap.size, 0, none⟩)) rfl (by first | exact .inl rfl | exact .inr ⟨_, _, _, rfl, rfl, by kernel_rfl, by decide, rfl⟩) (by kernel_rfl) rfl rfl (fun a9 W9 hb9 h9 => by simp [execOp, h9] <;> go_simp), ?_⟩
    refine fcs ⟨at1 7 8 (.pointer (some ⟨w.heap.size, 0, none⟩)) (.string (bs nm)) rfl (by first | exact .inl rfl | exact .inr ⟨_, _, _, rfl, rfl, by kernel_rfl, by decide, rfl⟩) (by kernel_rfl) rfl rfl (fun a9 W9 hb9 h9 => by have g0 := cell_next hb9 p0; simp [execOp, h9] <;> go_simp), ?_⟩
    refine fcs ⟨atc1 79 8 9 (.string (bs nm)) (.string (bs tn)) _ rfl rfl (by first | exact .inl rfl | exact .inr ⟨_, _, _, rfl, rfl, by kernel_rfl, by decide, rfl⟩) (by kernel_rfl) rfl (by kernel_rfl) rfl (fun W9 hb9 => c3 W9), ?_⟩
    refine fcs ⟨atcat 6 9 10 u6 tn rfl rfl (by first | exact .inl rfl | exact .inr ⟨_, _, _, rfl, rfl, by kernel_rfl, by decide, rfl⟩) (by kernel_rfl) (by kernel_rfl) rfl rfl rfl (by simp only [List.length_append]; omega), ?_⟩
    refine fcs ⟨at1 1 11 (.pointer (some ⟨w.heap.size, 0, none⟩)) (.pointer (some ⟨w.heap.size, 1, none⟩)) rfl (by first | exact .inl rfl | exact .inr ⟨_, _, _, rfl, rfl, by kernel_rfl, by decide, rfl⟩) (by kernel_rfl) rfl rfl (fun a9 W9 hb9 h9 => by simp [execOp, h9] <;> go_simp), ?_⟩
    refine fcs ⟨at1 11 12 (.pointer (some ⟨w.heap.size, 1, none⟩)) (.slice A q c) rfl (by first | exact .inl rfl | exact .inr ⟨_, _, _, rfl, rfl, by kernel_rfl, by decide, rfl⟩) (by kernel_rfl) rfl rfl (fun a9 W9 hb9 h9 => by have g0 := cell_next hb9 p1; simp [execOp, h9] <;> go_simp), ?_⟩
    refine fcs ⟨at1 12 13 (.slice A q c) (.int .i64 (q : Int)) rfl (by first | exact .inl rfl | exact .inr ⟨_, _, _, rfl, rfl, by kernel_rfl, by decide, rfl⟩) (by kernel_rfl) rfl rfl (fun a9 W9 hb9 h9 => by exact len_op 12 Tryz.underlying30 rfl h9), ?_⟩
    refine fcs ⟨atc1 78 13 14 (.int .i64 (q : Int)) (.string (bs cl)) _ rfl rfl (by first | exact .inl rfl | exact .inr ⟨_, _, _, rfl, rfl, by kernel_rfl, by decide, rfl⟩) (by kernel_rfl) rfl (by kernel_rfl) rfl (fun W9 hb9 => c4 W9), ?_⟩
    refine fcs ⟨atcat 10 14 15 (u6 ++ tn) cl rfl rfl (by first | exact .inl rfl | exact .inr ⟨_, _, _, rfl, rfl, by kernel_rfl, by decide, rfl⟩) (by kernel_rfl) (by kernel_rfl) rfl rfl rfl (by simp only [List.length_append]; omega), ?_⟩
    refine fcs ⟨atcopy 15 3 (.string (bs ((u6 ++ tn) ++ cl))) (.inr rfl) rfl (by first | exact .inl rfl | exact .inr ⟨_, _, _, rfl, rfl, by kernel_rfl, by decide, rfl⟩) (by kernel_rfl) rfl rfl, ?_⟩
    exact fnl
  intro vv wv hvv hbv
  have hv3 : vv 3 = (.string (bs ((u6 ++ tn) ++ cl))) := (hvv 3 (by decide)).1
  rw [hD] at hv3
  simp only [lay, List.foldl_cons, List.foldl_nil, List.setIfInBounds_toArray, List.set_cons_succ, List.set_cons_zero, hv3]
  have B2 := B1.next hbv
  have hb2 := Below.next hab hbv
  have hq10 : q ≤ 100000 := by omega
  clear hvv c3 c4 c6 p0 p1 p4 hD hL B1
  have p1 := B2.c 1 rfl
  have p4 := B2.lt
  go_wp2_with fail
  clear p1 p4
  go_loopw [3, 19] (fun a_ i_ wr => ∃ j : Nat, j ≤ q ∧ i_ = .int .i64 (j : Int) ∧ a_ = .string (bs (D ++ dfds (e.take j))) ∧ Below w.heap.size w wr) (fun _ i_ _ => q - (intOf i_).toNat)
  case atStart => exact ⟨0, by omega, rfl, by rw [List.take_zero, dfds, List.append_nil], hb2⟩
  case round =>
    clear B2 hb2
    obtain ⟨j, hj, rfl, rfl, hbx⟩ := hrel
    by_cases hlt : j < q
    · have hje : j < e.length := by rw [HQ.out]; exact hlt
      obtain ⟨a4, rfl, hA4⟩ := hR.get hje
      have htm := List.getElem_mem hje
      have hsn := dfds_snoc hje
      obtain ⟨A5, c5, e0, e1, e2, e3, e4, e5, e6, -, hV⟩ := hA4.val
      have hlx := dfds_take_le e (j + 1)
      obtain ⟨hfr, hf1, hf2⟩ := hf _ htm
      generalize e[j]'hje = f at *
      replace e0 := cell_next hbx e0
      replace e1 := cell_next hbx e1
      replace e2 := cell_next hbx e2
      replace e3 := cell_next hbx e3
      replace e4 := cell_next hbx e4
      replace e5 := cell_next hbx e5
      replace e6 := cell_next hbx e6
      have hblk : (a4.add (j * 7)).block < wr.heap.size := blk_lt e0
      rw [hsn, List.length_append] at hlx
      have hdf : dfd f = cnt f.num ++ (txt f.name ++ (dt f.type ++ [if f.opt then 1 else 0])) := rfl
      have hfn : f.name.length ≤ (txt f.name).length := by unfold txt; rw [List.length_append]; omega
      have hly : (dfd f).length = (cnt f.num).length + ((txt f.name).length + ((dt f.type).length + 1)) := by rw [hdf]; simp only [List.length_append, List.length_cons, List.length_nil]
      have hX2 : (D ++ dfds (e.take j)).length ≤ 100000 := by rw [List.length_append]; omega
      have hsum : (D ++ dfds (e.take j)).length + (dfd f).length ≤ 100000 := by rw [List.length_append]; omega
      have c7 := fun W => number_any f.num W (by omega) (by omega)
      have c8 := fun W => text_any f.name W (by omega)
      have c9 := fun W (h : Below wr.heap.size wr W) => describeType_any (SizeOf.sizeOf f.type + 1) S f.type _ W (Nat.lt_succ_self _) hfr (by omega) (hV.next (Below.next hbx h))
      have hres : ((D ++ dfds (e.take j)) ++ ((cnt f.num ++ txt f.name) ++ dt f.type)) ++ [if f.opt then 1 else 0] = D ++ dfds (e.take (j + 1)) := by rw [hsn, hdf]; simp only [List.append_assoc]
      generalize cnt f.num = fc at *
      generalize txt f.name = ft at *
      generalize dt f.type = fd at *
      generalize f.num = fnum at *
      generalize f.name = fnm at *
      generalize f.type.kind = tk at *
      generalize f.type.size = ts at *
      generalize f.type.name = tnm at *
      generalize f.type.elem.length = te at *
      generalize f.opt = fo at *
      generalize D ++ dfds (e.take j) = X at *
      obtain ⟨Z, hZ⟩ : ∃ Z, D ++ dfds (e.take (j + 1)) = Z := ⟨_, rfl⟩
      rw [hZ] at hres
      have hal := ab1 wr (Obj.cells #[.int .i64 fnum, .string (bs fnm), .int .i64 tk, .int .i64 ts, .string (bs tnm), .slice A5 te c5, .bool fo] 47)
      have B5 := Bx.new7 wr 47 (.int .i64 fnum) (.string (bs fnm)) (.int .i64 tk) (.int .i64 ts) (.string (bs tnm)) (.slice A5 te c5) (.bool fo)
      clear hA4 hsn hlx hdf htm hf1 hf2 hfr hfn hDl
      go_upto_region 5 with (fail)
      have c9n := fun W (h : Below (wr.alloc (Obj.cells #[.int .i64 fnum, .string (bs fnm), .int .i64 tk, .int .i64 ts, .string (bs tnm), .slice A5 te c5, .bool fo] 47)).heap.size (wr.alloc (Obj.cells #[.int .i64 fnum, .string (bs fnm), .int .i64 tk, .int .i64 ts, .string (bs tnm), .slice A5 te c5, .bool fo] 47)) W) => c9 W (Below.next hal h)
      have hbal := Below.next hbx hal
      generalize wr.alloc (Obj.cells #[.int .i64 fnum, .string (bs fnm), .int .i64 tk, .int .i64 ts, .string (bs tnm), .slice A5 te c5, .bool fo] 47) = W1 at *
      clear c9 e0 e1 e2 e3 e4 e5 e6 hblk
      have c9 := c9n
      clear c9n
      have r0 := B5.c 0 rfl
      have r1 := B5.c 1 rfl
      have r2 := B5.c 2 rfl
      have r3 := B5.c 3 rfl
      have r4 := B5.c 4 rfl
      have r5 := B5.c 5 rfl
      have rl := B5.lt
      obtain ⟨Y, hY⟩ : ∃ Y, (X ++ ((fc ++ ft) ++ fd)) = Y := ⟨_, rfl⟩
      refine wp_region_seqN (by kernel_rfl) (FF [(3, Fact.at_ W1 (.string (bs X))), (5, Fact.at_ W1 (.pointer (some ⟨wr.heap.size, 0, none⟩))), (23, Fact.at_ W1 (.string (bs X))), (24, Fact.at_ W1 (.pointer (some ⟨wr.heap.size, 0, none⟩))), (25, Fact.at_ W1 (.int .i64 fnum)), (26, Fact.at_ W1 (.string (bs fc))), (27, Fact.at_ W1 (.pointer (some ⟨wr.heap.size, 1, none⟩))), (28, Fact.at_ W1 (.string (bs fnm))), (29, Fact.at_ W1 (.string (bs ft))), (30, Fact.at_ W1 (.string (bs (fc ++ ft)))), (31, Fact.at_ W1 (.pointer (some ⟨wr.heap.size, 2, none⟩))), (32, Fact.at_ W1 (.agg #[.int .i64 tk, .int .i64 ts, .string (bs tnm), .slice A5 te c5])), (33, Fact.at_ W1 (.string (bs fd))), (34, Fact.at_ W1 (.string (bs ((fc ++ ft) ++ fd)))), (35, Fact.at_ W1 (.string (bs (X ++ ((fc ++ ft) ++ fd)))))]) [3, 5] [] 46 13 [23, 24, 25, 26, 27, 28, 29, 30, 31, 32, 33, 34, 35] rfl (by kernel_rfl) (by kernel_rfl) (by decide) (by kernel_rfl) (by kernel_rfl) ?_ ?_ ?_
      · intro t9 ht9
        simp only [List.mem_cons, List.not_mem_nil, or_false] at ht9
        rcases ht9 with rfl | rfl
        · exact ⟨rfl, Below.refl _ _⟩
        · exact ⟨rfl, Below.refl _ _⟩
      · refine fcs ⟨Ob.new_ (atcopy 3 23 (.string (bs X)) (.inl rfl) rfl (by first | exact .inl rfl | exact .inr ⟨_, _, _, rfl, rfl, by kernel_rfl, by decide, rfl⟩) (by kernel_rfl) rfl rfl) (by kernel_rfl), ?_⟩
        refine fcs ⟨Ob.new_ (at1 5 24 (.pointer (some ⟨wr.heap.size, 0, none⟩)) (.pointer (some ⟨wr.heap.size, 0, none⟩)) rfl (by first | exact .inl rfl | exact .inr ⟨_, _, _, rfl, rfl, by kernel_rfl, by decide, rfl⟩) (by kernel_rfl) rfl rfl (fun a9 W9 hb9 h9 => by simp [execOp, h9] <;> go_simp)) (by kernel_rfl), ?_⟩
        refine fcs ⟨Ob.new_ (at1 24 25 (.pointer (some ⟨wr.heap.size, 0, none⟩)) (.int .i64 fnum) rfl (by first | exact .inl rfl | exact .inr ⟨_, _, _, rfl, rfl, by kernel_rfl, by decide, rfl⟩) (by kernel_rfl) rfl rfl (fun a9 W9 hb9 h9 => by have g0 := cell_next hb9 r0; simp [execOp, h9] <;> go_simp)) (by kernel_rfl), ?_⟩
        refine fcs ⟨Ob.new_ (atc1 78 25 26 (.int .i64 fnum) (.string (bs fc)) _ rfl rfl (by first | exact .inl rfl | exact .inr ⟨_, _, _, rfl, rfl, by kernel_rfl, by decide, rfl⟩) (by kernel_rfl) rfl (by kernel_rfl) rfl (fun W9 hb9 => c7 W9)) (by kernel_rfl), ?_⟩
        refine fcs ⟨Ob.new_ (at1 5 27 (.pointer (some ⟨wr.heap.size, 0, none⟩)) (.pointer (some ⟨wr.heap.size, 1, none⟩)) rfl (by first | exact .inl rfl | exact .inr ⟨_, _, _, rfl, rfl, by kernel_rfl, by decide, rfl⟩) (by kernel_rfl) rfl rfl (fun a9 W9 hb9 h9 => by simp [execOp, h9] <;> go_simp)) (by kernel_rfl), ?_⟩
        refine fcs ⟨Ob.new_ (at1 27 28 (.pointer (some ⟨wr.heap.size, 1, none⟩)) (.string (bs fnm)) rfl (by first | exact .inl rfl | exact .inr ⟨_, _, _, rfl, rfl, by kernel_rfl, by decide, rfl⟩) (by kernel_rfl) rfl rfl (fun a9 W9 hb9 h9 => by have g0 := cell_next hb9 r1; simp [execOp, h9] <;> go_simp)) (by kernel_rfl), ?_⟩
        refine fcs ⟨Ob.new_ (atc1 79 28 29 (.string (bs fnm)) (.string (bs ft)) _ rfl rfl (by first | exact .inl rfl | exact .inr ⟨_, _, _, rfl, rfl, by kernel_rfl, by decide, rfl⟩) (by kernel_rfl) rfl (by kernel_rfl) rfl (fun W9 hb9 => c8 W9)) (by kernel_rfl), ?_⟩
        refine fcs ⟨Ob.new_ (atcat 26 29 30 fc ft rfl rfl (by first | exact .inl rfl | exact .inr ⟨_, _, _, rfl, rfl, by kernel_rfl, by decide, rfl⟩) (by kernel_rfl) (by kernel_rfl) rfl rfl rfl (by simp only [List.length_append]; omega)) (by kernel_rfl), ?_⟩
        refine fcs ⟨Ob.new_ (at1 5 31 (.pointer (some ⟨wr.heap.size, 0, none⟩)) (.pointer (some ⟨wr.heap.size, 2, none⟩)) rfl (by first | exact .inl rfl | exact .inr ⟨_, _, _, rfl, rfl, by kernel_rfl, by decide, rfl⟩) (by kernel_rfl) rfl rfl (fun a9 W9 hb9 h9 => by simp [execOp, h9] <;> go_simp)) (by kernel_rfl), ?_⟩
        refine fcs ⟨Ob.new_ (at1 31 32 (.pointer (some ⟨wr.heap.size, 2, none⟩)) (.agg #[.int .i64 tk, .int .i64 ts, .string (bs tnm), .slice A5 te c5]) rfl (by first | exact .inl rfl | exact .inr ⟨_, _, _, rfl, rfl, by kernel_rfl, by decide, rfl⟩) (by kernel_rfl) rfl rfl (fun a9 W9 hb9 h9 => by have g2 := cell_next hb9 r2; have g3 := cell_next hb9 r3; have g4 := cell_next hb9 r4; have g5 := cell_next hb9 r5; simp [execOp, h9] <;> go_simp)) (by kernel_rfl), ?_⟩
        refine fcs ⟨Ob.new_ (atc1 80 32 33 (.agg #[.int .i64 tk, .int .i64 ts, .string (bs tnm), .slice A5 te c5]) (.string (bs fd)) _ rfl rfl (by first | exact .inl rfl | exact .inr ⟨_, _, _, rfl, rfl, by kernel_rfl, by decide, rfl⟩) (by kernel_rfl) rfl (by kernel_rfl) rfl (fun W9 hb9 => c9 W9 hb9)) (by kernel_rfl), ?_⟩
        refine fcs ⟨Ob.new_ (atcat 30 33 34 (fc ++ ft) fd rfl rfl (by first | exact .inl rfl | exact .inr ⟨_, _, _, rfl, rfl, by kernel_rfl, by decide, rfl⟩) (by kernel_rfl) (by kernel_rfl) rfl rfl rfl (by simp only [List.length_append]; omega)) (by kernel_rfl), ?_⟩
        refine fcs ⟨Ob.new_ (atcat 23 34 35 X ((fc ++ ft) ++ fd) rfl rfl (by first | exact .inl rfl | exact .inr ⟨_, _, _, rfl, rfl, by kernel_rfl, by decide, rfl⟩) (by kernel_rfl) (by kernel_rfl) rfl rfl rfl (by simp only [List.length_append]; omega)) (by kernel_rfl), ?_⟩
        exact fnl
      intro vv wv hvv hbv _ _
      have hv35 : vv 35 = (.string (bs (X ++ ((fc ++ ft) ++ fd)))) := (hvv 35 (by decide)).1
      rw [hY] at hv35
      simp only [lay, List.foldl_cons, List.foldl_nil, List.setIfInBounds_toArray, List.set_cons_succ, List.set_cons_zero, hv35, List.drop_succ_cons, List.drop_zero]
      have B6 := B5.next hbv
      have hb6 := Below.next hbal hbv
      have r6 := B6.c 6 rfl
      have rl6 := B6.lt
      have k2 : (bs Y).size ≤ 100000 := by show Y.length ≤ 100000; rw [← hY]; simp only [List.length_append]; omega
      have k3 : (bs [1]).size = 1 := rfl
      have k4 : (bs [0]).size = 1 := rfl
      rw [hY] at hres
      clear hvv c7 c8 c9 r0 r1 r2 r3 r4 r5 rl B5 hY hsum hX2 hly
      cases fo
      · have k1 : bs Y ++ bs [0] = bs Z := by rw [bs_append, ← hres]; rfl
        go_wp2_with fail
        refine (hn0 _).mono ?_
        rintro e w7 ⟨rfl, hb7⟩
        go_wp2_with fail
        go_roundw
        case rel => exact ⟨j + 1, by omega, by go_num, by rw [hZ], Below.next hb6 hb7⟩
        case measure => simp [intOf]; omega
      · have k1 : bs Y ++ bs [1] = bs Z := by rw [bs_append, ← hres]; rfl
        go_wp2_with fail
        refine (hn1 _).mono ?_
        rintro e w7 ⟨rfl, hb7⟩
        go_wp2_with fail
        go_roundw
        case rel => exact ⟨j + 1, by omega, by go_num, by rw [hZ], Below.next hb6 hb7⟩
        case measure => simp [intOf]; omega
    · obtain rfl : j = q := by omega
      have hE := Lib.hid (show D ++ dfds (e.take j) = D ++ dfds e by rw [← HQ.out, List.take_length])
      go_wp2_with fail
      go_ret
      exact ⟨by rw [hE.out]; rfl, hbx⟩
set_option maxRecDepth 100000 in
set_option maxHeartbeats 8000000 in
theorem describeEnum_any (t : En) (u : Value) (w : World) (hf : t.nums.length = t.names.length ∧ ∀ k ∈ t.nums, 0 ≤ k ∧ k ≤ 127) (hL : (den t).length ≤ 100000) (hu : EnV w t u) :
    Calls Tryz.prog 81 #[u] w (Ib (.string (bs (den t))) w) := by
  obtain ⟨nm, e, l⟩ := t
  have hdl : den ⟨nm, e, l⟩ = uv 7 ++ (txt nm ++ (uv e.length ++ dns e l)) := rfl
  rw [hdl] at hL ⊢
  clear hdl
  have hnl : nm.length ≤ (txt nm).length := by unfold txt; rw [List.length_append]; omega
  obtain ⟨A, c, A2, c2, rfl, hR, hR2⟩ := hu
  have hR : Rw TyN 1 w e A := hR
  have hR2 : Rw TyI 1 w l A2 := hR2
  obtain ⟨hf0, hf⟩ : l.length = e.length ∧ ∀ k ∈ l, 0 ≤ k ∧ k ≤ 127 := hf
  show Calls _ _ #[.agg #[.string (bs nm), .slice A e.length c, .slice A2 l.length c2]] _ _
  have hq9 : e.length ≤ (dns e l).length := dns_ge hf0
  have hfl := dns_len2 hf0 e.length rfl
  rw [hf0]
  obtain ⟨q, hq⟩ : ∃ q, e.length = q := ⟨_, rfl⟩
  have HQ := Lib.hid hq
  have HQ2 := Lib.hid (hf0.trans hq)
  rw [hq] at hL hq9 hfl ⊢
  simp only [List.length_append] at hL
  have c6 := fun W => number_any 7 W (by omega) (by omega)
  rw [show cnt 7 = uv 7 from cnt_nat 7 (by decide)] at c6
  have c3 := fun W => text_any nm W (by omega)
  have c4 := fun W => number_any (q : Int) W (by omega) (by omega)
  rw [cnt_nat q (by omega)] at c4
  generalize uv 7 = u6 at *
  generalize txt nm = tn at *
  generalize uv q = cl at *
  obtain ⟨D, hD⟩ : ∃ D, ((u6 ++ tn) ++ cl) = D := ⟨_, rfl⟩
  have hDl : D.length + (dns e l).length ≤ 100000 := by rw [← hD]; simp only [List.length_append]; omega
  have hfin : u6 ++ (tn ++ (cl ++ dns e l)) = D ++ dns e l := by rw [← hD]; simp only [List.append_assoc]
  rw [hfin]
  have B1 := Bx.new3 w 38 (.string (bs nm)) (.slice A q c) (.slice A2 q c2)
  have hab := ab1 w (Obj.cells #[.string (bs nm), .slice A q c, .slice A2 q c2] 38)
  have HFL := Lib.hid hfl
  clear hq hfin hnl hfl hf0
  go_enter Tryz.func81, Tryz.ntmps81
  go_upto_region 1 with (fail)
  generalize w.alloc (Obj.cells #[.string (bs nm), .slice A q c, .slice A2 q c2] 38) = W1 at *
  have p0 := B1.c 0 rfl
  have p1 := B1.c 1 rfl
  have p4 := B1.lt
  refine wp_region_on (by kernel_rfl) (FF [(1, Fact.at_ W1 (.pointer (some ⟨w.heap.size, 0, none⟩))), (6, Fact.at_ W1 (.string (bs u6))), (7, Fact.at_ W1 (.pointer (some ⟨w.heap.size, 0, none⟩))), (8, Fact.at_ W1 (.string (bs nm))), (9, Fact.at_ W1 (.string (bs tn))), (10, Fact.at_ W1 (.string (bs (u6 ++ tn)))), (11, Fact.at_ W1 (.pointer (some ⟨w.heap.size, 1, none⟩))), (12, Fact.at_ W1 (.slice A q c)), (13, Fact.at_ W1 (.int .i64 (q : Int))), (14, Fact.at_ W1 (.string (bs cl))), (15, Fact.at_ W1 (.string (bs ((u6 ++ tn) ++ cl)))), (3, Fact.at_ W1 (.string (bs ((u6 ++ tn) ++ cl))))]) [1] 37 [6, 7, 8, 9, 10, 11, 12, 13, 14, 15, 3] rfl (by kernel_rfl) (by kernel_rfl) ?_ ?_ ?_
  · intro t9 ht9
    simp only [List.mem_cons, List.not_mem_nil, or_false] at ht9
    rcases ht9 with rfl
    · exact ⟨rfl, Below.refl _ _⟩
  · refine fcs ⟨at_enter (W0 := W1) (by first | exact .inl rfl | exact .inr ⟨_, _, _, rfl, rfl, by kernel_rfl, by decide, rfl⟩) (fun a9 W9 hf9 => by have hb9 := (hf9 1 (by kernel_rfl)).2; exact ⟨78, #[.int .i64 7], by simpa [execOp, resolve, Act.eval] using run_invoke (by kernel_rfl) _ W9, (c6 W9).mono fun e w' ⟨e1, e2⟩ => ⟨_, e1, e2, fun s hs => by injection hs with hs; subst hs; exact ⟨rfl, upG hb9 e2⟩⟩⟩), ?_⟩
    refine fcs ⟨at1 1 7 (.pointer (some ⟨w.heap.size, 0, none⟩)) (.pointer (some ⟨w.heap.size, 0, none⟩)) rfl (by first | exact .inl rfl | exact .inr ⟨_, _, _, rfl, rfl, by kernel_rfl, by decide, rfl⟩) (by kernel_rfl) rfl rfl (fun a9 W9 hb9 h9 => by simp [execOp, h9] <;> go_simp), ?_⟩
    refine fcs ⟨at1 7 8 (.pointer (some ⟨w.heap.size, 0, none⟩)) (.string (bs nm)) rfl (by first | exact .inl rfl | exact .inr ⟨_, _, _, rfl, rfl, by kernel_rfl, by decide, rfl⟩) (by kernel_rfl) rfl rfl (fun a9 W9 hb9 h9 => by have g0 := cell_next hb9 p0; simp [execOp, h9] <;> go_simp), ?_⟩
    refine fcs ⟨atc1 79 8 9 (.string (bs nm)) (.string (bs tn)) _ rfl rfl (by first | exact .inl rfl | exact .inr ⟨_, _, _, rfl, rfl, by kernel_rfl, by decide, rfl⟩) (by kernel_rfl) rfl (by kernel_rfl) rfl (fun W9 hb9 => c3 W9), ?_⟩
    refine fcs ⟨atcat 6 9 10 u6 tn rfl rfl (by first | exact .inl rfl | exact .inr ⟨_, _, _, rfl, rfl, by kernel_rfl, by decide, rfl⟩) (by kernel_rfl) (by kernel_rfl) rfl rfl rfl (by simp only [List.length_append]; omega), ?_⟩
    refine fcs ⟨at1 1 11 (.pointer (some ⟨w.heap.size, 0, none⟩)) (.pointer (some ⟨w.heap.size, 1, none⟩)) rfl (by first | exact .inl rfl | exact .inr ⟨_, _, _, rfl, rfl, by kernel_rfl, by decide, rfl⟩) (by kernel_rfl) rfl rfl (fun a9 W9 hb9 h9 => by simp [execOp, h9] <;> go_simp), ?_⟩
    refine fcs ⟨at1 11 12 (.pointer (some ⟨w.heap.size, 1, none⟩)) (.slice A q c) rfl (by first | exact .inl rfl | exact .inr ⟨_, _, _, rfl, rfl, by kernel_rfl, by decide, rfl⟩) (by kernel_rfl) rfl rfl (fun a9 W9 hb9 h9 => by have g0 := cell_next hb9 p1; simp [execOp, h9] <;> go_simp), ?_⟩
    refine fcs ⟨at1 12 13 (.slice A q c) (.int .i64 (q : Int)) rfl (by first | exact .inl rfl | exact .inr ⟨_, _, _, rfl, rfl, by kernel_rfl, by decide, rfl⟩) (by kernel_rfl) rfl rfl (fun a9 W9 hb9 h9 => by exact len_op 12 Tryz.underlying35 rfl h9), ?_⟩
    refine fcs ⟨atc1 78 13 14 (.int .i64 (q : Int)) (.string (bs cl)) _ rfl rfl (by first | exact .inl rfl | exact .inr ⟨_, _, _, rfl, rfl, by kernel_rfl, by decide, rfl⟩) (by kernel_rfl) rfl (by kernel_rfl) rfl (fun W9 hb9 => c4 W9), ?_⟩
    refine fcs ⟨atcat 10 14 15 (u6 ++ tn) cl rfl rfl (by first | exact .inl rfl | exact .inr ⟨_, _, _, rfl, rfl, by kernel_rfl, by decide, rfl⟩) (by kernel_rfl) (by kernel_rfl) rfl rfl rfl (by simp only [List.length_append]; omega), ?_⟩
    refine fcs ⟨atcopy 15 3 (.string (bs ((u6 ++ tn) ++ cl))) (.inr rfl) rfl (by first | exact .inl rfl | exact .inr ⟨_, _, _, rfl, rfl, by kernel_rfl, by decide, rfl⟩) (by kernel_rfl) rfl rfl, ?_⟩
    exact fnl
  intro vv wv hvv hbv
  have hv3 : vv 3 = (.string (bs ((u6 ++ tn) ++ cl))) := (hvv 3 (by decide)).1
  rw [hD] at hv3
  simp only [lay, List.foldl_cons, List.foldl_nil, List.setIfInBounds_toArray, List.set_cons_succ, List.set_cons_zero, hv3]
  have B2 := B1.next hbv
  have hb2 := Below.next hab hbv
  have hq10 : q ≤ 100000 := by omega
  clear hvv c3 c4 c6 p0 p1 p4 hD hL B1
  have p1 := B2.c 1 rfl
  have p4 := B2.lt
  go_wp2_with fail
  clear p1 p4
  go_loopw [3, 19] (fun a_ i_ wr => ∃ j : Nat, j ≤ q ∧ i_ = .int .i64 (j : Int) ∧ a_ = .string (bs (D ++ dns (e.take j) (l.take j))) ∧ Bx wr w.heap.size [.string (bs nm), .slice A q c, .slice A2 q c2] ∧ Below w.heap.size w wr) (fun _ i_ _ => q - (intOf i_).toNat)
  case atStart => exact ⟨0, by omega, rfl, by rw [List.take_zero, List.take_zero, dns_nil, List.append_nil], B2, hb2⟩
  case round =>
    clear B2 hb2
    obtain ⟨j, hj, rfl, rfl, R1, hbx⟩ := hrel
    by_cases hlt : j < q
    · have hje : j < e.length := by rw [HQ.out]; exact hlt
      have hjl : j < l.length := by rw [HQ2.out]; exact hlt
      obtain ⟨a4, rfl, hA4⟩ := hR.get hje
      obtain ⟨a5, rfl, hA5⟩ := hR2.get hjl
      rw [Nat.mul_one] at hA4 hA5
      have htm := hf _ (List.getElem_mem hjl)
      have hsn := dns_snoc hje hjl
      have hlx := dns_take_le e l (j + 1)
      have e4 : wr.cell? (a4.add j) = some (.string (bs (e[j]'hje))) := cell_next hbx hA4
      have e5 : wr.cell? (a5.add j) = some (.int .i64 (l[j]'hjl)) := cell_next hbx hA5
      rw [hsn] at hlx
      simp only [List.length_append] at hlx
      generalize e[j]'hje = y at *
      generalize l[j]'hjl = z at *
      have hblk : (a4.add j).block < wr.heap.size := blk_lt e4
      have hblk2 : (a5.add j).block < wr.heap.size := blk_lt e5
      have s2 := R1.c 2 rfl
      have sl := R1.lt
      have hyl : y.length ≤ (txt y).length := by unfold txt; rw [List.length_append]; omega
      have c7 := fun W => number_any z W htm.1 (by omega)
      have c8 := fun W => text_any y W (by omega)
      have hsum : (D ++ dns (e.take j) (l.take j)).length + ((txt y).length + (cnt z).length) ≤ 100000 := by rw [List.length_append]; omega
      have hres : ((D ++ dns (e.take j) (l.take j)) ++ (txt y ++ cnt z)) = D ++ dns (e.take (j + 1)) (l.take (j + 1)) := by rw [hsn, List.append_assoc]
      generalize txt y = ft at *
      generalize cnt z = fc at *
      generalize D ++ dns (e.take j) (l.take j) = X at *
      obtain ⟨Z, hZ⟩ : ∃ Z, D ++ dns (e.take (j + 1)) (l.take (j + 1)) = Z := ⟨_, rfl⟩
      rw [hZ] at hres
      clear hA4 hA5 hsn hlx hyl hDl htm
      go_upto_region 5 with (fail)
      refine wp_region_seqN (by kernel_rfl) (FF [(1, Fact.at_ wr (.pointer (some ⟨w.heap.size, 0, none⟩))), (3, Fact.at_ wr (.string (bs X))), (4, Fact.at_ wr (.int .i64 (j : Int))), (5, Fact.at_ wr (.string (bs y))), (24, Fact.at_ wr (.string (bs X))), (25, Fact.at_ wr (.string (bs y))), (26, Fact.at_ wr (.string (bs ft))), (27, Fact.at_ wr (.pointer (some ⟨w.heap.size, 2, none⟩))), (28, Fact.at_ wr (.slice (some a5) q c2)), (29, Fact.at_ wr (.int .i64 (j : Int))), (30, Fact.at_ wr (.pointer (some (a5.add j)))), (31, Fact.at_ wr (.int .i64 z)), (32, Fact.at_ wr (.string (bs fc))), (33, Fact.at_ wr (.string (bs (ft ++ fc)))), (34, Fact.at_ wr (.string (bs (X ++ (ft ++ fc)))))]) [1, 3, 4, 5] [] 37 11 [24, 25, 26, 27, 28, 29, 30, 31, 32, 33, 34] rfl (by kernel_rfl) (by kernel_rfl) (by decide) (by kernel_rfl) (by kernel_rfl) ?_ ?_ ?_
      · intro t9 ht9
        simp only [List.mem_cons, List.not_mem_nil, or_false] at ht9
        rcases ht9 with rfl | rfl | rfl | rfl
        · exact ⟨rfl, Below.refl _ _⟩
        · exact ⟨rfl, Below.refl _ _⟩
        · exact ⟨rfl, Below.refl _ _⟩
        · exact ⟨rfl, Below.refl _ _⟩
      · refine fcs ⟨Ob.new_ (atcopy 3 24 (.string (bs X)) (.inl rfl) rfl (by first | exact .inl rfl | exact .inr ⟨_, _, _, rfl, rfl, by kernel_rfl, by decide, rfl⟩) (by kernel_rfl) rfl rfl) (by kernel_rfl), ?_⟩
        refine fcs ⟨Ob.new_ (atcopy 5 25 (.string (bs y)) (.inl rfl) rfl (by first | exact .inl rfl | exact .inr ⟨_, _, _, rfl, rfl, by kernel_rfl, by decide, rfl⟩) (by kernel_rfl) rfl rfl) (by kernel_rfl), ?_⟩
        refine fcs ⟨Ob.new_ (atc1 79 25 26 (.string (bs y)) (.string (bs ft)) _ rfl rfl (by first | exact .inl rfl | exact .inr ⟨_, _, _, rfl, rfl, by kernel_rfl, by decide, rfl⟩) (by kernel_rfl) rfl (by kernel_rfl) rfl (fun W9 hb9 => c8 W9)) (by kernel_rfl), ?_⟩
        refine fcs ⟨Ob.new_ (at1 1 27 (.pointer (some ⟨w.heap.size, 0, none⟩)) (.pointer (some ⟨w.heap.size, 2, none⟩)) rfl (by first | exact .inl rfl | exact .inr ⟨_, _, _, rfl, rfl, by kernel_rfl, by decide, rfl⟩) (by kernel_rfl) rfl rfl (fun a9 W9 hb9 h9 => by simp [execOp, h9] <;> go_simp)) (by kernel_rfl), ?_⟩
        refine fcs ⟨Ob.new_ (at1 27 28 (.pointer (some ⟨w.heap.size, 2, none⟩)) (.slice (some a5) q c2) rfl (by first | exact .inl rfl | exact .inr ⟨_, _, _, rfl, rfl, by kernel_rfl, by decide, rfl⟩) (by kernel_rfl) rfl rfl (fun a9 W9 hb9 h9 => by have g0 := cell_next hb9 s2; simp [execOp, h9] <;> go_simp)) (by kernel_rfl), ?_⟩
        refine fcs ⟨Ob.new_ (atcopy 4 29 (.int .i64 (j : Int)) (.inl rfl) rfl (by first | exact .inl rfl | exact .inr ⟨_, _, _, rfl, rfl, by kernel_rfl, by decide, rfl⟩) (by kernel_rfl) rfl rfl) (by kernel_rfl), ?_⟩
        refine fcs ⟨Ob.new_ (at2 28 29 30 (.slice (some a5) q c2) (.int .i64 (j : Int)) (.pointer (some (a5.add j))) rfl (by first | exact .inl rfl | exact .inr ⟨_, _, _, rfl, rfl, by kernel_rfl, by decide, rfl⟩) (by kernel_rfl) (by kernel_rfl) rfl rfl rfl (fun a9 W9 hb9 h9 h8 => by simp [execOp, h9, h8] <;> go_simp)) (by kernel_rfl), ?_⟩
        refine fcs ⟨Ob.new_ (at1 30 31 (.pointer (some (a5.add j))) (.int .i64 z) rfl (by first | exact .inl rfl | exact .inr ⟨_, _, _, rfl, rfl, by kernel_rfl, by decide, rfl⟩) (by kernel_rfl) rfl rfl (fun a9 W9 hb9 h9 => by have g0 := cell_next hb9 e5; simp [execOp, h9] <;> go_simp)) (by kernel_rfl), ?_⟩
        refine fcs ⟨Ob.new_ (atc1 78 31 32 (.int .i64 z) (.string (bs fc)) _ rfl rfl (by first | exact .inl rfl | exact .inr ⟨_, _, _, rfl, rfl, by kernel_rfl, by decide, rfl⟩) (by kernel_rfl) rfl (by kernel_rfl) rfl (fun W9 hb9 => c7 W9)) (by kernel_rfl), ?_⟩
        refine fcs ⟨Ob.new_ (atcat 26 32 33 ft fc rfl rfl (by first | exact .inl rfl | exact .inr ⟨_, _, _, rfl, rfl, by kernel_rfl, by decide, rfl⟩) (by kernel_rfl) (by kernel_rfl) rfl rfl rfl (by simp only [List.length_append]; omega)) (by kernel_rfl), ?_⟩
        refine fcs ⟨Ob.new_ (atcat 24 33 34 X (ft ++ fc) rfl rfl (by first | exact .inl rfl | exact .inr ⟨_, _, _, rfl, rfl, by kernel_rfl, by decide, rfl⟩) (by kernel_rfl) (by kernel_rfl) rfl rfl rfl (by simp only [List.length_append]; omega)) (by kernel_rfl), ?_⟩
        exact fnl
      intro vv wv hvv hbv _ _
      have hv34 : vv 34 = (.string (bs (X ++ (ft ++ fc)))) := (hvv 34 (by decide)).1
      rw [hres] at hv34
      simp only [lay, List.foldl_cons, List.foldl_nil, List.setIfInBounds_toArray, List.set_cons_succ, List.set_cons_zero, hv34, List.drop_succ_cons, List.drop_zero]
      have R2 := R1.next hbv
      have hb6 := Below.next hbx hbv
      clear hvv c7 c8 e4 e5 hblk hblk2 s2 sl R1 hres hsum
      go_wp2_with fail
      go_roundw
      case rel => exact ⟨j + 1, by omega, by go_num, by rw [hZ], R2, hb6⟩
      case measure => simp [intOf]; omega
    · obtain rfl : j = q := by omega
      have hE := Lib.hid (show D ++ dns (e.take j) (l.take j) = D ++ dns e l by rw [HFL.out])
      go_wp2_with fail
      go_ret
      exact ⟨by rw [hE.out]; rfl, hbx⟩
theorem zeroEnD (w : World) : (zeroValue 38).run Tryz.prog w = .ok (.agg #[.string ⟨#[]⟩, .slice none 0 0, .slice none 0 0]) w := by kernel_rfl
set_option maxRecDepth 100000 in
set_option maxHeartbeats 4000000 in
theorem describe_any (S : Sch) (hO : Okk S) (hP : Parts S) (hl : ∀ x, (dd (dfOf S x)).length ≤ 100000) (b1 b2 : Nat) (x : List UInt8) (hx : x.length ≤ 9223372036854775807) (hxu : x ∈ univ S) (w : World) (hD : Dm w S b1 b2) :
    Calls Tryz.prog 56 #[.agg #[.map (some b1), .map (some b2)], .string (bs x)] w (Ib (.string (bs (dd (dfOf S x)))) w) := by
  have B1 := Bx.new2 w 66 (.map (some b1)) (.map (some b2))
  have hab := ab1 w (Obj.cells #[.map (some b1), .map (some b2)] 66)
  have hD1 := hD.next hab
  have cH := hasStruct_any S b1 b2 x _ hx hD1
  have hlx := hl x
  unfold dfOf at hlx ⊢
  have hms := mem_sns S x
  cases hc : fst_ St.name S.structs x with
  | some t =>
    rw [hc] at hlx hms
    obtain ⟨fq, D_, nq, vq, hnq, hMq, hvq, hStq⟩ := hD.look hO x
    rw [hc] at hStq
    have hStq : StV w t vq := hStq
    have hms : true = (sns S).contains x := hms
    rw [← hms] at cH
    have htm := (fst_mem hc).1
    have hlx : (dst t).length ≤ 100000 := hlx
    show Calls _ _ _ _ (Ib (.string (bs (dst t))) w)
    have cS := fun W (h : Below w.heap.size w W) => describeStruct_any S t vq W (fun f hf => ⟨hO.rt t htm f hf, (hP.inF htm hf).2⟩) hlx (hStq.next h)
    have hz : ∀ W, Below w.heap.size w W → (Instr.lookup 63 (.map (some b1)) (.string (bs x)) false).run Tryz.prog W = .ok vq W := fun W h => (hMq.next h).run_look Tryz.underlying63 (zeroSt _) hx hvq
    clear hc hMq hStq hms htm hl hlx hD hD1
    generalize dst t = R at *
    go_enter Tryz.func56, Tryz.ntmps56
    go_wp2_with fail
    refine cH.mono ?_
    rintro e w2 ⟨rfl, hb2⟩
    have R2 := B1.next hb2
    have q0 := R2.c 0 rfl
    have q1 := R2.c 1 rfl
    have q2 := R2.lt
    have hb3 := Below.next hab hb2
    have hlk := hz w2 hb3
    have cS2 := cS w2 hb3
    clear cH hz cS
    go_wp2_with fail
    refine cS2.mono ?_
    rintro e w3 ⟨rfl, hb4⟩
    go_wp2_with fail
    go_ret
    exact ⟨rfl, Below.next hb3 hb4⟩
  | none =>
    rw [hc] at hlx hms
    obtain ⟨fq, D_, nq, vq, hnq, hMq, hvq, hStq⟩ := hD.lookE hP.nde x
    have hms : false = (sns S).contains x := hms
    have hxe : x ∈ ens S := by
      unfold univ at hxu
      rcases List.mem_append.1 hxu with h | h
      · rw [← List.contains_iff_mem, ← hms] at h; cases h
      · exact h
    rw [← hms] at cH
    have htm : ((fst_ En.name S.enums x).getD en0) ∈ S.enums := by
      obtain ⟨t, ht, -⟩ := fst_in (l := S.enums) (key := En.name) hxe
      rw [ht]
      exact (fst_mem ht).1
    generalize (fst_ En.name S.enums x).getD en0 = t at *
    have hlx : (den t).length ≤ 100000 := hlx
    show Calls _ _ _ _ (Ib (.string (bs (den t))) w)
    have cS := fun W (h : Below w.heap.size w W) => describeEnum_any t vq W (hP.inE htm) hlx (hStq.next h)
    have hz : ∀ W, Below w.heap.size w W → (Instr.lookup 64 (.map (some b2)) (.string (bs x)) false).run Tryz.prog W = .ok vq W := fun W h => (hMq.next h).run_look Tryz.underlying64 (zeroEnD _) hx hvq
    clear hc hMq hStq hms htm hl hlx hD hD1 hxe
    generalize den t = R at *
    go_enter Tryz.func56, Tryz.ntmps56
    go_wp2_with fail
    refine cH.mono ?_
    rintro e w2 ⟨rfl, hb2⟩
    have R2 := B1.next hb2
    have q0 := R2.c 0 rfl
    have q1 := R2.c 1 rfl
    have q2 := R2.lt
    have hb3 := Below.next hab hb2
    have hlk := hz w2 hb3
    have cS2 := cS w2 hb3
    clear cH hz cS
    go_wp2_with fail
    refine cS2.mono ?_
    rintro e w3 ⟨rfl, hb4⟩
    go_wp2_with fail
    go_ret
    exact ⟨rfl, Below.next hb3 hb4⟩
end Go.Proofs.YthbhbpcjcnkkkaaGreatDoor

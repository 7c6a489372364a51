import Derived.Test.YtlebppjldoodgaaYq
import Derived.Test.YtlebppjldoodgaaYs
/-
  The law of order. Go's own bounds of slices' and texts' lengths are its conditions.
-/
namespace Go.Proofs.Ytlebppjldoodgaa
open Go.RowKit Go.Shelf Go.Sort
theorem o1_in {a b : Int} (h : -1 ≤ a ∧ a ≤ 1) (k : -1 ≤ b ∧ b ≤ 1) : -1 ≤ o1 a b ∧ o1 a b ≤ 1 := by unfold o1; split <;> assumption
theorem sg_in (a b : Int) : -1 ≤ sg a b ∧ sg a b ≤ 1 := by unfold sg; split; decide; split <;> decide
theorem ob_in2 (a b : List UInt8) : -1 ≤ ob a b ∧ ob a b ≤ 1 := by have := ob_in a b; omega
mutual
theorem cm_in : ∀ a b : Vl, -1 ≤ cm a b ∧ cm a b ≤ 1
  | .mk k n s l f, .mk k' n' s' l' f' => by
    rw [cm]
    exact o1_in (sg_in _ _) (o1_in (sg_in _ _) (o1_in (ob_in2 _ _) (o1_in (cml_in l l') (cmf_in f f'))))
theorem cml_in : ∀ a b : List Vl, -1 ≤ cml a b ∧ cml a b ≤ 1
  | [], [] => by rw [cml]; decide
  | [], _ :: _ => by rw [cml]; decide
  | _ :: _, [] => by rw [cml]; decide
  | a :: r, b :: q => by rw [cml]; exact o1_in (cm_in a b) (cml_in r q)
theorem cmf_in : ∀ a b : List (Int × Vl), -1 ≤ cmf a b ∧ cmf a b ≤ 1
  | [], [] => by rw [cmf]; decide
  | [], _ :: _ => by rw [cmf]; decide
  | _ :: _, [] => by rw [cmf]; decide
  | (n, a) :: r, (m, b) :: q => by rw [cmf]; exact o1_in (sg_in _ _) (o1_in (cm_in a b) (cmf_in r q))
end
theorem int3 {x : Int} (h : -1 ≤ x ∧ x ≤ 1) : x = -1 ∨ x = 0 ∨ x = 1 := by omega
set_option maxRecDepth 100000 in
set_option maxHeartbeats 16000000 in
theorem orders_any (a b c : Vl) (va vb vc : Value) (w : World) (ha : vok a) (hb : vok b) (hc : vok c) (hva : VlV w a va) (hvb : VlV w b vb) (hvc : VlV w c vc) :
    Calls Try.prog 4 #[va, vb, vc] w (Ib (.bool true) w) := by
  have sA := fun W h => small_any a va W ha (hva.next h)
  have sB := fun W h => small_any b vb W hb (hvb.next h)
  have sC := fun W h => small_any c vc W hc (hvc.next h)
  have cAB := fun W h => devCompare_any (SizeOf.sizeOf a + 1) a b va vb W (by omega) ha hb (hva.next h) (hvb.next h)
  have cBC := fun W h => devCompare_any (SizeOf.sizeOf b + 1) b c vb vc W (by omega) hb hc (hvb.next h) (hvc.next h)
  have cAC := fun W h => devCompare_any (SizeOf.sizeOf a + 1) a c va vc W (by omega) ha hc (hva.next h) (hvc.next h)
  have cBA := fun W h => devCompare_any (SizeOf.sizeOf b + 1) b a vb va W (by omega) hb ha (hvb.next h) (hva.next h)
  have rAB := fun W h => refCompare_any (SizeOf.sizeOf a + 1) a b va vb W (by omega) ha hb (hva.next h) (hvb.next h)
  have eAB := fun W h => devEqual_any a b va vb W ha hb (hva.next h) (hvb.next h)
  have eAA := fun W h => devEqual_any a a va va W ha ha (hva.next h) (hva.next h)
  rw [cm_self] at eAA
  have hT := Lib.hid (tri_cm a b c)
  have x1 := Lib.hid (int3 (cm_in a b))
  have x2 := Lib.hid (int3 (cm_in b c))
  have x3 := Lib.hid (int3 (cm_in a c))
  rw [cm_neg a b] at cBA
  obtain ⟨A, n1, B, m1, rfl, -, -⟩ := hva
  obtain ⟨C, n2, D, m2, rfl, -, -⟩ := hvb
  obtain ⟨E, n3, F, m3, rfl, -, -⟩ := hvc
  generalize decide (wrap64 (sz a : Int) ≤ 300) = pa at *
  generalize decide (wrap64 (sz b : Int) ≤ 300) = pb at *
  generalize decide (wrap64 (sz c : Int) ≤ 300) = pc at *
  generalize cm a b = x at *
  generalize cm b c = y at *
  generalize cm a c = z at *
  have D1 := (Bx.new5 w 25 (.int .i64 a.kind) (.int .i64 a.n) (.string (bs a.s)) (.slice A a.l.length n1) (.slice B a.f.length m1)).next (ab2 _ (Obj.cells #[.int .i64 b.kind, .int .i64 b.n, .string (bs b.s), .slice C b.l.length n2, .slice D b.f.length m2] 25) (Obj.cells #[.int .i64 c.kind, .int .i64 c.n, .string (bs c.s), .slice E c.l.length n3, .slice F c.f.length m3] 25))
  have D2 := (Bx.new5 (w.alloc (Obj.cells #[.int .i64 a.kind, .int .i64 a.n, .string (bs a.s), .slice A a.l.length n1, .slice B a.f.length m1] 25)) 25 (.int .i64 b.kind) (.int .i64 b.n) (.string (bs b.s)) (.slice C b.l.length n2) (.slice D b.f.length m2)).next (ab1 _ (Obj.cells #[.int .i64 c.kind, .int .i64 c.n, .string (bs c.s), .slice E c.l.length n3, .slice F c.f.length m3] 25))
  have D3 := Bx.new5 ((w.alloc (Obj.cells #[.int .i64 a.kind, .int .i64 a.n, .string (bs a.s), .slice A a.l.length n1, .slice B a.f.length m1] 25)).alloc (Obj.cells #[.int .i64 b.kind, .int .i64 b.n, .string (bs b.s), .slice C b.l.length n2, .slice D b.f.length m2] 25)) 25 (.int .i64 c.kind) (.int .i64 c.n) (.string (bs c.s)) (.slice E c.l.length n3) (.slice F c.f.length m3)
  rw [show (w.alloc (Obj.cells #[.int .i64 a.kind, .int .i64 a.n, .string (bs a.s), .slice A a.l.length n1, .slice B a.f.length m1] 25)).heap.size = w.heap.size + 1 by simp] at D2
  rw [show ((w.alloc (Obj.cells #[.int .i64 a.kind, .int .i64 a.n, .string (bs a.s), .slice A a.l.length n1, .slice B a.f.length m1] 25)).alloc (Obj.cells #[.int .i64 b.kind, .int .i64 b.n, .string (bs b.s), .slice C b.l.length n2, .slice D b.f.length m2] 25)).heap.size = w.heap.size + 1 + 1 by simp] at D3
  have hab := ab3 w (Obj.cells #[.int .i64 a.kind, .int .i64 a.n, .string (bs a.s), .slice A a.l.length n1, .slice B a.f.length m1] 25) (Obj.cells #[.int .i64 b.kind, .int .i64 b.n, .string (bs b.s), .slice C b.l.length n2, .slice D b.f.length m2] 25) (Obj.cells #[.int .i64 c.kind, .int .i64 c.n, .string (bs c.s), .slice E c.l.length n3, .slice F c.f.length m3] 25)
  have s1 := sA _ hab
  go_enter Try.func4, Try.ntmps4
  go_wp2_with fail
  refine s1.mono ?_
  rintro e w1 ⟨rfl, hb1⟩
  replace D1 := D1.next hb1
  replace D2 := D2.next hb1
  replace D3 := D3.next hb1
  replace hab := Below.next hab hb1
  clear s1 hb1 sA
  cases pa
  case false =>
    go_wp2_with fail
    refine (awake_any _).mono ?_
    rintro e w9 ⟨rfl, hb9⟩
    go_wp2_with fail
    go_ret
    exact ⟨rfl, Below.next hab hb9⟩
  case true =>
  have s2 := sB _ hab
  have q0 := D2.c 0 rfl
  have q1 := D2.c 1 rfl
  have q2 := D2.c 2 rfl
  have q3 := D2.c 3 rfl
  have q4 := D2.c 4 rfl
  go_wp2_with fail
  refine s2.mono ?_
  rintro e w2 ⟨rfl, hb2⟩
  replace D1 := D1.next hb2
  replace D2 := D2.next hb2
  replace D3 := D3.next hb2
  replace hab := Below.next hab hb2
  clear s2 hb2 sB q0 q1 q2 q3 q4
  cases pb
  case false =>
    go_wp2_with fail
    refine (awake_any _).mono ?_
    rintro e w9 ⟨rfl, hb9⟩
    go_wp2_with fail
    go_ret
    exact ⟨rfl, Below.next hab hb9⟩
  case true =>
  have s3 := sC _ hab
  have q0 := D3.c 0 rfl
  have q1 := D3.c 1 rfl
  have q2 := D3.c 2 rfl
  have q3 := D3.c 3 rfl
  have q4 := D3.c 4 rfl
  go_wp2_with fail
  refine s3.mono ?_
  rintro e w3 ⟨rfl, hb3⟩
  replace D1 := D1.next hb3
  replace D2 := D2.next hb3
  replace D3 := D3.next hb3
  replace hab := Below.next hab hb3
  clear s3 hb3 sC q0 q1 q2 q3 q4
  cases pc
  case false =>
    go_wp2_with fail
    refine (awake_any _).mono ?_
    rintro e w9 ⟨rfl, hb9⟩
    go_wp2_with fail
    go_ret
    exact ⟨rfl, Below.next hab hb9⟩
  case true =>
  have i10 := D1.c 0 rfl
  have i11 := D1.c 1 rfl
  have i12 := D1.c 2 rfl
  have i13 := D1.c 3 rfl
  have i14 := D1.c 4 rfl
  have i20 := D2.c 0 rfl
  have i21 := D2.c 1 rfl
  have i22 := D2.c 2 rfl
  have i23 := D2.c 3 rfl
  have i24 := D2.c 4 rfl
  have i30 := D3.c 0 rfl
  have i31 := D3.c 1 rfl
  have i32 := D3.c 2 rfl
  have i33 := D3.c 3 rfl
  have i34 := D3.c 4 rfl
  go_upto_region 3 with (fail)
  refine wp_region_on (by kernel_rfl) (FF [(3, Fact.at_ w3 (.pointer (some ⟨w.heap.size, 0, none⟩))), (4, Fact.at_ w3 (.pointer (some ⟨(w.heap.size + 1), 0, none⟩))), (5, Fact.at_ w3 (.pointer (some ⟨(w.heap.size + 1 + 1), 0, none⟩))), (24, Fact.at_ w3 (.agg #[.int .i64 a.kind, .int .i64 a.n, .string (bs a.s), .slice A a.l.length n1, .slice B a.f.length m1])), (25, Fact.at_ w3 (.agg #[.int .i64 b.kind, .int .i64 b.n, .string (bs b.s), .slice C b.l.length n2, .slice D b.f.length m2])), (26, Fact.at_ w3 (.int .i64 x)), (27, Fact.at_ w3 (.agg #[.int .i64 b.kind, .int .i64 b.n, .string (bs b.s), .slice C b.l.length n2, .slice D b.f.length m2])), (28, Fact.at_ w3 (.agg #[.int .i64 c.kind, .int .i64 c.n, .string (bs c.s), .slice E c.l.length n3, .slice F c.f.length m3])), (29, Fact.at_ w3 (.int .i64 y)), (30, Fact.at_ w3 (.agg #[.int .i64 a.kind, .int .i64 a.n, .string (bs a.s), .slice A a.l.length n1, .slice B a.f.length m1])), (31, Fact.at_ w3 (.agg #[.int .i64 c.kind, .int .i64 c.n, .string (bs c.s), .slice E c.l.length n3, .slice F c.f.length m3])), (32, Fact.at_ w3 (.int .i64 z)), (7, Fact.at_ w3 (.int .i64 x)), (8, Fact.at_ w3 (.int .i64 y)), (9, Fact.at_ w3 (.int .i64 z))]) [3, 4, 5] 85 [24, 25, 26, 27, 28, 29, 30, 31, 32, 7, 8, 9] rfl (by kernel_rfl) (by kernel_rfl) ?_ ?_ ?_
  · intro t9 ht9
    simp only [List.mem_cons, List.not_mem_nil, or_false] at ht9
    rcases ht9 with rfl | rfl | rfl
    · exact ⟨rfl, Below.refl _ _⟩
    · exact ⟨rfl, Below.refl _ _⟩
    · exact ⟨rfl, Below.refl _ _⟩
  · refine fcs ⟨at1 3 24 (.pointer (some ⟨w.heap.size, 0, none⟩)) (.agg #[.int .i64 a.kind, .int .i64 a.n, .string (bs a.s), .slice A a.l.length n1, .slice B a.f.length m1]) rfl (by first | exact .inl rfl | exact .inr ⟨_, _, _, rfl, rfl, by kernel_rfl, by decide, rfl⟩) (by kernel_rfl) rfl rfl (fun a9 W9 hb9 h9 => by have g0 := cell_next hb9 i10; have g1 := cell_next hb9 i11; have g2 := cell_next hb9 i12; have g3 := cell_next hb9 i13; have g4 := cell_next hb9 i14; simp [execOp, h9] <;> go_simp), ?_⟩
    refine fcs ⟨at1 4 25 (.pointer (some ⟨(w.heap.size + 1), 0, none⟩)) (.agg #[.int .i64 b.kind, .int .i64 b.n, .string (bs b.s), .slice C b.l.length n2, .slice D b.f.length m2]) rfl (by first | exact .inl rfl | exact .inr ⟨_, _, _, rfl, rfl, by kernel_rfl, by decide, rfl⟩) (by kernel_rfl) rfl rfl (fun a9 W9 hb9 h9 => by have g0 := cell_next hb9 i20; have g1 := cell_next hb9 i21; have g2 := cell_next hb9 i22; have g3 := cell_next hb9 i23; have g4 := cell_next hb9 i24; simp [execOp, h9] <;> go_simp), ?_⟩
    refine fcs ⟨atc2 13 24 25 26 (.agg #[.int .i64 a.kind, .int .i64 a.n, .string (bs a.s), .slice A a.l.length n1, .slice B a.f.length m1]) (.agg #[.int .i64 b.kind, .int .i64 b.n, .string (bs b.s), .slice C b.l.length n2, .slice D b.f.length m2]) (.int .i64 x) _ rfl rfl (by first | exact .inl rfl | exact .inr ⟨_, _, _, rfl, rfl, by kernel_rfl, by decide, rfl⟩) (by kernel_rfl) (by kernel_rfl) rfl rfl (by kernel_rfl) rfl (fun W9 hb9 => cAB W9 (Below.next hab hb9)), ?_⟩
    refine fcs ⟨at1 4 27 (.pointer (some ⟨(w.heap.size + 1), 0, none⟩)) (.agg #[.int .i64 b.kind, .int .i64 b.n, .string (bs b.s), .slice C b.l.length n2, .slice D b.f.length m2]) rfl (by first | exact .inl rfl | exact .inr ⟨_, _, _, rfl, rfl, by kernel_rfl, by decide, rfl⟩) (by kernel_rfl) rfl rfl (fun a9 W9 hb9 h9 => by have g0 := cell_next hb9 i20; have g1 := cell_next hb9 i21; have g2 := cell_next hb9 i22; have g3 := cell_next hb9 i23; have g4 := cell_next hb9 i24; simp [execOp, h9] <;> go_simp), ?_⟩
    refine fcs ⟨at1 5 28 (.pointer (some ⟨(w.heap.size + 1 + 1), 0, none⟩)) (.agg #[.int .i64 c.kind, .int .i64 c.n, .string (bs c.s), .slice E c.l.length n3, .slice F c.f.length m3]) rfl (by first | exact .inl rfl | exact .inr ⟨_, _, _, rfl, rfl, by kernel_rfl, by decide, rfl⟩) (by kernel_rfl) rfl rfl (fun a9 W9 hb9 h9 => by have g0 := cell_next hb9 i30; have g1 := cell_next hb9 i31; have g2 := cell_next hb9 i32; have g3 := cell_next hb9 i33; have g4 := cell_next hb9 i34; simp [execOp, h9] <;> go_simp), ?_⟩
    refine fcs ⟨atc2 13 27 28 29 (.agg #[.int .i64 b.kind, .int .i64 b.n, .string (bs b.s), .slice C b.l.length n2, .slice D b.f.length m2]) (.agg #[.int .i64 c.kind, .int .i64 c.n, .string (bs c.s), .slice E c.l.length n3, .slice F c.f.length m3]) (.int .i64 y) _ rfl rfl (by first | exact .inl rfl | exact .inr ⟨_, _, _, rfl, rfl, by kernel_rfl, by decide, rfl⟩) (by kernel_rfl) (by kernel_rfl) rfl rfl (by kernel_rfl) rfl (fun W9 hb9 => cBC W9 (Below.next hab hb9)), ?_⟩
    refine fcs ⟨at1 3 30 (.pointer (some ⟨w.heap.size, 0, none⟩)) (.agg #[.int .i64 a.kind, .int .i64 a.n, .string (bs a.s), .slice A a.l.length n1, .slice B a.f.length m1]) rfl (by first | exact .inl rfl | exact .inr ⟨_, _, _, rfl, rfl, by kernel_rfl, by decide, rfl⟩) (by kernel_rfl) rfl rfl (fun a9 W9 hb9 h9 => by have g0 := cell_next hb9 i10; have g1 := cell_next hb9 i11; have g2 := cell_next hb9 i12; have g3 := cell_next hb9 i13; have g4 := cell_next hb9 i14; simp [execOp, h9] <;> go_simp), ?_⟩
    refine fcs ⟨at1 5 31 (.pointer (some ⟨(w.heap.size + 1 + 1), 0, none⟩)) (.agg #[.int .i64 c.kind, .int .i64 c.n, .string (bs c.s), .slice E c.l.length n3, .slice F c.f.length m3]) rfl (by first | exact .inl rfl | exact .inr ⟨_, _, _, rfl, rfl, by kernel_rfl, by decide, rfl⟩) (by kernel_rfl) rfl rfl (fun a9 W9 hb9 h9 => by have g0 := cell_next hb9 i30; have g1 := cell_next hb9 i31; have g2 := cell_next hb9 i32; have g3 := cell_next hb9 i33; have g4 := cell_next hb9 i34; simp [execOp, h9] <;> go_simp), ?_⟩
    refine fcs ⟨atc2 13 30 31 32 (.agg #[.int .i64 a.kind, .int .i64 a.n, .string (bs a.s), .slice A a.l.length n1, .slice B a.f.length m1]) (.agg #[.int .i64 c.kind, .int .i64 c.n, .string (bs c.s), .slice E c.l.length n3, .slice F c.f.length m3]) (.int .i64 z) _ rfl rfl (by first | exact .inl rfl | exact .inr ⟨_, _, _, rfl, rfl, by kernel_rfl, by decide, rfl⟩) (by kernel_rfl) (by kernel_rfl) rfl rfl (by kernel_rfl) rfl (fun W9 hb9 => cAC W9 (Below.next hab hb9)), ?_⟩
    refine fcs ⟨atcopy 26 7 (.int .i64 x) (.inr rfl) rfl (by first | exact .inl rfl | exact .inr ⟨_, _, _, rfl, rfl, by kernel_rfl, by decide, rfl⟩) (by kernel_rfl) rfl rfl, ?_⟩
    refine fcs ⟨atcopy 29 8 (.int .i64 y) (.inr rfl) rfl (by first | exact .inl rfl | exact .inr ⟨_, _, _, rfl, rfl, by kernel_rfl, by decide, rfl⟩) (by kernel_rfl) rfl rfl, ?_⟩
    refine fcs ⟨atcopy 32 9 (.int .i64 z) (.inr rfl) rfl (by first | exact .inl rfl | exact .inr ⟨_, _, _, rfl, rfl, by kernel_rfl, by decide, rfl⟩) (by kernel_rfl) rfl rfl, ?_⟩
    exact fnl
  intro vv wv hvv hbv
  have hv7 : vv 7 = (.int .i64 x) := (hvv 7 (by decide)).1
  have hv8 : vv 8 = (.int .i64 y) := (hvv 8 (by decide)).1
  have hv9 : vv 9 = (.int .i64 z) := (hvv 9 (by decide)).1
  simp only [lay, List.foldl_cons, List.foldl_nil, List.setIfInBounds_toArray, List.set_cons_succ, List.set_cons_zero, hv7, hv8, hv9]
  clear hvv i10 i11 i12 i13 i14 i20 i21 i22 i23 i24 i30 i31 i32 i33 i34 cAB cBC cAC
  replace D1 := D1.next hbv
  replace D2 := D2.next hbv
  replace hab := Below.next hab hbv
  clear D3 hbv hv7 hv8 hv9
  have q0 := D1.c 0 rfl
  have q1 := D1.c 1 rfl
  have q2 := D1.c 2 rfl
  have q3 := D1.c 3 rfl
  have q4 := D1.c 4 rfl
  have r0 := D2.c 0 rfl
  have r1 := D2.c 1 rfl
  have r2 := D2.c 2 rfl
  have r3 := D2.c 3 rfl
  have r4 := D2.c 4 rfl
  have c1 := rAB _ hab
  go_wp2_with fail
  refine c1.mono ?_
  rintro e w5 ⟨rfl, hb5⟩
  replace D1 := D1.next hb5
  replace D2 := D2.next hb5
  replace hab := Below.next hab hb5
  clear c1 hb5 rAB q0 q1 q2 q3 q4 r0 r1 r2 r3 r4
  have q0 := D1.c 0 rfl
  have q1 := D1.c 1 rfl
  have q2 := D1.c 2 rfl
  have q3 := D1.c 3 rfl
  have q4 := D1.c 4 rfl
  have r0 := D2.c 0 rfl
  have r1 := D2.c 1 rfl
  have r2 := D2.c 2 rfl
  have r3 := D2.c 3 rfl
  have r4 := D2.c 4 rfl
  have c1 := cBA _ hab
  have dx : (x != x) = false := by simp
  go_wp2_with fail
  refine c1.mono ?_
  rintro e w6 ⟨rfl, hb6⟩
  replace D1 := D1.next hb6
  replace D2 := D2.next hb6
  replace hab := Below.next hab hb6
  clear c1 hb6 cBA q0 q1 q2 q3 q4 r0 r1 r2 r3 r4
  have q0 := D1.c 0 rfl
  have q1 := D1.c 1 rfl
  have q2 := D1.c 2 rfl
  have q3 := D1.c 3 rfl
  have q4 := D1.c 4 rfl
  have r0 := D2.c 0 rfl
  have r1 := D2.c 1 rfl
  have r2 := D2.c 2 rfl
  have r3 := D2.c 3 rfl
  have r4 := D2.c 4 rfl
  have c1 := eAB _ hab
  have hn3 : IntKind.i64.wrap x = x := IntWalk.i64_in _ (by have := x1.out; omega)
  go_wp2_with fail
  refine c1.mono ?_
  rintro e w7 ⟨rfl, hb7⟩
  replace D1 := D1.next hb7
  replace D2 := D2.next hb7
  replace hab := Below.next hab hb7
  clear c1 hb7 eAB q0 q1 q2 q3 q4 r0 r1 r2 r3 r4
  have q0 := D1.c 0 rfl
  have q1 := D1.c 1 rfl
  have q2 := D1.c 2 rfl
  have q3 := D1.c 3 rfl
  have q4 := D1.c 4 rfl
  have c1 := eAA _ hab
  obtain ⟨g, hg⟩ : ∃ g, (x == 0) = g := ⟨_, rfl⟩
  have dg : (g != g) = false := by cases g <;> rfl
  go_wp2_with fail
  refine c1.mono ?_
  rintro e w8 ⟨rfl, hb8⟩
  replace hab := Below.next hab hb8
  clear c1 hb8 eAA q0 q1 q2 q3 q4 D1 D2 dg hg hn3 dx
  obtain ⟨t1, t2, t3, t4⟩ := hT.out
  have y1 := x1.out
  have y2 := x2.out
  have y3 := x3.out
  clear x1 x2 x3 hT
  rcases y1 with rfl | rfl | rfl <;> rcases y2 with rfl | rfl | rfl <;> rcases y3 with rfl | rfl | rfl <;> first
    | (exfalso; omega)
    | (clear t1 t2 t3 t4
       go_wp2_with fail
       refine (awake_any _).mono ?_
       rintro e w9 ⟨rfl, hb9⟩
       go_wp2_with fail
       go_ret
       exact ⟨rfl, Below.next hab hb9⟩)
theorem orders_row (a : Vl) (va : Value) (b : Vl) (vb : Value) (c : Vl) (vc : Value) (w : World) (ha : vok a) (hva : VlV w a va) (hb : vok b) (hvb : VlV w b vb) (hc : vok c) (hvc : VlV w c vc) :
    Calls Try.prog 4 #[va, vb, vc] w (Ib (.bool true) w) := orders_any a b c va vb vc w ha hb hc hva hvb hvc
end Go.Proofs.Ytlebppjldoodgaa

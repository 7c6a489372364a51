import Derived.Test.YtlebppjldoodgaaYv
import Derived.Test.YtlebppjldoodgaaYq
import Derived.Test.YtlebppjldoodgaaYs
/-
  The law of paths. Its condition: the value has at most 1048576 values within it.
-/
namespace Go.Proofs.Ytlebppjldoodgaa
open Go.RowKit Go.Shelf Go.Sort
theorem wrap_sz {n : Nat} (h : n ≤ 2000000) : wrap64 (n : Int) = (n : Int) := by unfold wrap64; omega
set_option maxRecDepth 100000 in
set_option maxHeartbeats 16000000 in
theorem paths_any (t : Vl) (v : Value) (zs : List Int) (P : Option Addr) (pc : Nat) (w : World) (hok : vok t) (hsz : sz t ≤ 1048576) (hv : VlV w t v) (hzl : zs.length ≤ 9223372036854775807) (hp : Rw TyI 1 w zs P) :
    Calls Try.prog 6 #[v, .slice P zs.length pc] w (Ib (.bool true) w) := by
  have sM := fun W h => small_any t v W hok (hv.next h)
  have cA := fun W (h : Below w.heap.size w W) (k : zs.length ≤ 2000000) => devAt_any t zs v P pc W (by omega) k (hv.next h) (hp.next fun x p => cell_next h)
  have cB := fun W (h : Below w.heap.size w W) (k : zs.length ≤ 2000000) => refAt_any t zs v P pc W hok k (hv.next h) (hp.next fun x p => cell_next h)
  have cC := fun W (h : Below w.heap.size w W) => devAt_any t [] v none 0 W (by omega) (by decide) (hv.next h) (.inl rfl)
  have cS0 := fun W h => devSize_any (SizeOf.sizeOf t + 1) t v W (by omega) hok (hv.next h)
  have cT0 := fun W h => refSize_any (SizeOf.sizeOf t + 1) t v W (by omega) hok (hv.next h)
  rw [wrap_sz (show sz t ≤ 2000000 by omega)] at sM cS0 cT0
  have hus := at_sz zs t
  have huk := at_ok zs t hok
  have cUV := fun (s : Sb) W (hr : RdV W ((atV t zs).getD vl0) s) => devSize_any (SizeOf.sizeOf ((atV t zs).getD vl0) + 1) ((atV t zs).getD vl0) (.agg #[.int .i64 ((atV t zs).getD vl0).kind, .int .i64 ((atV t zs).getD vl0).n, .string (bs ((atV t zs).getD vl0).s), .slice s.A ((atV t zs).getD vl0).l.length s.c, .slice s.B ((atV t zs).getD vl0).f.length s.d]) W (by omega) huk ⟨s.A, s.c, s.B, s.d, rfl, hr⟩
  have cEq := fun (s s' : Sb) W (hr : RdV W ((atV t zs).getD vl0) s) (hr' : RdV W ((atV t zs).getD vl0) s') => refEqual_any _ _ (.agg #[.int .i64 ((atV t zs).getD vl0).kind, .int .i64 ((atV t zs).getD vl0).n, .string (bs ((atV t zs).getD vl0).s), .slice s.A ((atV t zs).getD vl0).l.length s.c, .slice s.B ((atV t zs).getD vl0).f.length s.d]) (.agg #[.int .i64 ((atV t zs).getD vl0).kind, .int .i64 ((atV t zs).getD vl0).n, .string (bs ((atV t zs).getD vl0).s), .slice s'.A ((atV t zs).getD vl0).l.length s'.c, .slice s'.B ((atV t zs).getD vl0).f.length s'.d]) W huk huk ⟨s.A, s.c, s.B, s.d, rfl, hr⟩ ⟨s'.A, s'.c, s'.B, s'.d, rfl, hr'⟩
  have cEv := fun (s : Sb) W (h : Below w.heap.size w W) (hr : RdV W t s) => refEqual_any t t (.agg #[.int .i64 t.kind, .int .i64 t.n, .string (bs t.s), .slice s.A t.l.length s.c, .slice s.B t.f.length s.d]) v W hok hok ⟨s.A, s.c, s.B, s.d, rfl, hr⟩ (hv.next h)
  simp only [cm_self, beq_self_eq_true] at cEq cEv
  rw [wrap_sz (show sz ((atV t zs).getD vl0) ≤ 2000000 by omega)] at cUV
  obtain ⟨S, hS⟩ : ∃ S, (sz t : Int) = S := ⟨_, rfl⟩
  obtain ⟨U, hU⟩ : ∃ U, (sz ((atV t zs).getD vl0) : Int) = U := ⟨_, rfl⟩
  have hUS : U ≤ S := by omega
  rw [hS] at sM cS0 cT0
  rw [hU] at cUV
  have hat0 : atV t [] = some t := rfl
  rw [hat0] at cC
  obtain ⟨s0, rfl, -⟩ := rdV_iff.1 hv
  obtain ⟨n, hn⟩ : ∃ n, zs.length = n := ⟨_, rfl⟩
  rw [hn] at cA cB hzl ⊢
  unfold FdP at cA cB cC
  obtain ⟨o, ho⟩ : ∃ o, atV t zs = o := ⟨_, rfl⟩
  rw [ho] at cA cB cUV cEq
  obtain ⟨u, hu⟩ : ∃ u, o.getD vl0 = u := ⟨_, rfl⟩
  obtain ⟨b, hbb⟩ : ∃ b, o.isSome = b := ⟨_, rfl⟩
  simp only [hu, hbb] at cA cB cUV cEq
  have D1 := Bx.new5 w 25 (.int .i64 t.kind) (.int .i64 t.n) (.string (bs t.s)) (.slice s0.A t.l.length s0.c) (.slice s0.B t.f.length s0.d)
  have hab := ab1 w (Obj.cells #[.int .i64 t.kind, .int .i64 t.n, .string (bs t.s), .slice s0.A t.l.length s0.c, .slice s0.B t.f.length s0.d] 25)
  show Calls Try.prog 6 #[(.agg #[.int .i64 t.kind, .int .i64 t.n, .string (bs t.s), .slice s0.A t.l.length s0.c, .slice s0.B t.f.length s0.d]), .slice P n pc] w _
  have s1 := sM _ hab
  clear hv hp hn hS hU hat0 ho hu hbb hus huk hok hsz sM
  obtain ⟨p, hpp⟩ : ∃ p, decide (S ≤ 300) = p := ⟨_, rfl⟩
  rw [hpp] at s1
  clear hpp
  go_enter Try.func6, Try.ntmps6
  go_wp2_with fail
  refine s1.mono ?_
  rintro e w1 ⟨rfl, hb1⟩
  replace D1 := D1.next hb1
  replace hab := Below.next hab hb1
  clear s1 hb1
  cases p
  case false =>
    go_wp2_with fail
    refine (awake_any _).mono ?_
    rintro e w9 ⟨rfl, hb9⟩
    go_wp2_with fail
    go_ret
    exact ⟨rfl, Below.next hab hb9⟩
  case true =>
  by_cases h40 : 40 < n
  · have d40 : decide ((40 : Int) < (n : Int)) = true := decide_eq_true (by omega)
    go_wp2_with fail
    refine (awake_any _).mono ?_
    rintro e w9 ⟨rfl, hb9⟩
    go_wp2_with fail
    go_ret
    exact ⟨rfl, Below.next hab hb9⟩
  have d40 : decide ((40 : Int) < (n : Int)) = false := decide_eq_false (by omega)
  have c1 := cA _ hab (by omega)
  have q0 := D1.c 0 rfl
  have q1 := D1.c 1 rfl
  have q2 := D1.c 2 rfl
  have q3 := D1.c 3 rfl
  have q4 := D1.c 4 rfl
  go_wp2_with fail
  refine c1.mono ?_
  rintro e w2 ⟨sa, rfl, hra, hb2⟩
  have hbx := ab1 w2 (Obj.cells #[.int .i64 u.kind, .int .i64 u.n, .string (bs u.s), .slice sa.A u.l.length sa.c, .slice sa.B u.f.length sa.d] 25)
  have DA := Bx.new5 w2 25 (.int .i64 u.kind) (.int .i64 u.n) (.string (bs u.s)) (.slice sa.A u.l.length sa.c) (.slice sa.B u.f.length sa.d)
  obtain ⟨ga, hga⟩ : ∃ ga, w2.heap.size = ga := ⟨_, rfl⟩
  replace D1 := (D1.next hb2).next hbx
  replace hra := hra.next hbx
  replace hab := Below.next (Below.next hab hb2) hbx
  rw [hga] at DA
  clear c1 cA q0 q1 q2 q3 q4 hb2 hbx
  have c1 := cB _ hab (by omega)
  have q0 := D1.c 0 rfl
  have q1 := D1.c 1 rfl
  have q2 := D1.c 2 rfl
  have q3 := D1.c 3 rfl
  have q4 := D1.c 4 rfl
  go_upto_region 4 with (fail)
  generalize w2.alloc (Obj.cells #[.int .i64 u.kind, .int .i64 u.n, .string (bs u.s), .slice sa.A u.l.length sa.c, .slice sa.B u.f.length sa.d] 25) = w3 at *
  go_wp2_with fail
  refine c1.mono ?_
  rintro e w4 ⟨sb, rfl, hrb, hb4⟩
  have hbx := ab1 w4 (Obj.cells #[.int .i64 u.kind, .int .i64 u.n, .string (bs u.s), .slice sb.A u.l.length sb.c, .slice sb.B u.f.length sb.d] 25)
  have DB := Bx.new5 w4 25 (.int .i64 u.kind) (.int .i64 u.n) (.string (bs u.s)) (.slice sb.A u.l.length sb.c) (.slice sb.B u.f.length sb.d)
  obtain ⟨gb, hgb⟩ : ∃ gb, w4.heap.size = gb := ⟨_, rfl⟩
  replace D1 := (D1.next hb4).next hbx
  replace DA := (DA.next hb4).next hbx
  replace hra := (hra.next hb4).next hbx
  replace hrb := hrb.next hbx
  replace hab := Below.next (Below.next hab hb4) hbx
  rw [hgb] at DB
  clear c1 cB q0 q1 q2 q3 q4 hb4 hbx
  have c1 := cC _ hab
  have q0 := D1.c 0 rfl
  have q1 := D1.c 1 rfl
  have q2 := D1.c 2 rfl
  have q3 := D1.c 3 rfl
  have q4 := D1.c 4 rfl
  go_upto_region 5 with (fail)
  generalize w4.alloc (Obj.cells #[.int .i64 u.kind, .int .i64 u.n, .string (bs u.s), .slice sb.A u.l.length sb.c, .slice sb.B u.f.length sb.d] 25) = w5 at *
  go_wp2_with fail
  refine c1.mono ?_
  rintro e w6 ⟨sc, rfl, hrc, hb6⟩
  have hbx := ab1 w6 (Obj.cells #[.int .i64 t.kind, .int .i64 t.n, .string (bs t.s), .slice sc.A t.l.length sc.c, .slice sc.B t.f.length sc.d] 25)
  have DC := Bx.new5 w6 25 (.int .i64 t.kind) (.int .i64 t.n) (.string (bs t.s)) (.slice sc.A t.l.length sc.c) (.slice sc.B t.f.length sc.d)
  obtain ⟨gc, hgc⟩ : ∃ gc, w6.heap.size = gc := ⟨_, rfl⟩
  replace D1 := (D1.next hb6).next hbx
  replace DA := (DA.next hb6).next hbx
  replace DB := (DB.next hb6).next hbx
  replace hra := (hra.next hb6).next hbx
  replace hrb := (hrb.next hb6).next hbx
  have hrc2 : RdV _ t sc := RdV.next hbx hrc
  replace hab := Below.next (Below.next hab hb6) hbx
  rw [hgc] at DC
  clear c1 cC q0 q1 q2 q3 q4 hb6 hbx hrc
  go_upto_region 6 with (fail)
  generalize w6.alloc (Obj.cells #[.int .i64 t.kind, .int .i64 t.n, .string (bs t.s), .slice sc.A t.l.length sc.c, .slice sc.B t.f.length sc.d] 25) = W5 at *
  have v0 := D1.c 0 rfl
  have v1 := D1.c 1 rfl
  have v2 := D1.c 2 rfl
  have v3 := D1.c 3 rfl
  have v4 := D1.c 4 rfl
  have a0 := DA.c 0 rfl
  have a1 := DA.c 1 rfl
  have a2 := DA.c 2 rfl
  have a3 := DA.c 3 rfl
  have a4 := DA.c 4 rfl
  have b0 := DB.c 0 rfl
  have b1 := DB.c 1 rfl
  have b2 := DB.c 2 rfl
  have b3 := DB.c 3 rfl
  have b4 := DB.c 4 rfl
  have c0 := DC.c 0 rfl
  have c1 := DC.c 1 rfl
  have c2 := DC.c 2 rfl
  have c3 := DC.c 3 rfl
  have c4 := DC.c 4 rfl
  have cAB := fun W (h : Below W5.heap.size W5 W) => cEq sa sb W (hra.next h) (hrb.next h)
  have cCV : ∀ W, Below W5.heap.size W5 W → Calls Try.prog 20 #[(.agg #[.int .i64 t.kind, .int .i64 t.n, .string (bs t.s), .slice sc.A t.l.length sc.c, .slice sc.B t.f.length sc.d]), (.agg #[.int .i64 t.kind, .int .i64 t.n, .string (bs t.s), .slice s0.A t.l.length s0.c, .slice s0.B t.f.length s0.d])] W (Ib (.bool true) W) := fun W h => cEv sc W (Below.next hab h) (hrc2.next h)
  have cS : ∀ W, Below W5.heap.size W5 W → Calls Try.prog 25 #[(.agg #[.int .i64 t.kind, .int .i64 t.n, .string (bs t.s), .slice s0.A t.l.length s0.c, .slice s0.B t.f.length s0.d])] W (Ib (.int .i64 S) W) := fun W h => cS0 W (Below.next hab h)
  have cT : ∀ W, Below W5.heap.size W5 W → Calls Try.prog 26 #[(.agg #[.int .i64 t.kind, .int .i64 t.n, .string (bs t.s), .slice s0.A t.l.length s0.c, .slice s0.B t.f.length s0.d])] W (Ib (.int .i64 S) W) := fun W h => cT0 W (Below.next hab h)
  have cU := fun W (h : Below W5.heap.size W5 W) => cUV sa W (hra.next h)
  have dUS : decide (U ≤ S) = true := decide_eq_true hUS
  have dbb : (b == b) = true := by cases b <;> rfl
  have dss : (S == S) = true := by simp
  clear cEq cEv cS0 cT0 cUV
  refine wp_region_on (by kernel_rfl) (FF [(6, Fact.at_ W5 (.bool b)), (8, Fact.at_ W5 (.bool b)), (5, Fact.at_ W5 (.pointer (some ⟨ga, 0, none⟩))), (7, Fact.at_ W5 (.pointer (some ⟨gb, 0, none⟩))), (10, Fact.at_ W5 (.bool true)), (9, Fact.at_ W5 (.pointer (some ⟨gc, 0, none⟩))), (2, Fact.at_ W5 (.pointer (some ⟨w.heap.size, 0, none⟩))), (37, Fact.at_ W5 (.bool b)), (38, Fact.at_ W5 (.bool b)), (39, Fact.at_ W5 (.bool true)), (40, Fact.at_ W5 (.bool true)), (41, Fact.at_ W5 (.agg #[.int .i64 u.kind, .int .i64 u.n, .string (bs u.s), .slice sa.A u.l.length sa.c, .slice sa.B u.f.length sa.d])), (42, Fact.at_ W5 (.agg #[.int .i64 u.kind, .int .i64 u.n, .string (bs u.s), .slice sb.A u.l.length sb.c, .slice sb.B u.f.length sb.d])), (43, Fact.at_ W5 (.bool true)), (44, Fact.at_ W5 (.bool true)), (45, Fact.at_ W5 (.bool true)), (46, Fact.at_ W5 (.bool true)), (47, Fact.at_ W5 (.bool true)), (48, Fact.at_ W5 (.bool true)), (49, Fact.at_ W5 (.agg #[.int .i64 t.kind, .int .i64 t.n, .string (bs t.s), .slice sc.A t.l.length sc.c, .slice sc.B t.f.length sc.d])), (50, Fact.at_ W5 (.agg #[.int .i64 t.kind, .int .i64 t.n, .string (bs t.s), .slice s0.A t.l.length s0.c, .slice s0.B t.f.length s0.d])), (51, Fact.at_ W5 (.bool true)), (52, Fact.at_ W5 (.bool true)), (53, Fact.at_ W5 (.bool true)), (54, Fact.at_ W5 (.agg #[.int .i64 t.kind, .int .i64 t.n, .string (bs t.s), .slice s0.A t.l.length s0.c, .slice s0.B t.f.length s0.d])), (55, Fact.at_ W5 (.int .i64 S)), (56, Fact.at_ W5 (.agg #[.int .i64 t.kind, .int .i64 t.n, .string (bs t.s), .slice s0.A t.l.length s0.c, .slice s0.B t.f.length s0.d])), (57, Fact.at_ W5 (.int .i64 S)), (58, Fact.at_ W5 (.bool true)), (59, Fact.at_ W5 (.bool true)), (60, Fact.at_ W5 (.bool true)), (61, Fact.at_ W5 (.agg #[.int .i64 u.kind, .int .i64 u.n, .string (bs u.s), .slice sa.A u.l.length sa.c, .slice sa.B u.f.length sa.d])), (62, Fact.at_ W5 (.int .i64 U)), (63, Fact.at_ W5 (.agg #[.int .i64 t.kind, .int .i64 t.n, .string (bs t.s), .slice s0.A t.l.length s0.c, .slice s0.B t.f.length s0.d])), (64, Fact.at_ W5 (.int .i64 S)), (65, Fact.at_ W5 (.bool true)), (66, Fact.at_ W5 (.bool true)), (67, Fact.at_ W5 (.bool true)), (68, Fact.at_ W5 (.bool true)), (69, Fact.at_ W5 (.bool true)), (4, Fact.at_ W5 (.bool true))]) [6, 8, 5, 7, 10, 9, 2] 70 [37, 38, 39, 40, 41, 42, 43, 44, 45, 46, 47, 48, 49, 50, 51, 52, 53, 54, 55, 56, 57, 58, 59, 60, 61, 62, 63, 64, 65, 66, 67, 68, 69, 4] rfl (by kernel_rfl) (by kernel_rfl) ?_ ?_ ?_
  · intro t9 ht9
    simp only [List.mem_cons, List.not_mem_nil, or_false] at ht9
    rcases ht9 with rfl | rfl | rfl | rfl | rfl | rfl | rfl
    · exact ⟨rfl, Below.refl _ _⟩
    · exact ⟨rfl, Below.refl _ _⟩
    · exact ⟨rfl, Below.refl _ _⟩
    · exact ⟨rfl, Below.refl _ _⟩
    · exact ⟨rfl, Below.refl _ _⟩
    · exact ⟨rfl, Below.refl _ _⟩
    · exact ⟨rfl, Below.refl _ _⟩
  · refine fcs ⟨atcopy 6 37 (.bool b) (.inl rfl) rfl (by first | exact .inl rfl | exact .inr ⟨_, _, _, rfl, rfl, by kernel_rfl, by decide, rfl⟩) (by kernel_rfl) rfl rfl, ?_⟩
    refine fcs ⟨atcopy 8 38 (.bool b) (.inl rfl) rfl (by first | exact .inl rfl | exact .inr ⟨_, _, _, rfl, rfl, by kernel_rfl, by decide, rfl⟩) (by kernel_rfl) rfl rfl, ?_⟩
    refine fcs ⟨at2 37 38 39 (.bool b) (.bool b) (.bool true) rfl (by first | exact .inl rfl | exact .inr ⟨_, _, _, rfl, rfl, by kernel_rfl, by decide, rfl⟩) (by kernel_rfl) (by kernel_rfl) rfl rfl rfl (fun a9 W9 hb9 h9 h8 => by simp [execOp, h9, h8] <;> go_simp), ?_⟩
    refine fcs ⟨atcopy 39 40 (.bool true) (.inl rfl) rfl (by first | exact .inl rfl | exact .inr ⟨_, _, _, rfl, rfl, by kernel_rfl, by decide, rfl⟩) (by kernel_rfl) rfl rfl, ?_⟩
    refine fcs ⟨at1 5 41 (.pointer (some ⟨ga, 0, none⟩)) (.agg #[.int .i64 u.kind, .int .i64 u.n, .string (bs u.s), .slice sa.A u.l.length sa.c, .slice sa.B u.f.length sa.d]) rfl (by first | exact .inl rfl | exact .inr ⟨_, _, _, rfl, rfl, by kernel_rfl, by decide, rfl⟩) (by kernel_rfl) rfl rfl (fun a9 W9 hb9 h9 => by have g0 := cell_next hb9 a0; have g1 := cell_next hb9 a1; have g2 := cell_next hb9 a2; have g3 := cell_next hb9 a3; have g4 := cell_next hb9 a4; simp [execOp, h9] <;> go_simp), ?_⟩
    refine fcs ⟨at1 7 42 (.pointer (some ⟨gb, 0, none⟩)) (.agg #[.int .i64 u.kind, .int .i64 u.n, .string (bs u.s), .slice sb.A u.l.length sb.c, .slice sb.B u.f.length sb.d]) rfl (by first | exact .inl rfl | exact .inr ⟨_, _, _, rfl, rfl, by kernel_rfl, by decide, rfl⟩) (by kernel_rfl) rfl rfl (fun a9 W9 hb9 h9 => by have g0 := cell_next hb9 b0; have g1 := cell_next hb9 b1; have g2 := cell_next hb9 b2; have g3 := cell_next hb9 b3; have g4 := cell_next hb9 b4; simp [execOp, h9] <;> go_simp), ?_⟩
    refine fcs ⟨atc2 20 41 42 43 (.agg #[.int .i64 u.kind, .int .i64 u.n, .string (bs u.s), .slice sa.A u.l.length sa.c, .slice sa.B u.f.length sa.d]) (.agg #[.int .i64 u.kind, .int .i64 u.n, .string (bs u.s), .slice sb.A u.l.length sb.c, .slice sb.B u.f.length sb.d]) (.bool true) _ rfl rfl (by first | exact .inl rfl | exact .inr ⟨_, _, _, rfl, rfl, by kernel_rfl, by decide, rfl⟩) (by kernel_rfl) (by kernel_rfl) rfl rfl (by kernel_rfl) rfl (fun W9 hb9 => cAB W9 hb9), ?_⟩
    refine fcs ⟨atpick 40 43 44 true (.bool true) _ _ rfl rfl rfl (by first | exact .inl rfl | exact .inr ⟨_, _, _, rfl, rfl, by kernel_rfl, by decide, rfl⟩) (by kernel_rfl) (by kernel_rfl) rfl rfl rfl, ?_⟩
    refine fcs ⟨atcopy 44 45 (.bool true) (.inl rfl) rfl (by first | exact .inl rfl | exact .inr ⟨_, _, _, rfl, rfl, by kernel_rfl, by decide, rfl⟩) (by kernel_rfl) rfl rfl, ?_⟩
    refine fcs ⟨atcopy 10 46 (.bool true) (.inl rfl) rfl (by first | exact .inl rfl | exact .inr ⟨_, _, _, rfl, rfl, by kernel_rfl, by decide, rfl⟩) (by kernel_rfl) rfl rfl, ?_⟩
    refine fcs ⟨atpick 45 46 47 true (.bool true) _ _ rfl rfl rfl (by first | exact .inl rfl | exact .inr ⟨_, _, _, rfl, rfl, by kernel_rfl, by decide, rfl⟩) (by kernel_rfl) (by kernel_rfl) rfl rfl rfl, ?_⟩
    refine fcs ⟨atcopy 47 48 (.bool true) (.inl rfl) rfl (by first | exact .inl rfl | exact .inr ⟨_, _, _, rfl, rfl, by kernel_rfl, by decide, rfl⟩) (by kernel_rfl) rfl rfl, ?_⟩
    refine fcs ⟨at1 9 49 (.pointer (some ⟨gc, 0, none⟩)) (.agg #[.int .i64 t.kind, .int .i64 t.n, .string (bs t.s), .slice sc.A t.l.length sc.c, .slice sc.B t.f.length sc.d]) rfl (by first | exact .inl rfl | exact .inr ⟨_, _, _, rfl, rfl, by kernel_rfl, by decide, rfl⟩) (by kernel_rfl) rfl rfl (fun a9 W9 hb9 h9 => by have g0 := cell_next hb9 c0; have g1 := cell_next hb9 c1; have g2 := cell_next hb9 c2; have g3 := cell_next hb9 c3; have g4 := cell_next hb9 c4; simp [execOp, h9] <;> go_simp), ?_⟩
    refine fcs ⟨at1 2 50 (.pointer (some ⟨w.heap.size, 0, none⟩)) (.agg #[.int .i64 t.kind, .int .i64 t.n, .string (bs t.s), .slice s0.A t.l.length s0.c, .slice s0.B t.f.length s0.d]) rfl (by first | exact .inl rfl | exact .inr ⟨_, _, _, rfl, rfl, by kernel_rfl, by decide, rfl⟩) (by kernel_rfl) rfl rfl (fun a9 W9 hb9 h9 => by have g0 := cell_next hb9 v0; have g1 := cell_next hb9 v1; have g2 := cell_next hb9 v2; have g3 := cell_next hb9 v3; have g4 := cell_next hb9 v4; simp [execOp, h9] <;> go_simp), ?_⟩
    refine fcs ⟨atc2 20 49 50 51 (.agg #[.int .i64 t.kind, .int .i64 t.n, .string (bs t.s), .slice sc.A t.l.length sc.c, .slice sc.B t.f.length sc.d]) (.agg #[.int .i64 t.kind, .int .i64 t.n, .string (bs t.s), .slice s0.A t.l.length s0.c, .slice s0.B t.f.length s0.d]) (.bool true) _ rfl rfl (by first | exact .inl rfl | exact .inr ⟨_, _, _, rfl, rfl, by kernel_rfl, by decide, rfl⟩) (by kernel_rfl) (by kernel_rfl) rfl rfl (by kernel_rfl) rfl (fun W9 hb9 => cCV W9 hb9), ?_⟩
    refine fcs ⟨atpick 48 51 52 true (.bool true) _ _ rfl rfl rfl (by first | exact .inl rfl | exact .inr ⟨_, _, _, rfl, rfl, by kernel_rfl, by decide, rfl⟩) (by kernel_rfl) (by kernel_rfl) rfl rfl rfl, ?_⟩
    refine fcs ⟨atcopy 52 53 (.bool true) (.inl rfl) rfl (by first | exact .inl rfl | exact .inr ⟨_, _, _, rfl, rfl, by kernel_rfl, by decide, rfl⟩) (by kernel_rfl) rfl rfl, ?_⟩
    refine fcs ⟨at1 2 54 (.pointer (some ⟨w.heap.size, 0, none⟩)) (.agg #[.int .i64 t.kind, .int .i64 t.n, .string (bs t.s), .slice s0.A t.l.length s0.c, .slice s0.B t.f.length s0.d]) rfl (by first | exact .inl rfl | exact .inr ⟨_, _, _, rfl, rfl, by kernel_rfl, by decide, rfl⟩) (by kernel_rfl) rfl rfl (fun a9 W9 hb9 h9 => by have g0 := cell_next hb9 v0; have g1 := cell_next hb9 v1; have g2 := cell_next hb9 v2; have g3 := cell_next hb9 v3; have g4 := cell_next hb9 v4; simp [execOp, h9] <;> go_simp), ?_⟩
    refine fcs ⟨atc1 25 54 55 (.agg #[.int .i64 t.kind, .int .i64 t.n, .string (bs t.s), .slice s0.A t.l.length s0.c, .slice s0.B t.f.length s0.d]) (.int .i64 S) _ rfl rfl (by first | exact .inl rfl | exact .inr ⟨_, _, _, rfl, rfl, by kernel_rfl, by decide, rfl⟩) (by kernel_rfl) rfl (by kernel_rfl) rfl (fun W9 hb9 => cS W9 hb9), ?_⟩
    refine fcs ⟨at1 2 56 (.pointer (some ⟨w.heap.size, 0, none⟩)) (.agg #[.int .i64 t.kind, .int .i64 t.n, .string (bs t.s), .slice s0.A t.l.length s0.c, .slice s0.B t.f.length s0.d]) rfl (by first | exact .inl rfl | exact .inr ⟨_, _, _, rfl, rfl, by kernel_rfl, by decide, rfl⟩) (by kernel_rfl) rfl rfl (fun a9 W9 hb9 h9 => by have g0 := cell_next hb9 v0; have g1 := cell_next hb9 v1; have g2 := cell_next hb9 v2; have g3 := cell_next hb9 v3; have g4 := cell_next hb9 v4; simp [execOp, h9] <;> go_simp), ?_⟩
    refine fcs ⟨atc1 26 56 57 (.agg #[.int .i64 t.kind, .int .i64 t.n, .string (bs t.s), .slice s0.A t.l.length s0.c, .slice s0.B t.f.length s0.d]) (.int .i64 S) _ rfl rfl (by first | exact .inl rfl | exact .inr ⟨_, _, _, rfl, rfl, by kernel_rfl, by decide, rfl⟩) (by kernel_rfl) rfl (by kernel_rfl) rfl (fun W9 hb9 => cT W9 hb9), ?_⟩
    refine fcs ⟨at2 55 57 58 (.int .i64 S) (.int .i64 S) (.bool true) rfl (by first | exact .inl rfl | exact .inr ⟨_, _, _, rfl, rfl, by kernel_rfl, by decide, rfl⟩) (by kernel_rfl) (by kernel_rfl) rfl rfl rfl (fun a9 W9 hb9 h9 h8 => by simp [execOp, h9, h8] <;> go_simp), ?_⟩
    refine fcs ⟨atpick 53 58 59 true (.bool true) _ _ rfl rfl rfl (by first | exact .inl rfl | exact .inr ⟨_, _, _, rfl, rfl, by kernel_rfl, by decide, rfl⟩) (by kernel_rfl) (by kernel_rfl) rfl rfl rfl, ?_⟩
    refine fcs ⟨atcopy 59 60 (.bool true) (.inl rfl) rfl (by first | exact .inl rfl | exact .inr ⟨_, _, _, rfl, rfl, by kernel_rfl, by decide, rfl⟩) (by kernel_rfl) rfl rfl, ?_⟩
    refine fcs ⟨at1 5 61 (.pointer (some ⟨ga, 0, none⟩)) (.agg #[.int .i64 u.kind, .int .i64 u.n, .string (bs u.s), .slice sa.A u.l.length sa.c, .slice sa.B u.f.length sa.d]) rfl (by first | exact .inl rfl | exact .inr ⟨_, _, _, rfl, rfl, by kernel_rfl, by decide, rfl⟩) (by kernel_rfl) rfl rfl (fun a9 W9 hb9 h9 => by have g0 := cell_next hb9 a0; have g1 := cell_next hb9 a1; have g2 := cell_next hb9 a2; have g3 := cell_next hb9 a3; have g4 := cell_next hb9 a4; simp [execOp, h9] <;> go_simp), ?_⟩
    refine fcs ⟨atc1 25 61 62 (.agg #[.int .i64 u.kind, .int .i64 u.n, .string (bs u.s), .slice sa.A u.l.length sa.c, .slice sa.B u.f.length sa.d]) (.int .i64 U) _ rfl rfl (by first | exact .inl rfl | exact .inr ⟨_, _, _, rfl, rfl, by kernel_rfl, by decide, rfl⟩) (by kernel_rfl) rfl (by kernel_rfl) rfl (fun W9 hb9 => cU W9 hb9), ?_⟩
    refine fcs ⟨at1 2 63 (.pointer (some ⟨w.heap.size, 0, none⟩)) (.agg #[.int .i64 t.kind, .int .i64 t.n, .string (bs t.s), .slice s0.A t.l.length s0.c, .slice s0.B t.f.length s0.d]) rfl (by first | exact .inl rfl | exact .inr ⟨_, _, _, rfl, rfl, by kernel_rfl, by decide, rfl⟩) (by kernel_rfl) rfl rfl (fun a9 W9 hb9 h9 => by have g0 := cell_next hb9 v0; have g1 := cell_next hb9 v1; have g2 := cell_next hb9 v2; have g3 := cell_next hb9 v3; have g4 := cell_next hb9 v4; simp [execOp, h9] <;> go_simp), ?_⟩
    refine fcs ⟨atc1 25 63 64 (.agg #[.int .i64 t.kind, .int .i64 t.n, .string (bs t.s), .slice s0.A t.l.length s0.c, .slice s0.B t.f.length s0.d]) (.int .i64 S) _ rfl rfl (by first | exact .inl rfl | exact .inr ⟨_, _, _, rfl, rfl, by kernel_rfl, by decide, rfl⟩) (by kernel_rfl) rfl (by kernel_rfl) rfl (fun W9 hb9 => cS W9 hb9), ?_⟩
    refine fcs ⟨at2 62 64 65 (.int .i64 U) (.int .i64 S) (.bool true) rfl (by first | exact .inl rfl | exact .inr ⟨_, _, _, rfl, rfl, by kernel_rfl, by decide, rfl⟩) (by kernel_rfl) (by kernel_rfl) rfl rfl rfl (fun a9 W9 hb9 h9 h8 => by simp [execOp, h9, h8] <;> go_simp), ?_⟩
    refine fcs ⟨atpick 60 65 66 true (.bool true) _ _ rfl rfl rfl (by first | exact .inl rfl | exact .inr ⟨_, _, _, rfl, rfl, by kernel_rfl, by decide, rfl⟩) (by kernel_rfl) (by kernel_rfl) rfl rfl rfl, ?_⟩
    refine fcs ⟨atcopy 66 67 (.bool true) (.inl rfl) rfl (by first | exact .inl rfl | exact .inr ⟨_, _, _, rfl, rfl, by kernel_rfl, by decide, rfl⟩) (by kernel_rfl) rfl rfl, ?_⟩
    refine fcs ⟨atc0 8 6 68 (.bool b) (.bool true) _ rfl rfl (by first | exact .inl rfl | exact .inr ⟨_, _, _, rfl, rfl, by kernel_rfl, by decide, rfl⟩) (by kernel_rfl) rfl (by kernel_rfl) rfl (fun W9 hb9 => awake_any W9), ?_⟩
    refine fcs ⟨atpick 67 68 69 true (.bool true) _ _ rfl rfl rfl (by first | exact .inl rfl | exact .inr ⟨_, _, _, rfl, rfl, by kernel_rfl, by decide, rfl⟩) (by kernel_rfl) (by kernel_rfl) rfl rfl rfl, ?_⟩
    refine fcs ⟨atcopy 69 4 (.bool true) (.inr rfl) rfl (by first | exact .inl rfl | exact .inr ⟨_, _, _, rfl, rfl, by kernel_rfl, by decide, rfl⟩) (by kernel_rfl) rfl rfl, ?_⟩
    exact fnl
  intro vv wv hvv hbv
  have hv4 : vv 4 = (.bool true) := (hvv 4 (by decide)).1
  simp only [lay, List.foldl_cons, List.foldl_nil, List.setIfInBounds_toArray, List.set_cons_succ, List.set_cons_zero, hv4]
  clear hvv
  go_wp2_with fail
  go_ret
  exact ⟨rfl, Below.next hab hbv⟩
theorem paths_row (t : Vl) (v : Value) (zs : List Int) (P : Option Addr) (pc : Nat) (w : World) (hok : vok t) (hsz : sz t ≤ 1048576) (hv : VlV w t v) (hzl : zs.length ≤ 9223372036854775807) (hp : Rw TyI 1 w zs P) :
    Calls Try.prog 6 #[v, .slice P zs.length pc] w (Ib (.bool true) w) := paths_any t v zs P pc w hok hsz hv hzl hp
end Go.Proofs.Ytlebppjldoodgaa

import Derived.Test.YtnfdoflmdlomhaaGreatDoorM20
import Derived.Test.YtnfdoflmdlomhaaGreatDoorM12
import Derived.Test.YtnfdoflmdlomhaaGreatDoorM04
import Derived.Lib.LaidU8
import Derived.Lib.LaidTab
import Derived.Stop.LaidErr
import Derived.MakeChecks
import Derived.Deep.Slices
import Derived.WideKeyArgs
import Derived.ChangeMaps5
/-
  The law of Same. Go's own bounds of slices' lengths, and what the library's variables hold, are its conditions.
-/
namespace Go.Proofs.YtnfdoflmdlomhaaGreatDoor
open Go.RowKit Go.Shelf
theorem eqT_comm (t u : Ty) : eqT u t = eqT t u := by rw [Bool.eq_iff_iff, eqT_iff, eqT_iff]; exact ⟨Eq.symm, Eq.symm⟩
theorem eqT_refl (t : Ty) : eqT t t = true := eqT_iff.2 rfl
set_option maxRecDepth 100000 in
set_option maxHeartbeats 8000000 in
theorem schemaSame_any (t u : Ty) (v v' : Value) (w : World) (hl : lok t) (hl' : lok u) (hv : TyV w t v) (hv' : TyV w u v') (hE : Env w) :
    Calls Tryz.prog 7 #[v, v'] w (Ib (.bool true) w) := by
  obtain ⟨A, c, rfl, hR⟩ := hv
  obtain ⟨A', c', rfl, hR'⟩ := hv'
  have hab := ab2 w (Obj.cells #[.int .i64 t.kind, .int .i64 t.size, .string (bs t.name), .slice A t.elem.length c] 45) (Obj.cells #[.int .i64 u.kind, .int .i64 u.size, .string (bs u.name), .slice A' u.elem.length c'] 45)
  have z1 : (w.alloc (Obj.cells #[.int .i64 t.kind, .int .i64 t.size, .string (bs t.name), .slice A t.elem.length c] 45)).heap.size = w.heap.size + 1 := by simp
  have hB1 := (Bx.new4 w 45 (.int .i64 t.kind) (.int .i64 t.size) (.string (bs t.name)) (.slice A t.elem.length c)).next (ab1 _ (Obj.cells #[.int .i64 u.kind, .int .i64 u.size, .string (bs u.name), .slice A' u.elem.length c'] 45))
  have hB2 := Bx.new4 (w.alloc (Obj.cells #[.int .i64 t.kind, .int .i64 t.size, .string (bs t.name), .slice A t.elem.length c] 45)) 45 (.int .i64 u.kind) (.int .i64 u.size) (.string (bs u.name)) (.slice A' u.elem.length c')
  rw [z1] at hB2
  have hE1 := hE.next hab
  have hV : ∀ W', Below ((w.alloc (Obj.cells #[.int .i64 t.kind, .int .i64 t.size, .string (bs t.name), .slice A t.elem.length c] 45)).alloc (Obj.cells #[.int .i64 u.kind, .int .i64 u.size, .string (bs u.name), .slice A' u.elem.length c'] 45)).heap.size ((w.alloc (Obj.cells #[.int .i64 t.kind, .int .i64 t.size, .string (bs t.name), .slice A t.elem.length c] 45)).alloc (Obj.cells #[.int .i64 u.kind, .int .i64 u.size, .string (bs u.name), .slice A' u.elem.length c'] 45)) W' → TyV W' t (.agg #[.int .i64 t.kind, .int .i64 t.size, .string (bs t.name), .slice A t.elem.length c]) := fun W' h => ⟨A, c, rfl, hR.next fun x p => TyA.next (Below.next hab h) x p⟩
  have hV' : ∀ W', Below ((w.alloc (Obj.cells #[.int .i64 t.kind, .int .i64 t.size, .string (bs t.name), .slice A t.elem.length c] 45)).alloc (Obj.cells #[.int .i64 u.kind, .int .i64 u.size, .string (bs u.name), .slice A' u.elem.length c'] 45)).heap.size ((w.alloc (Obj.cells #[.int .i64 t.kind, .int .i64 t.size, .string (bs t.name), .slice A t.elem.length c] 45)).alloc (Obj.cells #[.int .i64 u.kind, .int .i64 u.size, .string (bs u.name), .slice A' u.elem.length c'] 45)) W' → TyV W' u (.agg #[.int .i64 u.kind, .int .i64 u.size, .string (bs u.name), .slice A' u.elem.length c']) := fun W' h => ⟨A', c', rfl, hR'.next fun x p => TyA.next (Below.next hab h) x p⟩
  have cF := fewType_any (SizeOf.sizeOf t + 1) t _ _ (Nat.lt_succ_self _) hl (hV _ (Below.refl _ _))
  clear z1 hR hR'
  obtain ⟨f1, hf1⟩ : ∃ f, fewT t = f := ⟨_, rfl⟩
  obtain ⟨f2, hf2⟩ : ∃ f, fewT u = f := ⟨_, rfl⟩
  rw [hf1] at cF
  clear hf1
  go_enter Tryz.func7, Tryz.ntmps7
  go_wp2_with fail
  refine cF.mono ?_
  rintro e w2 ⟨rfl, hb2⟩
  have hE2 := hE1.next hb2
  have hbw := Below.next hab hb2
  cases f1
  · go_wp2_with fail
    refine (awake_any _ hE2).mono ?_
    rintro e w3 ⟨rfl, hb3⟩
    go_wp2_with fail
    go_ret
    exact ⟨rfl, Below.next hbw hb3⟩
  · have cG := fewType_any (SizeOf.sizeOf u + 1) u _ w2 (Nat.lt_succ_self _) hl' (hV' _ hb2)
    rw [hf2] at cG
    replace hB1 := hB1.next hb2
    replace hB2 := hB2.next hb2
    have a0 := hB2.c 0 rfl
    have a1 := hB2.c 1 rfl
    have a2 := hB2.c 2 rfl
    have a3 := hB2.c 3 rfl
    have a4 := hB2.lt
    clear hf2 cF
    go_wp2_with fail
    refine cG.mono ?_
    rintro e w3 ⟨rfl, hb3⟩
    have hb23 := Below.next hb2 hb3
    replace hE2 := hE2.next hb3
    replace hbw := Below.next hbw hb3
    replace hB1 := hB1.next hb3
    replace hB2 := hB2.next hb3
    clear cG a0 a1 a2 a3 a4
    cases f2
    · go_wp2_with fail
      refine (awake_any _ hE2).mono ?_
      rintro e w4 ⟨rfl, hb4⟩
      go_wp2_with fail
      go_ret
      exact ⟨rfl, Below.next hbw hb4⟩
    · go_upto_region 3 with (fail)
      have cD := fun W' (h : Below w3.heap.size w3 W') => devSame_any (SizeOf.sizeOf t + 1) t u _ _ W' (Nat.lt_succ_self _) hl hl' (hV W' (Below.next hb23 h)) (hV' W' (Below.next hb23 h))
      have cR := fun W' (h : Below w3.heap.size w3 W') => refSame_any (SizeOf.sizeOf t + 1) t u _ _ W' (Nat.lt_succ_self _) hl hl' (hV W' (Below.next hb23 h)) (hV' W' (Below.next hb23 h))
      have cD2 := fun W' (h : Below w3.heap.size w3 W') => devSame_any (SizeOf.sizeOf u + 1) u t _ _ W' (Nat.lt_succ_self _) hl' hl (hV' W' (Below.next hb23 h)) (hV W' (Below.next hb23 h))
      have cD3 := fun W' (h : Below w3.heap.size w3 W') => devSame_any (SizeOf.sizeOf t + 1) t t _ _ W' (Nat.lt_succ_self _) hl hl (hV W' (Below.next hb23 h)) (hV W' (Below.next hb23 h))
      rw [eqT_comm] at cD2
      rw [eqT_refl] at cD3
      obtain ⟨r, hr⟩ : ∃ r, eqT t u = r := ⟨_, rfl⟩
      rw [hr] at cD cR cD2
      clear hr hV hV'
      obtain ⟨W1, hW1⟩ : ∃ W1, w3 = W1 := ⟨_, rfl⟩
      subst hW1
      refine wp_region_on (by kernel_rfl) (FF [(2, Fact.at_ w3 (.pointer (some ⟨w.heap.size, 0, none⟩))), (3, Fact.at_ w3 (.pointer (some ⟨w.heap.size + 1, 0, none⟩))), (14, Fact.at_ w3 (.agg #[.int .i64 t.kind, .int .i64 t.size, .string (bs t.name), .slice A t.elem.length c])), (15, Fact.at_ w3 (.agg #[.int .i64 u.kind, .int .i64 u.size, .string (bs u.name), .slice A' u.elem.length c'])), (16, Fact.at_ w3 (.bool r)), (17, Fact.at_ w3 (.agg #[.int .i64 t.kind, .int .i64 t.size, .string (bs t.name), .slice A t.elem.length c])), (18, Fact.at_ w3 (.agg #[.int .i64 u.kind, .int .i64 u.size, .string (bs u.name), .slice A' u.elem.length c'])), (19, Fact.at_ w3 (.bool r)), (20, Fact.at_ w3 (.bool true)), (21, Fact.at_ w3 (.bool true)), (22, Fact.at_ w3 (.agg #[.int .i64 u.kind, .int .i64 u.size, .string (bs u.name), .slice A' u.elem.length c'])), (23, Fact.at_ w3 (.agg #[.int .i64 t.kind, .int .i64 t.size, .string (bs t.name), .slice A t.elem.length c])), (24, Fact.at_ w3 (.bool r)), (25, Fact.at_ w3 (.agg #[.int .i64 t.kind, .int .i64 t.size, .string (bs t.name), .slice A t.elem.length c])), (26, Fact.at_ w3 (.agg #[.int .i64 u.kind, .int .i64 u.size, .string (bs u.name), .slice A' u.elem.length c'])), (27, Fact.at_ w3 (.bool r)), (28, Fact.at_ w3 (.bool true)), (29, Fact.at_ w3 (.bool true)), (30, Fact.at_ w3 (.bool true)), (31, Fact.at_ w3 (.agg #[.int .i64 t.kind, .int .i64 t.size, .string (bs t.name), .slice A t.elem.length c])), (32, Fact.at_ w3 (.agg #[.int .i64 t.kind, .int .i64 t.size, .string (bs t.name), .slice A t.elem.length c])), (33, Fact.at_ w3 (.bool true)), (34, Fact.at_ w3 (.bool true)), (35, Fact.at_ w3 (.bool true)), (36, Fact.at_ w3 (.bool true)), (37, Fact.at_ w3 (.bool true)), (4, Fact.at_ w3 (.bool true))]) [2, 3] 38 [14, 15, 16, 17, 18, 19, 20, 21, 22, 23, 24, 25, 26, 27, 28, 29, 30, 31, 32, 33, 34, 35, 36, 37, 4] rfl (by kernel_rfl) (by kernel_rfl) ?_ ?_ ?_
      · intro t9 ht9
        simp only [List.mem_cons, List.not_mem_nil, or_false] at ht9
        rcases ht9 with rfl | rfl
        · exact ⟨rfl, Below.refl _ _⟩
        · exact ⟨rfl, Below.refl _ _⟩
      · refine fcs ⟨at1 2 14 (.pointer (some ⟨w.heap.size, 0, none⟩)) (.agg #[.int .i64 t.kind, .int .i64 t.size, .string (bs t.name), .slice A t.elem.length c]) rfl (by first | exact .inl rfl | exact .inr ⟨_, _, _, rfl, rfl, by kernel_rfl, by decide, rfl⟩) (by kernel_rfl) rfl rfl (fun a9 W' hb9 h9 => by have g0 := cell_next hb9 (hB1.c 0 rfl); have g1 := cell_next hb9 (hB1.c 1 rfl); have g2 := cell_next hb9 (hB1.c 2 rfl); have g3 := cell_next hb9 (hB1.c 3 rfl); simp [execOp, h9] <;> go_simp), ?_⟩
        refine fcs ⟨at1 3 15 (.pointer (some ⟨w.heap.size + 1, 0, none⟩)) (.agg #[.int .i64 u.kind, .int .i64 u.size, .string (bs u.name), .slice A' u.elem.length c']) rfl (by first | exact .inl rfl | exact .inr ⟨_, _, _, rfl, rfl, by kernel_rfl, by decide, rfl⟩) (by kernel_rfl) rfl rfl (fun a9 W' hb9 h9 => by have g0 := cell_next hb9 (hB2.c 0 rfl); have g1 := cell_next hb9 (hB2.c 1 rfl); have g2 := cell_next hb9 (hB2.c 2 rfl); have g3 := cell_next hb9 (hB2.c 3 rfl); simp [execOp, h9] <;> go_simp), ?_⟩
        refine fcs ⟨atc2 30 14 15 16 (.agg #[.int .i64 t.kind, .int .i64 t.size, .string (bs t.name), .slice A t.elem.length c]) (.agg #[.int .i64 u.kind, .int .i64 u.size, .string (bs u.name), .slice A' u.elem.length c']) (.bool r) _ rfl rfl (by first | exact .inl rfl | exact .inr ⟨_, _, _, rfl, rfl, by kernel_rfl, by decide, rfl⟩) (by kernel_rfl) (by kernel_rfl) rfl rfl (by kernel_rfl) rfl (fun W' hb9 => cD W' hb9), ?_⟩
        refine fcs ⟨at1 2 17 (.pointer (some ⟨w.heap.size, 0, none⟩)) (.agg #[.int .i64 t.kind, .int .i64 t.size, .string (bs t.name), .slice A t.elem.length c]) rfl (by first | exact .inl rfl | exact .inr ⟨_, _, _, rfl, rfl, by kernel_rfl, by decide, rfl⟩) (by kernel_rfl) rfl rfl (fun a9 W' hb9 h9 => by have g0 := cell_next hb9 (hB1.c 0 rfl); have g1 := cell_next hb9 (hB1.c 1 rfl); have g2 := cell_next hb9 (hB1.c 2 rfl); have g3 := cell_next hb9 (hB1.c 3 rfl); simp [execOp, h9] <;> go_simp), ?_⟩
        refine fcs ⟨at1 3 18 (.pointer (some ⟨w.heap.size + 1, 0, none⟩)) (.agg #[.int .i64 u.kind, .int .i64 u.size, .string (bs u.name), .slice A' u.elem.length c']) rfl (by first | exact .inl rfl | exact .inr ⟨_, _, _, rfl, rfl, by kernel_rfl, by decide, rfl⟩) (by kernel_rfl) rfl rfl (fun a9 W' hb9 h9 => by have g0 := cell_next hb9 (hB2.c 0 rfl); have g1 := cell_next hb9 (hB2.c 1 rfl); have g2 := cell_next hb9 (hB2.c 2 rfl); have g3 := cell_next hb9 (hB2.c 3 rfl); simp [execOp, h9] <;> go_simp), ?_⟩
        refine fcs ⟨atc2 31 17 18 19 (.agg #[.int .i64 t.kind, .int .i64 t.size, .string (bs t.name), .slice A t.elem.length c]) (.agg #[.int .i64 u.kind, .int .i64 u.size, .string (bs u.name), .slice A' u.elem.length c']) (.bool r) _ rfl rfl (by first | exact .inl rfl | exact .inr ⟨_, _, _, rfl, rfl, by kernel_rfl, by decide, rfl⟩) (by kernel_rfl) (by kernel_rfl) rfl rfl (by kernel_rfl) rfl (fun W' hb9 => cR W' hb9), ?_⟩
        refine fcs ⟨at2 16 19 20 (.bool r) (.bool r) (.bool true) rfl (by first | exact .inl rfl | exact .inr ⟨_, _, _, rfl, rfl, by kernel_rfl, by decide, rfl⟩) (by kernel_rfl) (by kernel_rfl) rfl rfl rfl (fun a9 W' hb9 h9 h8 => by simp [execOp, h9, h8] <;> go_simp), ?_⟩
        refine fcs ⟨atcopy 20 21 (.bool true) (.inl rfl) rfl (by first | exact .inl rfl | exact .inr ⟨_, _, _, rfl, rfl, by kernel_rfl, by decide, rfl⟩) (by kernel_rfl) rfl rfl, ?_⟩
        refine fcs ⟨at1 3 22 (.pointer (some ⟨w.heap.size + 1, 0, none⟩)) (.agg #[.int .i64 u.kind, .int .i64 u.size, .string (bs u.name), .slice A' u.elem.length c']) rfl (by first | exact .inl rfl | exact .inr ⟨_, _, _, rfl, rfl, by kernel_rfl, by decide, rfl⟩) (by kernel_rfl) rfl rfl (fun a9 W' hb9 h9 => by have g0 := cell_next hb9 (hB2.c 0 rfl); have g1 := cell_next hb9 (hB2.c 1 rfl); have g2 := cell_next hb9 (hB2.c 2 rfl); have g3 := cell_next hb9 (hB2.c 3 rfl); simp [execOp, h9] <;> go_simp), ?_⟩
        refine fcs ⟨at1 2 23 (.pointer (some ⟨w.heap.size, 0, none⟩)) (.agg #[.int .i64 t.kind, .int .i64 t.size, .string (bs t.name), .slice A t.elem.length c]) rfl (by first | exact .inl rfl | exact .inr ⟨_, _, _, rfl, rfl, by kernel_rfl, by decide, rfl⟩) (by kernel_rfl) rfl rfl (fun a9 W' hb9 h9 => by have g0 := cell_next hb9 (hB1.c 0 rfl); have g1 := cell_next hb9 (hB1.c 1 rfl); have g2 := cell_next hb9 (hB1.c 2 rfl); have g3 := cell_next hb9 (hB1.c 3 rfl); simp [execOp, h9] <;> go_simp), ?_⟩
        refine fcs ⟨atc2 30 22 23 24 (.agg #[.int .i64 u.kind, .int .i64 u.size, .string (bs u.name), .slice A' u.elem.length c']) (.agg #[.int .i64 t.kind, .int .i64 t.size, .string (bs t.name), .slice A t.elem.length c]) (.bool r) _ rfl rfl (by first | exact .inl rfl | exact .inr ⟨_, _, _, rfl, rfl, by kernel_rfl, by decide, rfl⟩) (by kernel_rfl) (by kernel_rfl) rfl rfl (by kernel_rfl) rfl (fun W' hb9 => cD2 W' hb9), ?_⟩
        refine fcs ⟨at1 2 25 (.pointer (some ⟨w.heap.size, 0, none⟩)) (.agg #[.int .i64 t.kind, .int .i64 t.size, .string (bs t.name), .slice A t.elem.length c]) rfl (by first | exact .inl rfl | exact .inr ⟨_, _, _, rfl, rfl, by kernel_rfl, by decide, rfl⟩) (by kernel_rfl) rfl rfl (fun a9 W' hb9 h9 => by have g0 := cell_next hb9 (hB1.c 0 rfl); have g1 := cell_next hb9 (hB1.c 1 rfl); have g2 := cell_next hb9 (hB1.c 2 rfl); have g3 := cell_next hb9 (hB1.c 3 rfl); simp [execOp, h9] <;> go_simp), ?_⟩
        refine fcs ⟨at1 3 26 (.pointer (some ⟨w.heap.size + 1, 0, none⟩)) (.agg #[.int .i64 u.kind, .int .i64 u.size, .string (bs u.name), .slice A' u.elem.length c']) rfl (by first | exact .inl rfl | exact .inr ⟨_, _, _, rfl, rfl, by kernel_rfl, by decide, rfl⟩) (by kernel_rfl) rfl rfl (fun a9 W' hb9 h9 => by have g0 := cell_next hb9 (hB2.c 0 rfl); have g1 := cell_next hb9 (hB2.c 1 rfl); have g2 := cell_next hb9 (hB2.c 2 rfl); have g3 := cell_next hb9 (hB2.c 3 rfl); simp [execOp, h9] <;> go_simp), ?_⟩
        refine fcs ⟨atc2 30 25 26 27 (.agg #[.int .i64 t.kind, .int .i64 t.size, .string (bs t.name), .slice A t.elem.length c]) (.agg #[.int .i64 u.kind, .int .i64 u.size, .string (bs u.name), .slice A' u.elem.length c']) (.bool r) _ rfl rfl (by first | exact .inl rfl | exact .inr ⟨_, _, _, rfl, rfl, by kernel_rfl, by decide, rfl⟩) (by kernel_rfl) (by kernel_rfl) rfl rfl (by kernel_rfl) rfl (fun W' hb9 => cD W' hb9), ?_⟩
        refine fcs ⟨at2 24 27 28 (.bool r) (.bool r) (.bool true) rfl (by first | exact .inl rfl | exact .inr ⟨_, _, _, rfl, rfl, by kernel_rfl, by decide, rfl⟩) (by kernel_rfl) (by kernel_rfl) rfl rfl rfl (fun a9 W' hb9 h9 h8 => by simp [execOp, h9, h8] <;> go_simp), ?_⟩
        refine fcs ⟨atpick 21 28 29 true (.bool true) _ _ rfl rfl rfl (by first | exact .inl rfl | exact .inr ⟨_, _, _, rfl, rfl, by kernel_rfl, by decide, rfl⟩) (by kernel_rfl) (by kernel_rfl) rfl rfl rfl, ?_⟩
        refine fcs ⟨atcopy 29 30 (.bool true) (.inl rfl) rfl (by first | exact .inl rfl | exact .inr ⟨_, _, _, rfl, rfl, by kernel_rfl, by decide, rfl⟩) (by kernel_rfl) rfl rfl, ?_⟩
        refine fcs ⟨at1 2 31 (.pointer (some ⟨w.heap.size, 0, none⟩)) (.agg #[.int .i64 t.kind, .int .i64 t.size, .string (bs t.name), .slice A t.elem.length c]) rfl (by first | exact .inl rfl | exact .inr ⟨_, _, _, rfl, rfl, by kernel_rfl, by decide, rfl⟩) (by kernel_rfl) rfl rfl (fun a9 W' hb9 h9 => by have g0 := cell_next hb9 (hB1.c 0 rfl); have g1 := cell_next hb9 (hB1.c 1 rfl); have g2 := cell_next hb9 (hB1.c 2 rfl); have g3 := cell_next hb9 (hB1.c 3 rfl); simp [execOp, h9] <;> go_simp), ?_⟩
        refine fcs ⟨at1 2 32 (.pointer (some ⟨w.heap.size, 0, none⟩)) (.agg #[.int .i64 t.kind, .int .i64 t.size, .string (bs t.name), .slice A t.elem.length c]) rfl (by first | exact .inl rfl | exact .inr ⟨_, _, _, rfl, rfl, by kernel_rfl, by decide, rfl⟩) (by kernel_rfl) rfl rfl (fun a9 W' hb9 h9 => by have g0 := cell_next hb9 (hB1.c 0 rfl); have g1 := cell_next hb9 (hB1.c 1 rfl); have g2 := cell_next hb9 (hB1.c 2 rfl); have g3 := cell_next hb9 (hB1.c 3 rfl); simp [execOp, h9] <;> go_simp), ?_⟩
        refine fcs ⟨atc2 30 31 32 33 (.agg #[.int .i64 t.kind, .int .i64 t.size, .string (bs t.name), .slice A t.elem.length c]) (.agg #[.int .i64 t.kind, .int .i64 t.size, .string (bs t.name), .slice A t.elem.length c]) (.bool true) _ rfl rfl (by first | exact .inl rfl | exact .inr ⟨_, _, _, rfl, rfl, by kernel_rfl, by decide, rfl⟩) (by kernel_rfl) (by kernel_rfl) rfl rfl (by kernel_rfl) rfl (fun W' hb9 => cD3 W' hb9), ?_⟩
        refine fcs ⟨atpick 30 33 34 true (.bool true) _ _ rfl rfl rfl (by first | exact .inl rfl | exact .inr ⟨_, _, _, rfl, rfl, by kernel_rfl, by decide, rfl⟩) (by kernel_rfl) (by kernel_rfl) rfl rfl rfl, ?_⟩
        refine fcs ⟨atcopy 34 35 (.bool true) (.inl rfl) rfl (by first | exact .inl rfl | exact .inr ⟨_, _, _, rfl, rfl, by kernel_rfl, by decide, rfl⟩) (by kernel_rfl) rfl rfl, ?_⟩
        refine fcs ⟨atc0 11 2 36 (.pointer (some ⟨w.heap.size, 0, none⟩)) (.bool true) _ rfl rfl (by first | exact .inl rfl | exact .inr ⟨_, _, _, rfl, rfl, by kernel_rfl, by decide, rfl⟩) (by kernel_rfl) rfl (by kernel_rfl) rfl (fun W' hb9 => awake_any W' (hE2.next hb9)), ?_⟩
        refine fcs ⟨atpick 35 36 37 true (.bool true) _ _ rfl rfl rfl (by first | exact .inl rfl | exact .inr ⟨_, _, _, rfl, rfl, by kernel_rfl, by decide, rfl⟩) (by kernel_rfl) (by kernel_rfl) rfl rfl rfl, ?_⟩
        refine fcs ⟨atcopy 37 4 (.bool true) (.inr rfl) rfl (by first | exact .inl rfl | exact .inr ⟨_, _, _, rfl, rfl, by kernel_rfl, by decide, rfl⟩) (by kernel_rfl) rfl rfl, ?_⟩
        exact fnl
      intro vv wv hvv hbv
      have hv4 : vv 4 = .bool true := (hvv 4 (by decide)).1
      simp only [lay, List.foldl_cons, List.foldl_nil, List.setIfInBounds_toArray, List.set_cons_succ, List.set_cons_zero, hv4]
      have hb5 := Below.next hbw hbv
      clear hvv cD cR cD2 cD3
      go_wp2_with fail
      go_ret
      exact ⟨rfl, hb5⟩
end Go.Proofs.YtnfdoflmdlomhaaGreatDoor
/-
  What rows' proofs need where arguments are types: what a type that came in is, and that arguments read behind the call as they did; the library's variables out of the rows' own condition. No conditions beyond the rows' own.
-/
namespace Go.Proofs.YtnfdoflmdlomhaaGreatDoor
open Go.ChangeShapes Go.WideShapes Go.ChangeAt Go.RowKit Go.Lib
theorem rowErr (u : TypeId) (h : Tryz.prog.typeName? 3 u = some "*errors.errorString") : u = 205 := by
  have star : "*" ++ "errors.errorString" = "*errors.errorString" := by decide
  exact typeName_ptr_named (nm := "errors.errorString") (by rw [star]; kernel_rfl) (by kernel_rfl) (by decide) u (by rw [star]; exact h)
/-- The rows' list of variables. -/
def laidRows : List (String × DataW Unit) := [("math/bits.deBruijn32tab", Rows.laid_math_bits_deBruijn32tab), ("math/bits.deBruijn64tab", Rows.laid_math_bits_deBruijn64tab), ("internal/strconv.uint64pow10", Rows.laid_internal_strconv_uint64pow10), ("unicode/utf8.acceptRanges", Rows.laid_unicode_utf8_acceptRanges), ("strconv.ErrRange", Rows.laid_strconv_ErrRange), ("strconv.ErrSyntax", Rows.laid_strconv_ErrSyntax), ("unicode/utf8.first", Rows.laid_unicode_utf8_first)]
theorem env_laid {w : World} (hl : laidMetH Tryz.prog laidRows w) : Env w := by
  rw [MakeChecks.laidMetH_plain _ _ _ (by kernel_rfl)] at hl
  have ht := tabIs_of_head (zs := pow10Tab) (g := 2) (t := 187) (e := 59) (n := 20) (by kernel_rfl) (by kernel_rfl) Tryz.underlying187 Tryz.underlying59 (by kernel_rfl) (by kernel_rfl) hl.tail.tail
  obtain ⟨a, s, hv, -, -, -⟩ := laid_sentinel hl.tail.tail.tail.tail (g := 4) (ti := 150) (tp := 205) (te := 207) (ts := 9) (by kernel_rfl) (by kernel_rfl) Tryz.underlying150 rowErr Tryz.underlying205 Tryz.underlying207 rfl rfl Tryz.underlying9 (by kernel_rfl) (by kernel_rfl)
  exact ⟨⟨_, _, hv⟩, ht⟩
theorem trodAll_stays {H : Type} {enc : TypeId × Value → H} {P : Program} (hl : laidOutB P = true) {W W' : World} (hb : Below W.heap.size W W') :
    ∀ {ts : List TypeId} {vs : List Value} {ds : List (DataW H)} {ps : List MemPlace}, (ts.all fun t => P.readableRec t && decide (t < P.types.size)) = true → DataW.TrodAll enc P W 0 (fun _ => true) true ts vs ds ps → (∀ x ∈ ps, x.block < W.heap.size) →
      DataW.TrodAll enc P W' 0 (fun b => decide (b < W.heap.size)) true ts vs ds ps
  | [], [], [], _, _, h, _ => h
  | t :: ts, v :: vs, d :: ds, ps, hr, ⟨p, q, h, hs, e⟩, hlt => by
    simp only [List.all_cons, Bool.and_eq_true, decide_eq_true_eq] at hr
    have hp : ∀ x ∈ p, x.block < W.heap.size := fun x hx => hlt x (by rw [e]; simp [hx])
    have hq : ∀ x ∈ q, x.block < W.heap.size := fun x hx => hlt x (by rw [e]; simp [hx])
    exact ⟨p, q, Go.WideElems.Trod_stays hl hr.1.1 hr.1.2 h (fun x hx => hb.same (hp x hx)) (fun x hx => by simpa using hp x hx), trodAll_stays hl hb hr.2 hs hq, e⟩
set_option maxRecDepth 100000 in
theorem post_stays {H : Type} {enc : TypeId × Value → H} {f : Func} {s : ChangeSpec} {W W' : World} {args : Array Value} {ds : List (DataW H)} {before : List MemPlace} (hs : s.vars = []) (hrt : f.resultTypes = #[4])
    (hW : DataW.Whole enc Tryz.prog f.params.toList s.vars false W args.toList ds [] before) (hres : (s.fn H (ds ++ [])).results = [.lit (.bool true)]) (hvs : (s.fn H (ds ++ [])).vars = []) (hds : (s.fn H (ds ++ [])).args = ds)
    (hr : (f.params.toList.all fun t => Tryz.prog.readableRec t && decide (t < Tryz.prog.types.size)) = true) (hb : Below W.heap.size W W') :
    s.post enc Tryz.prog f false true false false W args (.bool true) W' := by
  have hlt : ∀ p ∈ before, p.block < W.heap.size := fun p hp => hW.lt p hp
  have hW2 := hW
  obtain ⟨p, q, hA, hV, e, _, _⟩ := hW2
  have hA2 : DataW.TrodAll enc Tryz.prog W 0 (fun _ => true) true f.params.toList args.toList ds p := hA
  refine post_true (pa := p) hs hrt hW hres hvs ?_ hb
  rw [hds]
  exact trodAll_stays (by kernel_rfl) hb hr hA2 fun x hx => hlt x (by rw [e]; simp [hx])
section
variable {H : Type} {enc : TypeId × Value → H}
theorem int_cell {W : World} {b : Nat} {sp : Nat → Bool} {hd : Bool} {k : Nat} {t : TypeId} {K : IntKind} {v : Value} {y : DataW H × List MemPlace} (ht : Tryz.prog.underlying t = some (.int K)) (h : DataW.trod enc Tryz.prog W b sp hd k t [v] = some y) : ∃ n, v = .int K n ∧ (Lit.int K n).wf = true := by
  obtain ⟨n, hc, _, hw⟩ := DataW.trod_int ht h
  injection hc with hc _
  exact ⟨n, hc, hw⟩
theorem str_cell {W : World} {b : Nat} {sp : Nat → Bool} {hd : Bool} {k : Nat} {t : TypeId} {v : Value} {y : DataW H × List MemPlace} (ht : Tryz.prog.underlying t = some .string) (h : DataW.trod enc Tryz.prog W b sp hd k t [v] = some y) : ∃ s, v = .string s ∧ s.size ≤ maxLen := by
  obtain ⟨s, hc, _, hs⟩ := DataW.trod_string ht h
  injection hc with hc _
  exact ⟨s, hc, hs⟩
theorem loks_of : ∀ {e : List Ty}, (∀ t ∈ e, lok t) → lok.loks e
  | [], _ => by rw [lok.loks]; trivial
  | t :: ts, h => by
    rw [lok.loks]
    exact ⟨h t (List.mem_cons_self ..), loks_of fun u hu => h u (List.mem_cons_of_mem _ hu)⟩
/-- The cells of a type. -/
def TyC (W : World) (t : Ty) (cs : List Value) : Prop := ∃ A c, cs = [.int .i64 t.kind, .int .i64 t.size, .string (bs t.name), .slice A t.elem.length c] ∧ lok t ∧ Rw TyA 4 W t.elem A
theorem TyC.at_ {W : World} {t : Ty} {cs : List Value} {p : Addr} (h : TyC W t cs) (hat : ∀ j, j < 4 → W.cell? (p.add j) = cs[j]?) : TyA W t p := by
  obtain ⟨A, c, rfl, -, hR⟩ := h
  have h0 := hat 0 (by decide)
  have h1 := hat 1 (by decide)
  have h2 := hat 2 (by decide)
  have h3 := hat 3 (by decide)
  exact TyA.of h0 h1 h2 h3 hR
set_option maxRecDepth 100000 in
theorem open_ty {W : World} (N : Nat) : ∀ (k : Nat) (cs : List Value) (y : DataW H × List MemPlace), k < N → DataW.trod enc Tryz.prog W 0 (fun _ => true) true k 45 cs = some y → ∃ t, TyC W t cs := by
  induction N with
  | zero => intro k cs y h; omega
  | succ N ih =>
    intro k cs y hk h
    obtain ⟨xs, n, rfl, -, hcl, hxl, hg⟩ := DataW.trod_struct Tryz.underlying45 h
    have ez : Tryz.prog.cellsOf 45 = 4 := by kernel_rfl
    rw [ez] at hcl
    match cs, hcl with
    | [c0, c1, c2, c3], _ =>
      have e3 : Tryz.prog.cellsOf 3 = 1 := by kernel_rfl
      have e9 : Tryz.prog.cellsOf 9 = 1 := by kernel_rfl
      have e43 : Tryz.prog.cellsOf 43 = 1 := by kernel_rfl
      have h0 : DataW.trod enc Tryz.prog W 0 (fun _ => true) true n 3 (([c0, c1, c2, c3].drop 0).take (Tryz.prog.cellsOf 3)) = xs[0]? := hg 0 _ rfl
      have h1 : DataW.trod enc Tryz.prog W 0 (fun _ => true) true n 3 (([c0, c1, c2, c3].drop 1).take (Tryz.prog.cellsOf 3)) = xs[1]? := hg 1 _ rfl
      have h2 : DataW.trod enc Tryz.prog W 0 (fun _ => true) true n 9 (([c0, c1, c2, c3].drop 2).take (Tryz.prog.cellsOf 9)) = xs[2]? := hg 2 _ rfl
      have h3 : DataW.trod enc Tryz.prog W 0 (fun _ => true) true n 43 (([c0, c1, c2, c3].drop 3).take (Tryz.prog.cellsOf 43)) = xs[3]? := hg 3 _ rfl
      rw [e3] at h0 h1
      rw [e9] at h2
      rw [e43] at h3
      have h0 : DataW.trod enc Tryz.prog W 0 (fun _ => true) true n 3 [c0] = xs[0]? := h0
      have h1 : DataW.trod enc Tryz.prog W 0 (fun _ => true) true n 3 [c1] = xs[1]? := h1
      have h2 : DataW.trod enc Tryz.prog W 0 (fun _ => true) true n 9 [c2] = xs[2]? := h2
      have h3 : DataW.trod enc Tryz.prog W 0 (fun _ => true) true n 43 [c3] = xs[3]? := h3
      have l4 : xs.length = 4 := hxl
      rw [List.getElem?_eq_getElem (by omega)] at h0 h1 h2 h3
      obtain ⟨K, rfl, -⟩ := int_cell Tryz.underlying3 h0
      obtain ⟨Z, rfl, -⟩ := int_cell Tryz.underlying3 h1
      obtain ⟨S, rfl, -⟩ := str_cell Tryz.underlying9 h2
      rw [bs_of S]
      rcases DataW.trod_slice Tryz.underlying43 h3 with ⟨hc, -⟩ | ⟨a, len, cap, elems, rest, m, rfl, hc, -, -, hl1, hl2, hle, hel, -, -⟩
      · obtain rfl : c3 = .slice none 0 0 := by injection hc
        exact ⟨.mk K Z S.data.toList [], none, 0, rfl, by rw [lok]; exact ⟨by decide, loks_of fun _ h => by cases h⟩, .inl rfl⟩
      · obtain rfl : c3 = .slice (some a) len cap := by injection hc
        have key : ∀ i, i < len → ∃ t : Ty, lok t ∧ TyA W t (a.add (i * 4)) := fun i hi => by
          have h5 := hel i hi
          rw [ez, List.getElem?_eq_getElem (by omega), Option.bind_eq_some_iff] at h5
          obtain ⟨cs', hcs, htr⟩ := h5
          obtain ⟨t, ht⟩ := ih m cs' _ (by omega) htr
          obtain ⟨-, -, hat⟩ := World.cells?_some hcs
          have hlk := ht
          obtain ⟨-, -, -, hlk, -⟩ := hlk
          exact ⟨t, hlk, ht.at_ hat⟩
        have key2 : ∀ i, ∃ t : Ty, i < len → lok t ∧ TyA W t (a.add (i * 4)) := fun i => by
          by_cases hi : i < len
          · obtain ⟨t, ht⟩ := key i hi; exact ⟨t, fun _ => ht⟩
          · exact ⟨.mk 0 0 [] [], fun h => absurd h hi⟩
        obtain ⟨q, hq⟩ := Classical.skolem.1 key2
        have hlen : ((List.range len).map q).length = len := by simp
        refine ⟨.mk K Z S.data.toList ((List.range len).map q), some a, cap, by show _ = [_, _, _, Value.slice (some a) ((List.range len).map q).length cap]; rw [hlen]; rfl, ?_, .inr ⟨a, rfl, fun i hi => ?_⟩⟩
        · rw [lok]
          refine ⟨by rw [hlen]; simp only [maxLen] at hl2; omega, loks_of fun t ht => ?_⟩
          obtain ⟨i, hi, rfl⟩ := List.mem_map.1 ht
          exact (hq i (List.mem_range.1 hi)).1
        · have hi2 : i < len := by
            have : i < ((List.range len).map q).length := hi
            omega
          have hi3 : i < ((List.range len).map q).length := hi
          have e4 : ((List.range len).map q)[i]'hi3 = q i := by simp
          have e : (Ty.mk K Z S.data.toList ((List.range len).map q)).elem[i]'hi = q i := e4
          rw [e]
          exact (hq i hi2).2
set_option maxRecDepth 100000 in
/-- An argument that is a type. -/
theorem open_typ {W : World} {r : Go.Reach} {b0 : Nat} {v : Value} {d : DataW H} {p : List MemPlace} (hv : Value.okWide Tryz.prog W r b0 45 v) (h : DataW.Trod enc Tryz.prog W 0 (fun _ => true) true 45 v d p) :
    ∃ t, lok t ∧ TyV W t v := by
  obtain ⟨cs, rfl, hsz, _⟩ : ∃ cs, v = .agg cs ∧ cs.size = Tryz.prog.cellsOf 45 ∧ Row.okWide Tryz.prog W r b0 45 cs := by
    simpa [Value.okWide, Tryz.underlying45] using hv
  obtain ⟨fuel, hf⟩ := h
  obtain ⟨t, A, c, e, hl, hR⟩ := open_ty (fuel + 1) fuel _ _ (Nat.lt_succ_self _) hf
  refine ⟨t, hl, A, c, ?_, hR⟩
  obtain ⟨l⟩ := cs
  have e : l = _ := e
  rw [e]
end
theorem same_row (t : Ty) (v : Value) (u : Ty) (v' : Value) (w : World) (hl : lok t) (hv : TyV w t v) (hl' : lok u) (hv' : TyV w u v') (hL : laidMetH Tryz.prog Rows.schemaSameRow.laid w) :
    Calls Tryz.prog 7 #[v, v'] w (Ib (.bool true) w) := schemaSame_any t u v v' w hl hl' hv hv' (env_laid hL)
end Go.Proofs.YtnfdoflmdlomhaaGreatDoor

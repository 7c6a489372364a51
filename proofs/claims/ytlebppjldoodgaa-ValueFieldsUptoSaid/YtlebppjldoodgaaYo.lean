import Derived.Test.YtlebppjldoodgaaYn
/-
  The developers' With of a struct without entries. No conditions beyond those that each names.
-/
namespace Go.Proofs.Ytlebppjldoodgaa
open Go.RowKit Go.Shelf
def WtP (u : Vl) (w : World) (e : Ending) (w' : World) : Prop := ∃ s, e = .returned (.agg #[.int .i64 u.kind, .int .i64 u.n, .string (bs u.s), .slice s.A u.l.length s.c, .slice s.B u.f.length s.d]) ∧ RdV w' u s ∧ Below w.heap.size w w'
theorem Bx.put6 {w : World} {b : Nat} {x y z u p q : Value} (h : Bx w b [x, y, z, u, p, q]) (x' y' z' u' p' q' : Value) : Bx ((((((w.setCell ⟨b, 0, none⟩ x').setCell ⟨b, 1, none⟩ y').setCell ⟨b, 2, none⟩ z').setCell ⟨b, 3, none⟩ u').setCell ⟨b, 4, none⟩ p').setCell ⟨b, 5, none⟩ q') b [x', y', z', u', p', q'] := (((((h.put1 0 x').put1 1 y').put1 2 z').put1 3 u').put1 4 p').put1 5 q'
theorem Bx.put5 {w : World} {b : Nat} {x y z u p : Value} (h : Bx w b [x, y, z, u, p]) (x' y' z' u' p' : Value) : Bx (((((w.setCell ⟨b, 0, none⟩ x').setCell ⟨b, 1, none⟩ y').setCell ⟨b, 2, none⟩ z').setCell ⟨b, 3, none⟩ u').setCell ⟨b, 4, none⟩ p') b [x', y', z', u', p'] := ((((h.put1 0 x').put1 1 y').put1 2 z').put1 3 u').put1 4 p'
theorem gb_set5 (w : World) (b : Nat) (x y z u p : Value) : w.grownBy (((((w.setCell ⟨b, 0, none⟩ x).setCell ⟨b, 1, none⟩ y).setCell ⟨b, 2, none⟩ z).setCell ⟨b, 3, none⟩ u).setCell ⟨b, 4, none⟩ p) (some b) := ((gb_set3 w b x y z).trans (gb_set1 _ ⟨b, 3, none⟩ u)).trans (gb_set1 _ ⟨b, 4, none⟩ p)
theorem gb_set6 (w : World) (b : Nat) (x y z u p q : Value) : w.grownBy ((((((w.setCell ⟨b, 0, none⟩ x).setCell ⟨b, 1, none⟩ y).setCell ⟨b, 2, none⟩ z).setCell ⟨b, 3, none⟩ u).setCell ⟨b, 4, none⟩ p).setCell ⟨b, 5, none⟩ q) (some b) := (gb_set5 w b x y z u p).trans (gb_set1 _ ⟨b, 5, none⟩ q)
theorem below_of_gb {w w' : World} (h : w.grownBy w' none) : Below w.heap.size w w' := ⟨h.os, h.tape, h.output, h.size, fun i hi => h.block i hi (by simp)⟩
set_option maxRecDepth 100000 in
set_option maxHeartbeats 8000000 in
theorem with0_any (n : Int) (s : List UInt8) (z k n' : Int) (s' : List UInt8) (w : World) :
    Calls Try.prog 16 #[.agg #[.int .i64 6, .int .i64 n, .string (bs s), .slice none 0 0, .slice none 0 0], .int .i64 z, (.agg #[.int .i64 k, .int .i64 n', .string (bs s'), .slice none 0 0, .slice none 0 0])] w (WtP (.mk 6 n s [] [(z, .mk k n' s' [] [])]) w) := by
  have cR := fun W => renewNil_any 6 n s W
  have cN := fun W => renewNil_any k n' s' W
  have cI := fun W => indexOf_any [] none 0 z W (by decide) (.inl rfl)
  have hW : ∃ W, (((w.alloc (Obj.cells #[.int .i64 6, .int .i64 n, .string (bs s), .slice none 0 0, .slice none 0 0] 25)).alloc (Obj.cells #[.int .i64 z] 3)).alloc (Obj.cells #[.int .i64 k, .int .i64 n', .string (bs s'), .slice none 0 0, .slice none 0 0] 25)).alloc (Obj.cells #[.int .i64 0, .int .i64 0, .string ⟨#[]⟩, .slice none 0 0, .slice none 0 0] 25) = W := ⟨_, rfl⟩
  have D1 := (Bx.new5 w 25 (.int .i64 6) (.int .i64 n) (.string (bs s)) (.slice none 0 0) (.slice none 0 0)).next (ab3 _ (Obj.cells #[.int .i64 z] 3) (Obj.cells #[.int .i64 k, .int .i64 n', .string (bs s'), .slice none 0 0, .slice none 0 0] 25) (Obj.cells #[.int .i64 0, .int .i64 0, .string ⟨#[]⟩, .slice none 0 0, .slice none 0 0] 25))
  have D2 := (Bx.new1 (w.alloc (Obj.cells #[.int .i64 6, .int .i64 n, .string (bs s), .slice none 0 0, .slice none 0 0] 25)) 3 (.int .i64 z)).next (ab2 _ (Obj.cells #[.int .i64 k, .int .i64 n', .string (bs s'), .slice none 0 0, .slice none 0 0] 25) (Obj.cells #[.int .i64 0, .int .i64 0, .string ⟨#[]⟩, .slice none 0 0, .slice none 0 0] 25))
  have D3 := (Bx.new5 ((w.alloc (Obj.cells #[.int .i64 6, .int .i64 n, .string (bs s), .slice none 0 0, .slice none 0 0] 25)).alloc (Obj.cells #[.int .i64 z] 3)) 25 (.int .i64 k) (.int .i64 n') (.string (bs s')) (.slice none 0 0) (.slice none 0 0)).next (ab1 _ (Obj.cells #[.int .i64 0, .int .i64 0, .string ⟨#[]⟩, .slice none 0 0, .slice none 0 0] 25))
  have D4 := Bx.new5 (((w.alloc (Obj.cells #[.int .i64 6, .int .i64 n, .string (bs s), .slice none 0 0, .slice none 0 0] 25)).alloc (Obj.cells #[.int .i64 z] 3)).alloc (Obj.cells #[.int .i64 k, .int .i64 n', .string (bs s'), .slice none 0 0, .slice none 0 0] 25)) 25 (.int .i64 0) (.int .i64 0) (.string ⟨#[]⟩) (.slice none 0 0) (.slice none 0 0)
  have hab := ab4 w (Obj.cells #[.int .i64 6, .int .i64 n, .string (bs s), .slice none 0 0, .slice none 0 0] 25) (Obj.cells #[.int .i64 z] 3) (Obj.cells #[.int .i64 k, .int .i64 n', .string (bs s'), .slice none 0 0, .slice none 0 0] 25) (Obj.cells #[.int .i64 0, .int .i64 0, .string ⟨#[]⟩, .slice none 0 0, .slice none 0 0] 25)
  rw [show (w.alloc (Obj.cells #[.int .i64 6, .int .i64 n, .string (bs s), .slice none 0 0, .slice none 0 0] 25)).heap.size = w.heap.size + 1 by simp] at D2
  rw [show ((w.alloc (Obj.cells #[.int .i64 6, .int .i64 n, .string (bs s), .slice none 0 0, .slice none 0 0] 25)).alloc (Obj.cells #[.int .i64 z] 3)).heap.size = w.heap.size + 1 + 1 by simp] at D3
  rw [show (((w.alloc (Obj.cells #[.int .i64 6, .int .i64 n, .string (bs s), .slice none 0 0, .slice none 0 0] 25)).alloc (Obj.cells #[.int .i64 z] 3)).alloc (Obj.cells #[.int .i64 k, .int .i64 n', .string (bs s'), .slice none 0 0, .slice none 0 0] 25)).heap.size = w.heap.size + 1 + 1 + 1 by simp] at D4
  clear hW
  go_enter Try.func16, Try.ntmps16
  go_wp2_with fail
  generalize (((w.alloc (Obj.cells #[.int .i64 6, .int .i64 n, .string (bs s), .slice none 0 0, .slice none 0 0] 25)).alloc (Obj.cells #[.int .i64 z] 3)).alloc (Obj.cells #[.int .i64 k, .int .i64 n', .string (bs s'), .slice none 0 0, .slice none 0 0] 25)).alloc (Obj.cells #[.int .i64 0, .int .i64 0, .string ⟨#[]⟩, .slice none 0 0, .slice none 0 0] 25) = W0 at *
  refine (cR _).mono ?_
  rintro e w2 ⟨rfl, hb2⟩
  replace D1 := D1.next hb2
  replace D2 := D2.next hb2
  replace D3 := D3.next hb2
  replace D4 := D4.next hb2
  replace hab := Below.next hab hb2
  clear cR hb2
  have s0 := D1.c 0 rfl
  have s1 := D1.c 1 rfl
  have s2 := D1.c 2 rfl
  have s3 := D1.c 3 rfl
  have s4 := D1.c 4 rfl
  have t0 := D1.f 0 rfl
  have t1 := D1.f 1 rfl
  have t2 := D1.f 2 rfl
  have t3 := D1.f 3 rfl
  have t4 := D1.f 4 rfl
  have l1 := D1.lt
  have E1 := D1.put5 (.int .i64 6) (.int .i64 n) (.string (bs s)) (.slice none 0 0) (.slice none 0 0)
  have hgr := gb_set5 w2 w.heap.size (.int .i64 6) (.int .i64 n) (.string (bs s)) (.slice none 0 0) (.slice none 0 0)
  replace D2 := D2.gb hgr (by omega)
  replace D3 := D3.gb hgr (by omega)
  replace D4 := D4.gb hgr (by omega)
  replace hab := hab.grown hgr hab.size (fun j hj => by cases hj; exact Nat.le_refl _)
  clear hgr D1
  go_upto_region 4 with (fail)
  generalize (((((w2.setCell ⟨w.heap.size, 0, none⟩ (.int .i64 6)).setCell ⟨w.heap.size, 1, none⟩ (.int .i64 n)).setCell ⟨w.heap.size, 2, none⟩ (.string (bs s))).setCell ⟨w.heap.size, 3, none⟩ (.slice none 0 0)).setCell ⟨w.heap.size, 4, none⟩ (.slice none 0 0)) = W1 at *
  clear s0 s1 s2 s3 s4 t0 t1 t2 t3 t4 l1
  have p0 := D2.c 0 rfl
  have x0 := D3.c 0 rfl
  have x1 := D3.c 1 rfl
  have x2 := D3.c 2 rfl
  have x3 := D3.c 3 rfl
  have x4 := D3.c 4 rfl
  refine wp_region_box (by kernel_rfl) (FF [(4, Fact.at_ W1 (.pointer (some ⟨(w.heap.size + 1), 0, none⟩))), (5, Fact.at_ W1 (.pointer (some ⟨(w.heap.size + 1 + 1), 0, none⟩))), (16, Fact.at_ W1 (.int .i64 z)), (17, Fact.at_ W1 (.agg #[.int .i64 k, .int .i64 n', .string (bs s'), .slice none 0 0, .slice none 0 0])), (18, Fact.at_ W1 (.agg #[.int .i64 k, .int .i64 n', .string (bs s'), .slice none 0 0, .slice none 0 0])), (19, Fact.at_ W1 (.agg #[.int .i64 z, .int .i64 k, .int .i64 n', .string (bs s'), .slice none 0 0, .slice none 0 0]))]) [4, 5] 49 7 5 19 [.int .i64 0, .int .i64 0, .int .i64 0, .string ⟨#[]⟩, .slice none 0 0, .slice none 0 0] [.int .i64 z, .int .i64 k, .int .i64 n', .string (bs s'), .slice none 0 0, .slice none 0 0] [16, 17, 18, 19, 7] rfl (by kernel_rfl) (by kernel_rfl) (by kernel_rfl) (by kernel_rfl) (FF_soft (fcs ⟨at_soft W1 (.pointer (some ⟨(w.heap.size + 1), 0, none⟩)), fcs ⟨at_soft W1 (.pointer (some ⟨(w.heap.size + 1 + 1), 0, none⟩)), fcs ⟨at_soft W1 (.int .i64 z), fcs ⟨at_soft W1 (.agg #[.int .i64 k, .int .i64 n', .string (bs s'), .slice none 0 0, .slice none 0 0]), fcs ⟨at_soft W1 (.agg #[.int .i64 k, .int .i64 n', .string (bs s'), .slice none 0 0, .slice none 0 0]), fcs ⟨at_soft W1 (.agg #[.int .i64 z, .int .i64 k, .int .i64 n', .string (bs s'), .slice none 0 0, .slice none 0 0]), fnl⟩⟩⟩⟩⟩⟩)) ?_ ?_ ?_
  · intro t9 ht9
    simp only [List.mem_cons, List.not_mem_nil, or_false] at ht9
    rcases ht9 with rfl | rfl
    · exact ⟨rfl, Below.refl _ _⟩
    · exact ⟨rfl, Below.refl _ _⟩
  · refine fcs ⟨.plain (at1 4 16 (.pointer (some ⟨(w.heap.size + 1), 0, none⟩)) (.int .i64 z) rfl (by first | exact .inl rfl | exact .inr ⟨_, _, _, rfl, rfl, by kernel_rfl, by decide, rfl⟩) (by kernel_rfl) rfl rfl (fun a9 W9 hb9 h9 => by have g0 := cell_next hb9 p0; simp [execOp, h9] <;> go_simp)) (by decide) (by decide), ?_⟩
    refine fcs ⟨.plain (at1 5 17 (.pointer (some ⟨(w.heap.size + 1 + 1), 0, none⟩)) (.agg #[.int .i64 k, .int .i64 n', .string (bs s'), .slice none 0 0, .slice none 0 0]) rfl (by first | exact .inl rfl | exact .inr ⟨_, _, _, rfl, rfl, by kernel_rfl, by decide, rfl⟩) (by kernel_rfl) rfl rfl (fun a9 W9 hb9 h9 => by have g0 := cell_next hb9 x0; have g1 := cell_next hb9 x1; have g2 := cell_next hb9 x2; have g3 := cell_next hb9 x3; have g4 := cell_next hb9 x4; simp [execOp, h9] <;> go_simp)) (by decide) (by decide), ?_⟩
    refine fcs ⟨.plain (atc1 40 17 18 (.agg #[.int .i64 k, .int .i64 n', .string (bs s'), .slice none 0 0, .slice none 0 0]) (.agg #[.int .i64 k, .int .i64 n', .string (bs s'), .slice none 0 0, .slice none 0 0]) _ rfl rfl (by first | exact .inl rfl | exact .inr ⟨_, _, _, rfl, rfl, by kernel_rfl, by decide, rfl⟩) (by kernel_rfl) rfl (by kernel_rfl) rfl (fun W9 hb9 => cN W9)) (by decide) (by decide), ?_⟩
    refine fcs ⟨.plain (at2 16 18 19 (.int .i64 z) (.agg #[.int .i64 k, .int .i64 n', .string (bs s'), .slice none 0 0, .slice none 0 0]) (.agg #[.int .i64 z, .int .i64 k, .int .i64 n', .string (bs s'), .slice none 0 0, .slice none 0 0]) rfl (by first | exact .inl rfl | exact .inr ⟨_, _, _, rfl, rfl, by kernel_rfl, by decide, rfl⟩) (by kernel_rfl) (by kernel_rfl) rfl rfl rfl (fun a9 W9 hb9 h9 h8 => by simp [execOp, h9, h8] <;> go_simp)) (by decide) (by decide), ?_⟩
    refine fcs ⟨.alloc rfl rfl rfl (by decide) (fun a9 w9 => ⟨_, by simp [execOp, ptr0] <;> go_simp, ab1 _ (Obj.cells #[.int .i64 0, .int .i64 0, .int .i64 0, .string ⟨#[]⟩, .slice none 0 0, .slice none 0 0] 72), Bx.new6 _ _ _ _ _ _ _ _⟩), ?_⟩
    refine fcs ⟨.store rfl rfl rfl (by kernel_rfl) (by kernel_rfl) (fun a9 w9 b9 h9 hx9 hf9 => (by have k1 : a9.eval (.tmp 7) = .pointer (some ⟨b9, 0, none⟩) := h9; have k2 : a9.eval (.tmp 19) = .agg #[.int .i64 z, .int .i64 k, .int .i64 n', .string (bs s'), .slice none 0 0, .slice none 0 0] := hf9.1; have g0 := hx9.c 0 rfl; have f0 := hx9.f 0 rfl; have g1 := hx9.c 1 rfl; have f1 := hx9.f 1 rfl; have g2 := hx9.c 2 rfl; have f2 := hx9.f 2 rfl; have g3 := hx9.c 3 rfl; have f3 := hx9.f 3 rfl; have g4 := hx9.c 4 rfl; have f4 := hx9.f 4 rfl; have g5 := hx9.c 5 rfl; have f5 := hx9.f 5 rfl; have l9 := hx9.lt; exact ⟨_, by simp [execOp, k1, k2] <;> go_simp, gb_set6 _ _ _ _ _ _ _ _, hx9.put6 _ _ _ _ _ _⟩)), ?_⟩
    exact fnl
  rintro vv wv hvv ⟨gx, hgx, hgl, hX⟩ hbv
  have hv19 : vv 19 = (.agg #[.int .i64 z, .int .i64 k, .int .i64 n', .string (bs s'), .slice none 0 0, .slice none 0 0]) := (hvv 19 (by decide)).1
  unfold ptr0 at hgx
  simp only [lay, List.foldl_cons, List.foldl_nil, List.setIfInBounds_toArray, List.set_cons_succ, List.set_cons_zero, hgx, hv19]
  replace E1 := E1.next hbv
  replace D2 := D2.next hbv
  replace D4 := D4.next hbv
  replace hab := Below.next hab hbv
  clear hvv hgx hgl hbv p0 x0 x1 x2 x3 x4 D3 cN hv19
  have s4 := E1.c 4 rfl
  have p0 := D2.c 0 rfl
  have l1 := D2.lt
  have cI1 := cI wv
  have hix : ixI (List.findIdx? (fun x : Int × Vl => (x.1 == z)) []) = -1 := rfl
  rw [hix] at cI1
  clear cI hix
  go_wp2_with fail
  refine cI1.mono ?_
  rintro e w4 ⟨rfl, hb4⟩
  replace E1 := E1.next hb4
  replace D2 := D2.next hb4
  replace D4 := D4.next hb4
  replace hX := hX.next hb4
  replace hab := Below.next hab hb4
  clear cI1 hb4 s4 p0 l1
  have s4 := E1.c 4 rfl
  have p0 := D2.c 0 rfl
  have cG := gtIx_any [] none 0 z (w.heap.size + 1) w4 (by decide) (.inl rfl) p0
  have hix : ixI (List.findIdx? (fun x : Int × Vl => decide (z < x.1)) []) = -1 := rfl
  rw [hix] at cG
  go_wp2_with fail
  refine cG.mono ?_
  rintro e w5 ⟨rfl, hb5⟩
  replace E1 := E1.next hb5
  replace D4 := D4.next hb5
  replace hX := hX.next hb5
  replace hab := Below.next hab hb5
  clear cG hb5 s4 p0 D2 hix
  have s4 := E1.c 4 rfl
  have y0 := hX.c 0 rfl
  have y1 := hX.c 1 rfl
  have y2 := hX.c 2 rfl
  have y3 := hX.c 3 rfl
  have y4 := hX.c 4 rfl
  have y5 := hX.c 5 rfl
  have hbx := ab1 w5 (Obj.cells #[.int .i64 z, .int .i64 k, .int .i64 n', .string (bs s'), .slice none 0 0, .slice none 0 0] 72)
  have hQ := Bx.new6 w5 72 (.int .i64 z) (.int .i64 k) (.int .i64 n') (.string (bs s')) (.slice none 0 0) (.slice none 0 0)
  have cX := insertEnd_any (w5.alloc (Obj.cells #[.int .i64 z, .int .i64 k, .int .i64 n', .string (bs s'), .slice none 0 0, .slice none 0 0] 72)).heap.size none 0 0 [] (z, .mk k n' s' [] []) ⟨none, 0, none, 0⟩ w5.heap.size 1 (w5.alloc (Obj.cells #[.int .i64 z, .int .i64 k, .int .i64 n', .string (bs s'), .slice none 0 0, .slice none 0 0] 72)) (by decide) (World.ownsRow_nil _ _ _ _) hQ (Nat.le_refl _)
  replace E1 := E1.next hbx
  have D40 := D4
  replace D4 := D4.next hbx
  have hab2 := Below.next hab hbx
  have s5 := E1.c 4 rfl
  go_wp2_with fail
  refine cX.mono ?_
  rintro e w6 ⟨v', rfl, hown, hgr⟩
  obtain ⟨B', d', rfl⟩ := own_form hown
  have hb6 : Below (w5.alloc (Obj.cells #[.int .i64 z, .int .i64 k, .int .i64 n', .string (bs s'), .slice none 0 0, .slice none 0 0] 72)).heap.size (w5.alloc (Obj.cells #[.int .i64 z, .int .i64 k, .int .i64 n', .string (bs s'), .slice none 0 0, .slice none 0 0] 72)) w6 := below_of_gb hgr
  replace E1 := E1.next hb6
  replace D4 := D4.next hb6
  have hl5 := Nat.lt_of_lt_of_le D40.lt hbx.size
  replace hab := Below.next hab2 hb6
  clear cX hb6 hab2 hgr hX y0 y1 y2 y3 y4 y5 s4 s5 hQ
  have s0 := E1.c 0 rfl
  have s1 := E1.c 1 rfl
  have s2 := E1.c 2 rfl
  have s3 := E1.c 3 rfl
  have s4 := E1.c 4 rfl
  have f4 := E1.f 4 rfl
  have r0 := D4.c 0 rfl
  have r1 := D4.c 1 rfl
  have r2 := D4.c 2 rfl
  have r3 := D4.c 3 rfl
  have r4 := D4.c 4 rfl
  have q0 := D4.f 0 rfl
  have q1 := D4.f 1 rfl
  have q2 := D4.f 2 rfl
  have q3 := D4.f 3 rfl
  have q4 := D4.f 4 rfl
  have l1 := E1.lt
  have l2 := D4.lt
  obtain ⟨g, rfl⟩ := own_some hown (by decide)
  have hg := hown.lt g rfl
  generalize (w5.alloc (Obj.cells #[.int .i64 z, .int .i64 k, .int .i64 n', .string (bs s'), .slice none 0 0, .slice none 0 0] 72)).heap.size = lo at *
  go_wp2_with fail
  have hK := (((((((Kpl.refl lo w6).set (p := ⟨w.heap.size, 4, none⟩) (by show w.heap.size < lo; omega) (.slice (some ⟨g, 0, none⟩) 1 d')).set (p := ⟨w.heap.size + 1 + 1 + 1, 0, none⟩) hl5 (.int .i64 6)).set (p := ⟨w.heap.size + 1 + 1 + 1, 1, none⟩) hl5 (.int .i64 n)).set (p := ⟨w.heap.size + 1 + 1 + 1, 2, none⟩) hl5 (.string (bs s))).set (p := ⟨w.heap.size + 1 + 1 + 1, 3, none⟩) hl5 (.slice none 0 0)).set (p := ⟨w.heap.size + 1 + 1 + 1, 4, none⟩) hl5 (.slice (some ⟨g, 0, none⟩) 1 d'))
  have hb9 := (hab.setCell (p := ⟨w.heap.size, 4, none⟩) (Nat.le_refl _) (.slice (some ⟨g, 0, none⟩) 1 d'))
  refine bodyPost_ret (v := .agg #[.int .i64 6, .int .i64 n, .string (bs s), .slice none 0 0, .slice (some ⟨g, 0, none⟩) 1 d']) (by simp [results, Try.results16, go_sem, r0, r1, r2, r3, r4]) rfl ⟨⟨none, 0, some ⟨g, 0, none⟩, d'⟩, rfl, ⟨.inl rfl, rowE_of hown (hK.blk g hg.1 hg.2) rfl (IL.snoc (IL.nil 6 encE _) (z, .mk k n' s' [] []) ⟨none, 0, none, 0⟩ rfl ⟨.inl rfl, .inl rfl⟩)⟩, ((((hb9.setCell (by show _ ≤ w.heap.size + 1 + 1 + 1; omega) _).setCell (by show _ ≤ w.heap.size + 1 + 1 + 1; omega) _).setCell (by show _ ≤ w.heap.size + 1 + 1 + 1; omega) _).setCell (by show _ ≤ w.heap.size + 1 + 1 + 1; omega) _).setCell (by show _ ≤ w.heap.size + 1 + 1 + 1; omega) _⟩
end Go.Proofs.Ytlebppjldoodgaa

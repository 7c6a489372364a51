import Derived.Test.YtcjaaijohapeaaaDoorVc
/-
  The chapter's example, as the laws check it. No conditions beyond those that each names.
-/
namespace Go.Proofs.YtcjaaijohapeaaaDoor
open Go.RowKit Go.Sort Go.Lib Go.Shelf
theorem Bx.newF (w : World) (t : TypeId) (x : Fg) : Bx (w.alloc (Obj.cells #[.int .i64 x.id, .int .i64 x.ix, .int .i64 x.ct, .string (bs x.dat)] t)) w.heap.size (eF x) :=
  ⟨by simp, fun j v hj => ⟨by rw [cell_lit (heap_newI w _), ← Array.getElem?_toList]; exact hj, frozen_lit (heap_newI w _)⟩⟩
set_option maxRecDepth 100000 in
set_option maxHeartbeats 4000000 in
theorem add0_any (B : Nat) (w : World) (c m : Nat) (h : A0 B w c m) (hB : B ≤ w.heap.size) :
    Calls Tryd.prog 21 #[.pointer (some ⟨c, 0, none⟩), .int .i64 1, .agg #[.int .i64 5, .int .i64 0, .int .i64 1, .string (bs [97, 98])]] w (fun e w' => e = .returned (.tuple #[.string (bs [97, 98]), .bool true, .int .i64 0]) ∧ Below B w w') := by
  have HLK : Hid (∀ W, A0 B W c m → (Instr.lookup 107 (.map (some m)) (.agg #[.int .i64 1, .int .i64 5]) false).run Tryd.prog W = .ok (.slice none 0 0) W) := Lib.hid fun W hW => hW.mp.look (t := (1, 5)) ⟨⟨by decide, by decide⟩, ⟨by decide, by decide⟩⟩
  have cV := fun W => isValid_any ⟨5, 0, 1, [97, 98]⟩ W (by decide)
  rw [show fvB ⟨5, 0, 1, [97, 98]⟩ = true by decide] at cV
  unfold Fg.val at cV
  have hsz : (bs [97, 98]).size = 2 := rfl
  have h1 := h.next (ab1 w (Obj.cells #[.int .i64 5, .int .i64 0, .int .i64 1, .string (bs [97, 98])] 32))
  have H1 := Lib.hid h1
  have k0 := h.b.c 1 rfl
  have hlt := h.b.lt
  have kmn : ∀ W, (binOp .eql 107 (.map (some m)) (.map none)).run Tryd.prog W = .ok (.bool false) W := fun W => by kernel_rfl
  have F0 := Bx.newF w 32 ⟨5, 0, 1, [97, 98]⟩
  go_enter Tryd.func21, Tryd.ntmps21
  go_wp2_with (first
    | (go_at_call 39; refine (isIn_any _ _ _ _).mono ?_; rw [show inB 1 0 7 = true by decide]; rintro e w9 ⟨rfl, rfl⟩)
    | (go_at_call 37; refine (cV _).mono ?_; rintro e w1 ⟨rfl, hb1⟩; have H2 := Lib.hid (H1.out.next hb1); have F1 := F0.next hb1; have q0 := F1.c 0 rfl))
  have H3 := Lib.hid (H2.out.next (ab1 w1 (Obj.cells #[.int .i64 1, .int .i64 5] 116)))
  have F3 := Lib.hid (F1.next (ab1 w1 (Obj.cells #[.int .i64 1, .int .i64 5] 116)))
  have K3 := Bx.new2 w1 116 (.int .i64 1) (.int .i64 5)
  have HB3 := Lib.hid (((show Below w.heap.size w _ from Below.next (ab1 w _) hb1).trans ((ab1 w1 (Obj.cells #[.int .i64 1, .int .i64 5] 116)).mono (Nat.le_trans (ab1 w _).size hb1.size))).mono hB)
  clear H1 H2 h1 h F0 F1 q0 cV hb1 k0 hlt
  generalize w1.alloc (Obj.cells #[.int .i64 1, .int .i64 5] 116) = w3 at *
  generalize w1.heap.size = kb at *
  generalize w.heap.size = fb at *
  have k0 := H3.out.b.c 1 rfl
  have p0 := K3.c 0 rfl
  have p1 := K3.c 1 rfl
  have hL := HLK.out _ (H3.out.next (show Below _ _ (World.drew w3) from below_drewN (Below.refl _ _) 1))
  go_region
  have hd := show Below w3.heap.size w3 (World.drew w3) from below_drewN (Below.refl _ _) 1
  have H4 := Lib.hid (H3.out.next hd)
  have F4 := Lib.hid (F3.out.next hd)
  have K4 := Lib.hid (K3.next hd)
  have hs3 : B ≤ w3.heap.size := by have := H3.out.lo.1; have := H3.out.b.lt; omega
  have HB4 := Lib.hid (HB3.out.trans (hd.mono hs3))
  clear hL k0 p0 p1 K3 H3 F3 HB3 hd hs3
  generalize World.drew w3 = w4 at *
  have q1 := F4.out.c 1 rfl
  go_wp2_with (go_at_call 56; refine (findNil_any _ _).mono ?_; rintro e w5 ⟨rfl, hb5⟩)
  have H5 := Lib.hid (H4.out.next hb5)
  have F5 := Lib.hid (F4.out.next hb5)
  have K5 := Lib.hid (K4.out.next hb5)
  have HB5 := Lib.hid (HB4.out.trans (hb5.mono (by have := H4.out.lo.1; have := H4.out.b.lt; omega)))
  clear H4 F4 K4 HB4 hb5 q1
  have q2 := F5.out.c 2 rfl
  go_region
  have hd := show Below w5.heap.size w5 (World.drew w5) from below_drewN (Below.refl _ _) 1
  have H6 := Lib.hid (H5.out.next hd)
  have F6 := Lib.hid (F5.out.next hd)
  have K6 := Lib.hid (K5.out.next hd)
  have HB6 := Lib.hid (HB5.out.trans (hd.mono (by have := H5.out.lo.1; have := H5.out.b.lt; omega)))
  clear H5 F5 K5 HB5 hd q2
  generalize World.drew w5 = w6 at *
  go_wp2_with fail
  have q0 := F6.out.c 0 rfl
  have k4 := H6.out.b.c 4 rfl
  go_quiet ((go_at_call 57; exact Calls.quiet_of_same ((Tryd.slices_Contains_int_empty _ _ _ _).mono fun _ _ h => ⟨h.1, h.2⟩)))
  have hd := show Below w6.heap.size w6 (w6.drewN nq) from below_drewN (Below.refl _ _) nq
  have H7 := Lib.hid (H6.out.next hd)
  have F7 := Lib.hid (F6.out.next hd)
  have HB7 := Lib.hid (HB6.out.trans (hd.mono (by have := H6.out.lo.1; have := H6.out.b.lt; omega)))
  clear H6 F6 K6 HB6 hd q0 k4
  generalize w6.drewN nq = w7 at *
  have s0 := F7.out.c 0 rfl
  have s1 := F7.out.c 1 rfl
  have s2 := F7.out.c 2 rfl
  have s3 := F7.out.c 3 rfl
  have hI := insNil_any ⟨5, 0, 1, [97, 98]⟩ w7.heap.size 1 (w7.alloc (Obj.cells #[.int .i64 5, .int .i64 0, .int .i64 1, .string (bs [97, 98])] 32)) (Bx.newF w7 32 ⟨5, 0, 1, [97, 98]⟩)
  have HL7 : Hid (B ≤ w7.heap.size) := Lib.hid (by have := H7.out.lo.1; have := H7.out.b.lt; omega)
  have HN : Hid (∀ g, (w7.alloc (Obj.cells #[.int .i64 5, .int .i64 0, .int .i64 1, .string (bs [97, 98])] 32)).heap.size ≤ g → ¬ (g = c ∨ g = m)) := Lib.hid (fun g hg e => by
    have h1 := H7.out.b.lt
    have h2 := H7.out.mp.lt
    have h3 := (ab1 w7 (Obj.cells #[.int .i64 5, .int .i64 0, .int .i64 1, .string (bs [97, 98])] 32)).size
    omega)
  have HBX : Hid (B ≤ (w7.alloc (Obj.cells #[.int .i64 5, .int .i64 0, .int .i64 1, .string (bs [97, 98])] 32)).heap.size) := Lib.hid (Nat.le_trans HL7.out (ab1 w7 _).size)
  have HC : Hid (∀ W, A0 B W c m → B ≤ W.heap.size) := Lib.hid (fun W h => by have := h.lo.1; have := h.b.lt; omega)
  go_wp2_with (first
    | (go_at_call 58; refine hI.mono ?_; clear hI; rintro e w8 ⟨g8, c8, rfl, ho8, hb8⟩; have hb8 := Below.next (ab1 w7 _) hb8; have H8 := Lib.hid (H7.out.next hb8); have F8 := F7.out.next hb8; clear s0 s1 s2 s3; have r0 := F8.c 0 rfl; have r2 := F8.c 2 rfl; have HB8 := Lib.hid (HB7.out.trans (hb8.mono HL7.out)); have HO8 := Lib.hid ho8)
    | (go_at_call 60; refine (complete0_any B w8 c m H8.out (HC.out _ H8.out)).mono ?_; rintro e w9 ⟨rfl, hb9⟩; have HO9 := Lib.hid (show OwF B w9 (.slice (some ⟨g8, 0, none⟩) 1 c8) [⟨5, 0, 1, [97, 98]⟩] from own_mono (own_blk HO8.out (fun g e => hb9.blk g (HO8.out.lt g e).2 (HN.out g (HO8.out.lt g e).1))) HBX.out))
    | (go_at_call 61; refine (join_any B _ [⟨5, 0, 1, [97, 98]⟩] _ HO9.out (by decide) (by decide)).mono ?_; rintro e w10 ⟨rfl, hb10⟩))
  go_ret3
  exact ⟨rfl, (HB8.out.trans (hb9.below (HC.out _ H8.out) (fun i e => e.elim (fun e => by rw [e]; exact H8.out.lo.1) (fun e => by rw [e]; exact H8.out.lo.2)))).trans (hb10.mono (Nat.le_trans (HC.out _ H8.out) hb9.size))⟩
def awP : Pc := ⟨4, 0, 1, 2, 3, 0, 1, 4, 0, [], []⟩
theorem awP_enc : encP awP = ([4, 0, 1, 2, 3, 0, 1, 4, 0], 0) := by
  unfold encP
  rw [if_pos (by decide)]
  unfold enc nb
  simp [awP, nrs, nrB, nrS, nrF, lid, Pc.num, uv_small]
set_option maxRecDepth 100000 in
set_option maxHeartbeats 4000000 in
theorem awake_any (w : World) : Calls Tryd.prog 7 #[] w (Ib (.bool true) w) := by
  have cE := encode_any awP (.slice none 0 0) w ⟨none, 0, rfl, .inl rfl⟩ (by decide) (by decide)
  rw [awP_enc] at cE
  unfold Pc.val Pc.cells awP at cE
  simp only [List.toArray] at cE
  have hs1 : ((bs [4, 0, 1, 2, 3, 0, 1, 4, 0]).toList == [4, 0, 1, 2, 3, 0, 1, 4, 0]) = true := by rw [toList_bs]; rfl
  go_enter Tryd.func7, Tryd.ntmps7
  go_wp2_with (first
    | (go_at_call 9; refine cE.mono ?_; rintro e w1 ⟨rfl, hb1⟩)
    | (go_at_call 18; refine (newA_any _).mono ?_; rintro e w2 ⟨c, m, rfl, hb2, h2⟩)
    | (go_at_call 21; refine (add0_any _ _ _ _ h2 hb2.size).mono ?_; rintro e w3 ⟨rfl, hb3⟩))
  go_ret
  exact ⟨by rw [toList_bs]; rfl, (Below.next hb1 hb2).trans (hb3.mono hb1.size)⟩
end Go.Proofs.YtcjaaijohapeaaaDoor

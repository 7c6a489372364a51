/-
  The chapter's example, as the laws check it. No conditions beyond those that each names.
-/
import Derived.Test.YtcjaaijohapeaaaDoorM12
import Derived.Test.YtcjaaijohapeaaaDoorM06
import Derived.Lib.QuietBelow
import Derived.BigQuiet
import Derived.Test.YtcjaaijohapeaaaDoorM10
namespace Go.Proofs.YtcjaaijohapeaaaDoor
open Go.RowKit Go.Sort Go.Lib Go.Shelf
theorem Bx.newF (w : World) (t : TypeId) (x : Fg) : Bx (w.alloc (Obj.cells #[.int .i64 x.id, .int .i64 x.ix, .int .i64 x.ct, .string (bs x.dat)] t)) w.heap.size (eF x) :=
  ⟨by simp, fun j v hj => ⟨by rw [cell_lit (heap_newI w _), ← Array.getElem?_toList]; exact hj, frozen_lit (heap_newI w _)⟩⟩
set_option maxRecDepth 100000 in
set_option maxHeartbeats 4000000 in
theorem add0_any (B : Nat) (w : World) (c m : Nat) (h : A0 B w c m) (hB : B ≤ w.heap.size) :
    Calls Tryd.prog 21 #[.pointer (some ⟨c, 0, none⟩), .int .i64 1, .agg #[.int .i64 5, .int .i64 0, .int .i64 1, .string (bs [97, 98])]] w (fun e w' => e = .returned (.tuple #[.string (bs [97, 98]), .bool true, .int .i64 0]) ∧ Below B w w') := by
  have HLK : Hid (∀ W, A0 B W c m → (Instr.lookup 107 (.map (some m)) (.agg #[.int .i64 1, .int .i64 5]) false).run Tryd.prog W = .ok (.slice none 0 0) W) := Lib.hid fun W hW => hW.mp.look (t := (1, 5)) ⟨⟨by decide, by decide⟩, ⟨by decide, by decide⟩⟩
  have cV := fun W => isValid_any ⟨5, 0, 1, [97, 98]⟩ W (by decide)
  rw [show fvB ⟨5, 0, 1, [97, 98]⟩ = true by decide] at cV
  unfold Fg.val at cV
  have hsz : (bs [97, 98]).size = 2 := rfl
  have h1 := h.next (ab1 w (Obj.cells #[.int .i64 5, .int .i64 0, .int .i64 1, .string (bs [97, 98])] 32))
  have H1 := Lib.hid h1
  have k0 := h.b.c 1 rfl
  have hlt := h.b.lt
  have kmn : ∀ W, (binOp .eql 107 (.map (some m)) (.map none)).run Tryd.prog W = .ok (.bool false) W := fun W => by kernel_rfl
  have F0 := Bx.newF w 32 ⟨5, 0, 1, [97, 98]⟩
  go_enter Tryd.func21, Tryd.ntmps21
  go_wp2_with (first
    | (go_at_call 39; refine (isIn_any _ _ _ _).mono ?_; rw [show inB 1 0 7 = true by decide]; rintro e w9 ⟨rfl, rfl⟩)
    | (go_at_call 37; refine (cV _).mono ?_; rintro e w1 ⟨rfl, hb1⟩; have H2 := Lib.hid (H1.out.next hb1); have F1 := F0.next hb1; have q0 := F1.c 0 rfl))
  have H3 := Lib.hid (H2.out.next (ab1 w1 (Obj.cells #[.int .i64 1, .int .i64 5] 116)))
  have F3 := Lib.hid (F1.next (ab1 w1 (Obj.cells #[.int .i64 1, .int .i64 5] 116)))
  have K3 := Bx.new2 w1 116 (.int .i64 1) (.int .i64 5)
  have HB3 := Lib.hid (((show Below w.heap.size w _ from Below.next (ab1 w _) hb1).trans ((ab1 w1 (Obj.cells #[.int .i64 1, .int .i64 5] 116)).mono (Nat.le_trans (ab1 w _).size hb1.size))).mono hB)
  clear H1 H2 h1 h F0 F1 q0 cV hb1 k0 hlt
  generalize w1.alloc (Obj.cells #[.int .i64 1, .int .i64 5] 116) = w3 at *
  generalize w1.heap.size = kb at *
  generalize w.heap.size = fb at *
  have k0 := H3.out.b.c 1 rfl
  have p0 := K3.c 0 rfl
  have p1 := K3.c 1 rfl
  have hL := HLK.out _ (H3.out.next (show Below _ _ (World.drew w3) from below_drewN (Below.refl _ _) 1))
  go_region
  have hd := show Below w3.heap.size w3 (World.drew w3) from below_drewN (Below.refl _ _) 1
  have H4 := Lib.hid (H3.out.next hd)
  have F4 := Lib.hid (F3.out.next hd)
  have K4 := Lib.hid (K3.next hd)
  have hs3 : B ≤ w3.heap.size := by have := H3.out.lo.1; have := H3.out.b.lt; omega
  have HB4 := Lib.hid (HB3.out.trans (hd.mono hs3))
  clear hL k0 p0 p1 K3 H3 F3 HB3 hd hs3
  generalize World.drew w3 = w4 at *
  have q1 := F4.out.c 1 rfl
  go_wp2_with (go_at_call 56; refine (findNil_any _ _).mono ?_; rintro e w5 ⟨rfl, hb5⟩)
  have H5 := Lib.hid (H4.out.next hb5)
  have F5 := Lib.hid (F4.out.next hb5)
  have K5 := Lib.hid (K4.out.next hb5)
  have HB5 := Lib.hid (HB4.out.trans (hb5.mono (by have := H4.out.lo.1; have := H4.out.b.lt; omega)))
  clear H4 F4 K4 HB4 hb5 q1
  have q2 := F5.out.c 2 rfl
  go_region
  have hd := show Below w5.heap.size w5 (World.drew w5) from below_drewN (Below.refl _ _) 1
  have H6 := Lib.hid (H5.out.next hd)
  have F6 := Lib.hid (F5.out.next hd)
  have K6 := Lib.hid (K5.out.next hd)
  have HB6 := Lib.hid (HB5.out.trans (hd.mono (by have := H5.out.lo.1; have := H5.out.b.lt; omega)))
  clear H5 F5 K5 HB5 hd q2
  generalize World.drew w5 = w6 at *
  go_wp2_with fail
  have q0 := F6.out.c 0 rfl
  have k4 := H6.out.b.c 4 rfl
  go_quiet ((go_at_call 57; exact Calls.quiet_of_same ((Tryd.slices_Contains_int_empty _ _ _ _).mono fun _ _ h => ⟨h.1, h.2⟩)))
  have hd := show Below w6.heap.size w6 (w6.drewN nq) from below_drewN (Below.refl _ _) nq
  have H7 := Lib.hid (H6.out.next hd)
  have F7 := Lib.hid (F6.out.next hd)
  have HB7 := Lib.hid (HB6.out.trans (hd.mono (by have := H6.out.lo.1; have := H6.out.b.lt; omega)))
  clear H6 F6 K6 HB6 hd q0 k4
  generalize w6.drewN nq = w7 at *
  have s0 := F7.out.c 0 rfl
  have s1 := F7.out.c 1 rfl
  have s2 := F7.out.c 2 rfl
  have s3 := F7.out.c 3 rfl
  have hI := insNil_any ⟨5, 0, 1, [97, 98]⟩ w7.heap.size 1 (w7.alloc (Obj.cells #[.int .i64 5, .int .i64 0, .int .i64 1, .string (bs [97, 98])] 32)) (Bx.newF w7 32 ⟨5, 0, 1, [97, 98]⟩)
  have HL7 : Hid (B ≤ w7.heap.size) := Lib.hid (by have := H7.out.lo.1; have := H7.out.b.lt; omega)
  have HN : Hid (∀ g, (w7.alloc (Obj.cells #[.int .i64 5, .int .i64 0, .int .i64 1, .string (bs [97, 98])] 32)).heap.size ≤ g → ¬ (g = c ∨ g = m)) := Lib.hid (fun g hg e => by
    have h1 := H7.out.b.lt
    have h2 := H7.out.mp.lt
    have h3 := (ab1 w7 (Obj.cells #[.int .i64 5, .int .i64 0, .int .i64 1, .string (bs [97, 98])] 32)).size
    omega)
  have HBX : Hid (B ≤ (w7.alloc (Obj.cells #[.int .i64 5, .int .i64 0, .int .i64 1, .string (bs [97, 98])] 32)).heap.size) := Lib.hid (Nat.le_trans HL7.out (ab1 w7 _).size)
  have HC : Hid (∀ W, A0 B W c m → B ≤ W.heap.size) := Lib.hid (fun W h => by have := h.lo.1; have := h.b.lt; omega)
  go_wp2_with (first
    | (go_at_call 58; refine hI.mono ?_; clear hI; rintro e w8 ⟨g8, c8, rfl, ho8, hb8⟩; have hb8 := Below.next (ab1 w7 _) hb8; have H8 := Lib.hid (H7.out.next hb8); have F8 := F7.out.next hb8; clear s0 s1 s2 s3; have r0 := F8.c 0 rfl; have r2 := F8.c 2 rfl; have HB8 := Lib.hid (HB7.out.trans (hb8.mono HL7.out)); have HO8 := Lib.hid ho8)
    | (go_at_call 60; refine (complete0_any B w8 c m H8.out (HC.out _ H8.out)).mono ?_; rintro e w9 ⟨rfl, hb9⟩; have HO9 := Lib.hid (show OwF B w9 (.slice (some ⟨g8, 0, none⟩) 1 c8) [⟨5, 0, 1, [97, 98]⟩] from own_mono (own_blk HO8.out (fun g e => hb9.blk g (HO8.out.lt g e).2 (HN.out g (HO8.out.lt g e).1))) HBX.out))
    | (go_at_call 61; refine (join_any B _ [⟨5, 0, 1, [97, 98]⟩] _ HO9.out (by decide) (by decide)).mono ?_; rintro e w10 ⟨rfl, hb10⟩))
  go_ret3
  exact ⟨rfl, (HB8.out.trans (hb9.below (HC.out _ H8.out) (fun i e => e.elim (fun e => by rw [e]; exact H8.out.lo.1) (fun e => by rw [e]; exact H8.out.lo.2)))).trans (hb10.mono (Nat.le_trans (HC.out _ H8.out) hb9.size))⟩
def awP : Pc := ⟨4, 0, 1, 2, 3, 0, 1, 4, 0, [], []⟩
theorem awP_enc : encP awP = ([4, 0, 1, 2, 3, 0, 1, 4, 0], 0) := by
  unfold encP
  rw [if_pos (by decide)]
  unfold enc nb
  simp [awP, nrs, nrB, nrS, nrF, lid, Pc.num, uv_small]
set_option maxRecDepth 100000 in
set_option maxHeartbeats 4000000 in
theorem awake_any (w : World) : Calls Tryd.prog 7 #[] w (Ib (.bool true) w) := by
  have cE := encode_any awP (.slice none 0 0) w ⟨none, 0, rfl, .inl rfl⟩ (by decide) (by decide)
  rw [awP_enc] at cE
  unfold Pc.val Pc.cells awP at cE
  simp only [List.toArray] at cE
  have hs1 : ((bs [4, 0, 1, 2, 3, 0, 1, 4, 0]).toList == [4, 0, 1, 2, 3, 0, 1, 4, 0]) = true := by rw [toList_bs]; rfl
  go_enter Tryd.func7, Tryd.ntmps7
  go_wp2_with (first
    | (go_at_call 9; refine cE.mono ?_; rintro e w1 ⟨rfl, hb1⟩)
    | (go_at_call 18; refine (newA_any _).mono ?_; rintro e w2 ⟨c, m, rfl, hb2, h2⟩)
    | (go_at_call 21; refine (add0_any _ _ _ _ h2 hb2.size).mono ?_; rintro e w3 ⟨rfl, hb3⟩))
  go_ret
  exact ⟨by rw [toList_bs]; rfl, (Below.next hb1 hb2).trans (hb3.mono hb1.size)⟩
end Go.Proofs.YtcjaaijohapeaaaDoor
/-
  The encoding of a fragment: Frame, both. No conditions beyond those that each names.
-/
namespace Go.Proofs.YtcjaaijohapeaaaDoor
open Go.RowKit Go.Sort Go.Lib Go.Shelf
/-- The bytes of a fragment. -/
def fby (x : Fg) : List UInt8 := (uv x.id.toNat ++ uv x.ix.toNat) ++ uv x.ct.toNat ++ tv x.dat
/-- What Frame returns. -/
def fr (x : Fg) : List UInt8 := if fvB x = true then seal_ (fby x) else []
theorem fv_rng {x : Fg} (h : fvB x = true) : (0 ≤ x.id ∧ x.id ≤ 1099511627776) ∧ (1 ≤ x.ct ∧ x.ct ≤ 64) ∧ (0 ≤ x.ix ∧ x.ix ≤ x.ct - 1) ∧ x.dat.length ≤ 4000 := by
  unfold fvB inB at h
  simp only [Bool.and_eq_true, decide_eq_true_eq] at h
  omega
set_option maxRecDepth 100000 in
set_option maxHeartbeats 4000000 in
theorem frame_any (x : Fg) (w : World) (hd : x.dat.length ≤ 1000000) (hT : Tabs w) : Calls Tryd.prog 11 #[x.val] w (Ib (.string (bs (fr x))) w) := by
  have hb := ab1 w (Obj.cells #[.int .i64 x.id, .int .i64 x.ix, .int .i64 x.ct, .string (bs x.dat)] 32)
  have F0 := Bx.newF w 32 x
  have cV := fun W => isValid_any x W (by omega)
  unfold Fg.val at cV
  show Calls _ _ #[.agg #[.int .i64 x.id, .int .i64 x.ix, .int .i64 x.ct, .string (bs x.dat)]] w _
  cases hv : fvB x
  · have HR : Hid (fr x = []) := Lib.hid (by unfold fr; rw [hv]; rfl)
    rw [hv] at cV
    rw [HR.out]
    go_enter Tryd.func11, Tryd.ntmps11
    go_wp2_with (go_at_call 37; refine (cV _).mono ?_; rintro e w1 ⟨rfl, hb1⟩)
    go_ret
    exact ⟨rfl, Below.next hb hb1⟩
  · have HR : Hid (fr x = seal_ (fby x)) := Lib.hid (by unfold fr; rw [hv]; rfl)
    have hr := fv_rng hv
    rw [hv] at cV
    rw [HR.out]
    have hw0 : IntKind.u64.wrap x.id = ((x.id.toNat : Nat) : Int) := by rw [IntKind.wrap_u64]; omega
    have hw1 : IntKind.u64.wrap x.ix = ((x.ix.toNat : Nat) : Int) := by rw [IntKind.wrap_u64]; omega
    have hw2 : IntKind.u64.wrap x.ct = ((x.ct.toNat : Nat) : Int) := by rw [IntKind.wrap_u64]; omega
    have n0 : Hid (x.id.toNat ≤ 18446744073709551615) := Lib.hid (by omega)
    have n1 : Hid (x.ix.toNat ≤ 18446744073709551615) := Lib.hid (by omega)
    have n2 : Hid (x.ct.toNat ≤ 18446744073709551615) := Lib.hid (by omega)
    have HD := Lib.hid hr.2.2.2
    have HF : Hid (fby x = (uv x.id.toNat ++ uv x.ix.toNat) ++ uv x.ct.toNat ++ tv x.dat) := Lib.hid rfl
    clear hr hv HR
    generalize fby x = by_ at *
    obtain ⟨id, ix, ct, dat⟩ := x
    simp only at hw0 hw1 hw2 n0 n1 n2 HD HF hd ⊢
    generalize id.toNat = a0 at *
    generalize ix.toNat = a1 at *
    generalize ct.toNat = a2 at *
    have s0 : (bs (uv a0)).size ≤ 10 := uv_len10 n0.out
    have s1 : (bs (uv a1)).size ≤ 10 := uv_len10 n1.out
    have s2 : (bs (uv a2)).size ≤ 10 := uv_len10 n2.out
    have e1 : bs (uv a0) ++ bs (uv a1) = bs (uv a0 ++ uv a1) := bs_append _ _
    have e2 : bs (uv a0 ++ uv a1) ++ bs (uv a2) = bs (uv a0 ++ uv a1 ++ uv a2) := bs_append _ _
    have e3 : bs (uv a0 ++ uv a1 ++ uv a2) ++ bs (tv dat) = bs by_ := by rw [bs_append, ← HF.out]
    have s3 : (bs (uv a0 ++ uv a1)).size ≤ 20 := by rw [bs_size, List.length_append]; rw [bs_size] at s0 s1; omega
    have s4 : (bs (uv a0 ++ uv a1 ++ uv a2)).size ≤ 30 := by rw [bs_size, List.length_append]; rw [bs_size] at s2 s3; omega
    have s5 : (bs (tv dat)).size ≤ 4010 := by rw [bs_size]; unfold tv; rw [List.length_append]; have := uv_len10 (n := dat.length) (by have := HD.out; omega); have := HD.out; omega
    have HS : Hid (by_.length ≤ 5000) := Lib.hid (by rw [HF.out, List.length_append]; rw [bs_size] at s4 s5; omega)
    have cT := fun W => textW_any dat W (by have := HD.out; omega)
    have HT1 := Lib.hid (hT.below hb)
    clear HF hd HD
    generalize uv a0 ++ uv a1 ++ uv a2 = p3 at *
    generalize uv a0 ++ uv a1 = p2 at *
    go_enter Tryd.func11, Tryd.ntmps11
    go_wp2_with (go_at_call 37; refine (cV _).mono ?_; rintro e w1 ⟨rfl, hb1⟩; have F1 := F0.next hb1; have HT2 := Lib.hid (HT1.out.below hb1); have hb2 := Below.next hb hb1)
    have q0 := F1.c 0 rfl
    have q1 := F1.c 1 rfl
    have q2 := F1.c 2 rfl
    have r0 := fun d os => cell_regrown q0 d os
    have r1 := fun d os => cell_regrown q1 d os
    have r2 := fun d os => cell_regrown q2 d os
    have fl := F1.lt
    have cU := fun (n : Nat) (hn : Hid (n ≤ 18446744073709551615)) d os => Calls.regrown_of (uint_any n (grow (redrawn w1 d) os) hn.out)
    have HF1 := Lib.hid F1
    clear F1 F0 cV hb1 HT1 hb
    refine wp_region_quiet_below (by kernel_rfl) (by kernel_rfl) ?_
    repeat (go_big_quiet_step (exact cU _ (by assumption) _ _))
    refine wpQuiet_nil ?_
    intro _ hw'
    obtain ⟨⟨dq, osq⟩, hw''⟩ := hw'
    subst hw''
    have hbq := below_regrown w1 dq osq
    clear r0 r1 r2 q0 q1 q2
    have F2 := HF1.out.next hbq
    have HT3 := Lib.hid (HT2.out.below hbq)
    generalize grow (redrawn w1 dq) osq = w2 at *
    have q3 := F2.c 3 rfl
    have hb3 := Below.next hb2 hbq
    clear hbq hb2 F2 cU
    go_wp2_with (first
      | (go_at_call 31; refine (cT _).mono ?_; rintro e w3 ⟨rfl, hb4⟩; have HT4 := Lib.hid (HT3.out.below hb4))
      | (go_at_call 38; refine (seal_any _ _ (by have := HS.out; omega) HT4.out).mono ?_; rintro e w4 ⟨rfl, hb5⟩))
    go_ret
    exact ⟨rfl, Below.next (Below.next hb3 hb4) hb5⟩
end Go.Proofs.YtcjaaijohapeaaaDoor
/-
  The encoding of a fragment: the reference's Frame. No conditions beyond those that each names.
-/
namespace Go.Proofs.YtcjaaijohapeaaaDoor
open Go.RowKit Go.Sort Go.Lib Go.Shelf
set_option maxRecDepth 100000 in
theorem refNum_any (n : Int) (w : World) (h : 0 ≤ n ∧ n ≤ 9223372036854775807) : Calls Tryd.prog 41 #[.bool true, .int .i64 n] w (Ib (.string (bs (uv n.toNat))) w) := by
  have hw : IntKind.u64.wrap n = ((n.toNat : Nat) : Int) := by rw [IntKind.wrap_u64]; omega
  have cU := fun W => refUint_any n.toNat W (by omega)
  clear h
  generalize n.toNat = m at *
  go_enter Tryd.func41, Tryd.ntmps41
  go_wp2_with (go_at_call 75; refine (cU _).mono ?_; rintro e w1 ⟨rfl, hb1⟩)
  go_ret
  exact ⟨rfl, hb1⟩
set_option maxRecDepth 100000 in
set_option maxHeartbeats 4000000 in
theorem refFrame_any (x : Fg) (w : World) (hd : x.dat.length ≤ 1000000) : Calls Tryd.prog 14 #[x.val] w (Ib (.string (bs (fr x))) w) := by
  have hb := ab1 w (Obj.cells #[.int .i64 x.id, .int .i64 x.ix, .int .i64 x.ct, .string (bs x.dat)] 32)
  have F0 := Bx.newF w 32 x
  have cV := fun W => refValid_any x W (by omega)
  unfold Fg.val at cV
  show Calls _ _ #[.agg #[.int .i64 x.id, .int .i64 x.ix, .int .i64 x.ct, .string (bs x.dat)]] w _
  cases hv : fvB x
  · have HR : Hid (fr x = []) := Lib.hid (by unfold fr; rw [hv]; rfl)
    rw [hv] at cV
    rw [HR.out]
    go_enter Tryd.func14, Tryd.ntmps14
    go_wp2_with (go_at_call 16; refine (cV _).mono ?_; rintro e w1 ⟨rfl, hb1⟩)
    go_ret
    exact ⟨rfl, Below.next hb hb1⟩
  · have HR : Hid (fr x = seal_ (fby x)) := Lib.hid (by unfold fr; rw [hv]; rfl)
    have hr := fv_rng hv
    rw [hv] at cV
    rw [HR.out]
    have n0 : Hid (0 ≤ x.id ∧ x.id ≤ 9223372036854775807) := Lib.hid (by omega)
    have n1 : Hid (0 ≤ x.ix ∧ x.ix ≤ 9223372036854775807) := Lib.hid (by omega)
    have n2 : Hid (0 ≤ x.ct ∧ x.ct ≤ 9223372036854775807) := Lib.hid (by omega)
    have HD := Lib.hid hr.2.2.2
    have HF : Hid (fby x = (uv x.id.toNat ++ uv x.ix.toNat) ++ uv x.ct.toNat ++ tv x.dat) := Lib.hid rfl
    clear hr hv HR
    generalize fby x = by_ at *
    obtain ⟨id, ix, ct, dat⟩ := x
    simp only at n0 n1 n2 HD HF hd ⊢
    have s0 : (bs (uv id.toNat)).size ≤ 10 := uv_len10 (by have := n0.out; omega)
    have s1 : (bs (uv ix.toNat)).size ≤ 10 := uv_len10 (by have := n1.out; omega)
    have s2 : (bs (uv ct.toNat)).size ≤ 10 := uv_len10 (by have := n2.out; omega)
    have e1 : bs (uv id.toNat) ++ bs (uv ix.toNat) = bs (uv id.toNat ++ uv ix.toNat) := bs_append _ _
    have e2 : bs (uv id.toNat ++ uv ix.toNat) ++ bs (uv ct.toNat) = bs (uv id.toNat ++ uv ix.toNat ++ uv ct.toNat) := bs_append _ _
    have e3 : bs (uv id.toNat ++ uv ix.toNat ++ uv ct.toNat) ++ bs (tv dat) = bs by_ := by rw [bs_append, ← HF.out]
    have s3 : (bs (uv id.toNat ++ uv ix.toNat)).size ≤ 20 := by rw [bs_size, List.length_append]; rw [bs_size] at s0 s1; omega
    have s4 : (bs (uv id.toNat ++ uv ix.toNat ++ uv ct.toNat)).size ≤ 30 := by rw [bs_size, List.length_append]; rw [bs_size] at s2 s3; omega
    have s5 : (bs (tv dat)).size ≤ 4010 := by rw [bs_size]; unfold tv; rw [List.length_append]; have := uv_len10 (n := dat.length) (by have := HD.out; omega); have := HD.out; omega
    have HS : Hid (by_.length ≤ 5000) := Lib.hid (by rw [HF.out, List.length_append]; rw [bs_size] at s4 s5; omega)
    clear HF hd
    generalize uv id.toNat ++ uv ix.toNat ++ uv ct.toNat = p3 at *
    generalize uv id.toNat ++ uv ix.toNat = p2 at *
    go_enter Tryd.func14, Tryd.ntmps14
    go_wp2_with (go_at_call 16; refine (cV _).mono ?_; rintro e w1 ⟨rfl, hb1⟩; have F1 := F0.next hb1; have hb2 := Below.next hb hb1)
    have q0 := F1.c 0 rfl
    have q1 := F1.c 1 rfl
    have q2 := F1.c 2 rfl
    have q3 := F1.c 3 rfl
    have r0 := fun d os => cell_regrown q0 d os
    have r1 := fun d os => cell_regrown q1 d os
    have r2 := fun d os => cell_regrown q2 d os
    have r3 := fun d os => cell_regrown q3 d os
    have fl := F1.lt
    have cN := fun (n : Int) (hn : Hid (0 ≤ n ∧ n ≤ 9223372036854775807)) d os => Calls.regrown_of (refNum_any n (grow (redrawn w1 d) os) hn.out)
    have cT := fun d os => Calls.regrown_of (refText_any dat (grow (redrawn w1 d) os) (by have := HD.out; omega))
    have cS := fun d os => Calls.regrown_of (refSeal_any by_ (grow (redrawn w1 d) os) (by have := HS.out; omega))
    clear F1 F0 cV hb1 hb
    refine wp_region_quiet_below (by kernel_rfl) (by kernel_rfl) ?_
    repeat (go_big_quiet_step (first | (go_at_call 41; exact cN _ (by assumption) _ _) | (go_at_call 42; exact cT _ _) | (go_at_call 40; exact cS _ _)))
    refine wpQuiet_nil ?_
    intro _ hw'
    obtain ⟨⟨dq, osq⟩, hw''⟩ := hw'
    subst hw''
    have hbq := below_regrown w1 dq osq
    clear r0 r1 r2 r3 q0 q1 q2 q3
    generalize grow (redrawn w1 dq) osq = w2 at *
    have hb3 := Below.next hb2 hbq
    clear hbq hb2 cN cT cS
    go_wp2_with fail
    go_ret
    exact ⟨rfl, hb3⟩
end Go.Proofs.YtcjaaijohapeaaaDoor
/-
  Reading a varint: the mathematics, and the contracts of the program's and of the reference's function. No conditions but Go's own bound of a string's length.
-/
namespace Go.Proofs.YtcjaaijohapeaaaDoor
open Go.RowKit
/-- Reading a varint from byte i on, with n read so far: the number, the bytes, the error. -/
def dv : Nat → Nat → List UInt8 → Nat × Nat × Nat
  | _, _, [] => (0, 0, 1)
  | i, n, b :: r =>
    if i = 9 ∧ 1 < b.toNat then (0, 0, 2)
    else if 128 ≤ b.toNat then dv (i + 1) (n + b.toNat % 128 * 128 ^ i) r
    else if b.toNat = 0 ∧ 0 < i then (0, 0, 2)
    else (n + b.toNat % 128 * 128 ^ i, i + 1, 0)
theorem dv_at (i n : Nat) (l : List UInt8) (h : i < l.length) : dv i n (l.drop i) =
    if i = 9 ∧ 1 < l[i].toNat then (0, 0, 2)
    else if 128 ≤ l[i].toNat then dv (i + 1) (n + l[i].toNat % 128 * 128 ^ i) (l.drop (i + 1))
    else if l[i].toNat = 0 ∧ 0 < i then (0, 0, 2)
    else (n + l[i].toNat % 128 * 128 ^ i, i + 1, 0) := by
  rw [List.drop_eq_getElem_cons h, dv]
theorem dv_end (i n : Nat) (l : List UInt8) (h : i = l.length) : dv i n (l.drop i) = (0, 0, 1) := by
  rw [h, List.drop_length, dv]
theorem andNot128 (c : Nat) (h : c < 256) : bits BinOp.andNot IntKind.u8 (c : Int) 128 = ((c % 128 : Nat) : Int) := by
  rw [show (128 : Int) = ((128 : Nat) : Int) by rfl, u8_andNot_nat c 128 h (by decide), show 255 - 128 = 2 ^ 7 - 1 by rfl, Nat.and_two_pow_sub_one_eq_mod]
theorem and128 (c : Nat) (h : c < 256) : bits BinOp.and IntKind.u8 (c : Int) 128 = ((c / 128 * 128 : Nat) : Int) := by
  have key : ∀ b : Fin 256, (b.val &&& 128) = b.val / 128 * 128 := by decide +kernel
  rw [show (128 : Int) = ((128 : Nat) : Int) by rfl, u8_and_nat c 128 h (by decide)]
  exact congrArg _ (key ⟨c, h⟩)
theorem or_add (n m i : Nat) (h : n < 128 ^ i) (hm : m < 128) (hi : i ≤ 9) (h9 : i = 9 → m ≤ 1) : bits BinOp.or IntKind.u64 (n : Int) ((m * 128 ^ i : Nat) : Int) = ((n + m * 128 ^ i : Nat) : Int) := by
  have e : 128 ^ i = 2 ^ (7 * i) := by rw [Nat.pow_mul]
  have b1 : 128 ^ i ≤ 128 ^ 9 := Nat.pow_le_pow_right (by decide) hi
  have b2 : m * 128 ^ i < 18446744073709551616 := by
    rcases Nat.lt_or_ge i 9 with h8 | h8
    · have := Nat.mul_lt_mul_of_lt_of_le hm (Nat.pow_le_pow_right (n := 128) (by decide) (show i ≤ 8 by omega)) (by decide)
      omega
    · have := Nat.mul_le_mul (h9 (by omega)) b1
      omega
  rw [u64_or_nat _ _ (by omega) b2]
  congr 1
  rw [e] at h ⊢
  rw [Nat.or_comm, Nat.mul_comm, ← Nat.two_pow_add_eq_or_of_lt h]
  omega
theorem or_lt (n m i : Nat) (h : n < 128 ^ i) (hm : m < 128) (hi : i ≤ 9) (h9 : i = 9 → m ≤ 1) : n + m * 128 ^ i < 18446744073709551616 := by
  rcases Nat.lt_or_ge i 9 with h8 | h8
  · have b1 : 128 ^ (i + 1) ≤ 128 ^ 9 := Nat.pow_le_pow_right (by decide) h8
    have := Nat.mul_le_mul_right (128 ^ i) (show m ≤ 127 by omega)
    rw [Nat.pow_succ] at b1
    omega
  · obtain rfl : i = 9 := by omega
    have := Nat.mul_le_mul_right (128 ^ 9) (h9 rfl)
    omega
theorem or_lt2 (n m i : Nat) (h : n < 128 ^ i) (hm : m < 128) : n + m * 128 ^ i < 128 ^ (i + 1) := by
  have := Nat.mul_le_mul_right (128 ^ i) (show m ≤ 127 by omega)
  rw [Nat.pow_succ]
  omega
theorem nilR {l : List UInt8} {k e : Nat} {R : ByteArray} (h : bs (if e = 0 then l.drop k else []) = R) (he : e ≠ 0) : (⟨#[]⟩ : ByteArray) = R := by rw [if_neg he] at h; exact h
theorem Nat.pow_mul_eq (i : Nat) : 128 ^ i = 2 ^ (7 * i) := by rw [Nat.pow_mul]
set_option maxRecDepth 100000 in
set_option maxHeartbeats 1000000 in
theorem cutVarint_any (l : List UInt8) (w : World) (x k e : Nat) (R : ByteArray) (hl : l.length ≤ 9223372036854775807) (h : dv 0 0 l = (x, k, e)) (hR : bs (if e = 0 then l.drop k else []) = R) :
    Calls Tryd.prog 90 #[.string (bs l)] w (Iq (.tuple #[.int .u64 (x : Int), .string R, .int .i64 (e : Int)]) w) := by
  have hsz : (bs l).size = l.length := rfl
  have HR := Lib.hid hR
  clear hR
  go_enter Tryd.func90, Tryd.ntmps90
  go_wp2_with fail
  go_loop [2, 9] (fun u v => ∃ i n : Nat, i ≤ 9 ∧ v = .int .i64 (i : Int) ∧ u = .int .u64 (n : Int) ∧ i ≤ l.length ∧ Hid (n < 128 ^ i ∧ dv i n (l.drop i) = (x, k, e))) (fun _ v => l.length - (intOf v).toNat)
  case atStart => exact ⟨0, 0, by omega, rfl, rfl, by omega, Lib.hid ⟨by decide, h⟩⟩
  case round =>
    obtain ⟨i, n, hi, rfl, rfl, hil, hI⟩ := hrel
    by_cases hlt : i < l.length
    · obtain ⟨c, hc2⟩ : ∃ c, (l[i]'hlt).toNat = c := ⟨_, rfl⟩
      have hc3 : c < 256 := by rw [← hc2]; exact UInt8.toNat_lt _
      have E := hI.out.2
      rw [dv_at i n l hlt, hc2] at E
      have hlt2 : i < (bs l).size := hlt
      have hc : ((bs l)[i]'hlt2).toNat = c := hc2
      have hb := hI.out.1
      obtain ⟨m, hm⟩ : ∃ m, c % 128 = m := ⟨_, rfl⟩
      obtain ⟨y, hy⟩ : ∃ y, m * 128 ^ i = y := ⟨_, rfl⟩
      obtain ⟨s, hs⟩ : ∃ s, n + y = s := ⟨_, rfl⟩
      have h9 : (((i : Int) == 9) = true ∧ Hid (i = 9)) ∨ (((i : Int) == 9) = false ∧ Hid (i < 9)) := by
        by_cases h : i = 9
        · exact .inl ⟨by simp; omega, Lib.hid h⟩
        · exact .inr ⟨by simp; omega, Lib.hid (by omega)⟩
      have k0 : IntKind.u64.wrap (m : Int) = (m : Int) := by rw [IntKind.wrap_u64]; omega
      have k1 : bits BinOp.andNot IntKind.u8 (c : Int) 128 = (m : Int) := by rw [← hm]; exact andNot128 c hc3
      have k23 : (i = 9 → c ≤ 1) → IntKind.u64.wrap ((m : Int) * 2 ^ (7 * i)) = (y : Int) ∧ bits BinOp.or IntKind.u64 (n : Int) (y : Int) = (s : Int) := fun h => by
        have h3 := or_add n m i hb (by omega) hi (fun h1 => by have := h h1; omega)
        have h4 := or_lt n m i hb (by omega) hi (fun h1 => by have := h h1; omega)
        rw [hy] at h3 h4
        rw [hs] at h3
        refine ⟨?_, h3⟩
        rw [show (m : Int) * 2 ^ (7 * i) = (y : Int) by rw [← hy, Nat.pow_mul_eq i]; simp, IntKind.wrap_u64]
        omega
      rw [hm, hy, hs] at E
      by_cases hA : i = 9 ∧ 1 < c
      · rw [if_pos hA] at E
        cases E
        obtain ⟨hA1, hA2⟩ := hA
        have d1 : decide ((1 : Int) < (c : Int)) = true := by simp; omega
        have d9 : ((i : Int) == 9) = true := by simp; omega
        clear h9 k1 k23 hm hy hs hA1 hb hI
        have Z := nilR HR.out (by decide)
        go_wp2_with fail
        go_ret3
        exact ⟨0, rfl, rfl⟩
      · rw [if_neg hA] at E
        obtain ⟨k2, k3⟩ := k23 (fun h => by omega)
        have hA2 : ((i : Int) == 9) = false ∨ (((i : Int) == 9) = true ∧ decide ((1 : Int) < (c : Int)) = false) := by
          by_cases h : i = 9
          · exact .inr ⟨by simp; omega, by simp; omega⟩
          · exact .inl (by simp; omega)
        have hb2 := Lib.hid (show s < 128 ^ (i + 1) from by rw [← hs, ← hy]; exact or_lt2 n m i hb (by omega))
        clear k23 hb hI h9
        by_cases hB : 128 ≤ c
        · rw [if_pos hB] at E
          have d9 : ((i : Int) == 9) = false := by rcases hA2 with h | h; exact h; have h2 := h.2; simp at h2; omega
          have k4 : bits BinOp.and IntKind.u8 (c : Int) 128 = 128 := by rw [and128 c hc3]; omega
          have hi9 : i + 1 ≤ 9 := by simp at d9; omega
          have E2 := Lib.hid (And.intro hb2.out E)
          clear hm hy hs hA hA2 hB hc2 E hb2
          go_wp2_with fail
          go_round
          case rel => exact ⟨i + 1, s, hi9, by go_num, rfl, by omega, E2⟩
          case measure => simp [intOf]; omega
        · rw [if_neg hB] at E
          have k4 : bits BinOp.and IntKind.u8 (c : Int) 128 = 0 := by rw [and128 c hc3]; omega
          by_cases hC : c = 0 ∧ 0 < i
          · rw [if_pos hC] at E
            cases E
            have dz : ((c : Int) == 0) = true := by simp; omega
            have dz2 : (c = 0) = True := by simp; omega
            have d0 : (0 < i) = True := by simp; omega
            have Z := nilR HR.out (by decide)
            clear hm hy hs hA hC hB hc2 hb2 HR h
            rcases hA2 with d9 | ⟨d9, d1⟩
            all_goals
              go_wp2_with fail
              go_ret3
              exact ⟨0, rfl, rfl⟩
          · rw [if_neg hC] at E
            cases E
            have hC2 : (c = 0) = False ∨ ((c = 0) = True ∧ (0 < i) = False) := by
              by_cases h : c = 0
              · exact .inr ⟨by simp; omega, by simp; omega⟩
              · exact .inl (by simp; omega)
            have Z : (bs l).extract (i + 1) l.length = R := by
              have := HR.out
              rw [if_pos rfl] at this
              rw [← this]
              exact bs_drop _ _ _ (Nat.le_refl _)
            have hi1 : i + 1 ≤ l.length := hlt
            clear hm hy hs hA hC hB hc2 hb2 HR h
            rcases hA2 with d9 | ⟨d9, d1⟩ <;> rcases hC2 with dz | ⟨dz, d0⟩
            all_goals
              go_wp2_with fail
              go_quiet (fail)
              go_wp2_with fail
              go_ret3
              exact ⟨_, rfl, rfl⟩
    · obtain rfl : i = l.length := by omega
      have E := hI.out.2
      rw [dv_end _ _ _ rfl] at E
      cases E
      have Z := nilR HR.out (by decide)
      clear HR h hI
      go_wp2_with fail
      go_ret3
      exact ⟨0, rfl, rfl⟩
end Go.Proofs.YtcjaaijohapeaaaDoor

import Derived.Test.YtcjaaijohapeaaaDoorFa
/-
  The encoding of a fragment: the reference's Frame. No conditions beyond those that each names.
-/
namespace Go.Proofs.YtcjaaijohapeaaaDoor
open Go.RowKit Go.Sort Go.Lib Go.Shelf
set_option maxRecDepth 100000 in
theorem refNum_any (n : Int) (w : World) (h : 0 ≤ n ∧ n ≤ 9223372036854775807) : Calls Tryd.prog 41 #[.bool true, .int .i64 n] w (Ib (.string (bs (uv n.toNat))) w) := by
  have hw : IntKind.u64.wrap n = ((n.toNat : Nat) : Int) := by rw [IntKind.wrap_u64]; omega
  have cU := fun W => refUint_any n.toNat W (by omega)
  clear h
  generalize n.toNat = m at *
  go_enter Tryd.func41, Tryd.ntmps41
  go_wp2_with (go_at_call 75; refine (cU _).mono ?_; rintro e w1 ⟨rfl, hb1⟩)
  go_ret
  exact ⟨rfl, hb1⟩
set_option maxRecDepth 100000 in
set_option maxHeartbeats 4000000 in
theorem refFrame_any (x : Fg) (w : World) (hd : x.dat.length ≤ 1000000) : Calls Tryd.prog 14 #[x.val] w (Ib (.string (bs (fr x))) w) := by
  have hb := ab1 w (Obj.cells #[.int .i64 x.id, .int .i64 x.ix, .int .i64 x.ct, .string (bs x.dat)] 32)
  have F0 := Bx.newF w 32 x
  have cV := fun W => refValid_any x W (by omega)
  unfold Fg.val at cV
  show Calls _ _ #[.agg #[.int .i64 x.id, .int .i64 x.ix, .int .i64 x.ct, .string (bs x.dat)]] w _
  cases hv : fvB x
  · have HR : Hid (fr x = []) := Lib.hid (by unfold fr; rw [hv]; rfl)
    rw [hv] at cV
    rw [HR.out]
    go_enter Tryd.func14, Tryd.ntmps14
    go_wp2_with (go_at_call 16; refine (cV _).mono ?_; rintro e w1 ⟨rfl, hb1⟩)
    go_ret
    exact ⟨rfl, Below.next hb hb1⟩
  · have HR : Hid (fr x = seal_ (fby x)) := Lib.hid (by unfold fr; rw [hv]; rfl)
    have hr := fv_rng hv
    rw [hv] at cV
    rw [HR.out]
    have n0 : Hid (0 ≤ x.id ∧ x.id ≤ 9223372036854775807) := Lib.hid (by omega)
    have n1 : Hid (0 ≤ x.ix ∧ x.ix ≤ 9223372036854775807) := Lib.hid (by omega)
    have n2 : Hid (0 ≤ x.ct ∧ x.ct ≤ 9223372036854775807) := Lib.hid (by omega)
    have HD := Lib.hid hr.2.2.2
    have HF : Hid (fby x = (uv x.id.toNat ++ uv x.ix.toNat) ++ uv x.ct.toNat ++ tv x.dat) := Lib.hid rfl
    clear hr hv HR
    generalize fby x = by_ at *
    obtain ⟨id, ix, ct, dat⟩ := x
    simp only at n0 n1 n2 HD HF hd ⊢
    have s0 : (bs (uv id.toNat)).size ≤ 10 := uv_len10 (by have := n0.out; omega)
    have s1 : (bs (uv ix.toNat)).size ≤ 10 := uv_len10 (by have := n1.out; omega)
    have s2 : (bs (uv ct.toNat)).size ≤ 10 := uv_len10 (by have := n2.out; omega)
    have e1 : bs (uv id.toNat) ++ bs (uv ix.toNat) = bs (uv id.toNat ++ uv ix.toNat) := bs_append _ _
    have e2 : bs (uv id.toNat ++ uv ix.toNat) ++ bs (uv ct.toNat) = bs (uv id.toNat ++ uv ix.toNat ++ uv ct.toNat) := bs_append _ _
    have e3 : bs (uv id.toNat ++ uv ix.toNat ++ uv ct.toNat) ++ bs (tv dat) = bs by_ := by rw [bs_append, ← HF.out]
    have s3 : (bs (uv id.toNat ++ uv ix.toNat)).size ≤ 20 := by rw [bs_size, List.length_append]; rw [bs_size] at s0 s1; omega
    have s4 : (bs (uv id.toNat ++ uv ix.toNat ++ uv ct.toNat)).size ≤ 30 := by rw [bs_size, List.length_append]; rw [bs_size] at s2 s3; omega
    have s5 : (bs (tv dat)).size ≤ 4010 := by rw [bs_size]; unfold tv; rw [List.length_append]; have := uv_len10 (n := dat.length) (by have := HD.out; omega); have := HD.out; omega
    have HS : Hid (by_.length ≤ 5000) := Lib.hid (by rw [HF.out, List.length_append]; rw [bs_size] at s4 s5; omega)
    clear HF hd
    generalize uv id.toNat ++ uv ix.toNat ++ uv ct.toNat = p3 at *
    generalize uv id.toNat ++ uv ix.toNat = p2 at *
    go_enter Tryd.func14, Tryd.ntmps14
    go_wp2_with (go_at_call 16; refine (cV _).mono ?_; rintro e w1 ⟨rfl, hb1⟩; have F1 := F0.next hb1; have hb2 := Below.next hb hb1)
    have q0 := F1.c 0 rfl
    have q1 := F1.c 1 rfl
    have q2 := F1.c 2 rfl
    have q3 := F1.c 3 rfl
    have r0 := fun d os => cell_regrown q0 d os
    have r1 := fun d os => cell_regrown q1 d os
    have r2 := fun d os => cell_regrown q2 d os
    have r3 := fun d os => cell_regrown q3 d os
    have fl := F1.lt
    have cN := fun (n : Int) (hn : Hid (0 ≤ n ∧ n ≤ 9223372036854775807)) d os => Calls.regrown_of (refNum_any n (grow (redrawn w1 d) os) hn.out)
    have cT := fun d os => Calls.regrown_of (refText_any dat (grow (redrawn w1 d) os) (by have := HD.out; omega))
    have cS := fun d os => Calls.regrown_of (refSeal_any by_ (grow (redrawn w1 d) os) (by have := HS.out; omega))
    clear F1 F0 cV hb1 hb
    refine wp_region_quiet_below (by kernel_rfl) (by kernel_rfl) ?_
    repeat (go_big_quiet_step (first | (go_at_call 41; exact cN _ (by assumption) _ _) | (go_at_call 42; exact cT _ _) | (go_at_call 40; exact cS _ _)))
    refine wpQuiet_nil ?_
    intro _ hw'
    obtain ⟨⟨dq, osq⟩, hw''⟩ := hw'
    subst hw''
    have hbq := below_regrown w1 dq osq
    clear r0 r1 r2 r3 q0 q1 q2 q3
    generalize grow (redrawn w1 dq) osq = w2 at *
    have hb3 := Below.next hb2 hbq
    clear hbq hb2 cN cT cS
    go_wp2_with fail
    go_ret
    exact ⟨rfl, hb3⟩
end Go.Proofs.YtcjaaijohapeaaaDoor

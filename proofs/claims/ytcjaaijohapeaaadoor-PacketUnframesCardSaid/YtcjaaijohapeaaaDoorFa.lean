import Derived.Test.YtcjaaijohapeaaaDoorVd
import Derived.Test.YtcjaaijohapeaaaDoorEg
import Derived.Lib.QuietBelow
import Derived.BigQuiet
/-
  The encoding of a fragment: Frame, both. No conditions beyond those that each names.
-/
namespace Go.Proofs.YtcjaaijohapeaaaDoor
open Go.RowKit Go.Sort Go.Lib Go.Shelf
/-- The bytes of a fragment. -/
def fby (x : Fg) : List UInt8 := (uv x.id.toNat ++ uv x.ix.toNat) ++ uv x.ct.toNat ++ tv x.dat
/-- What Frame returns. -/
def fr (x : Fg) : List UInt8 := if fvB x = true then seal_ (fby x) else []
theorem fv_rng {x : Fg} (h : fvB x = true) : (0 ≤ x.id ∧ x.id ≤ 1099511627776) ∧ (1 ≤ x.ct ∧ x.ct ≤ 64) ∧ (0 ≤ x.ix ∧ x.ix ≤ x.ct - 1) ∧ x.dat.length ≤ 4000 := by
  unfold fvB inB at h
  simp only [Bool.and_eq_true, decide_eq_true_eq] at h
  omega
set_option maxRecDepth 100000 in
set_option maxHeartbeats 4000000 in
theorem frame_any (x : Fg) (w : World) (hd : x.dat.length ≤ 1000000) (hT : Tabs w) : Calls Tryd.prog 11 #[x.val] w (Ib (.string (bs (fr x))) w) := by
  have hb := ab1 w (Obj.cells #[.int .i64 x.id, .int .i64 x.ix, .int .i64 x.ct, .string (bs x.dat)] 32)
  have F0 := Bx.newF w 32 x
  have cV := fun W => isValid_any x W (by omega)
  unfold Fg.val at cV
  show Calls _ _ #[.agg #[.int .i64 x.id, .int .i64 x.ix, .int .i64 x.ct, .string (bs x.dat)]] w _
  cases hv : fvB x
  · have HR : Hid (fr x = []) := Lib.hid (by unfold fr; rw [hv]; rfl)
    rw [hv] at cV
    rw [HR.out]
    go_enter Tryd.func11, Tryd.ntmps11
    go_wp2_with (go_at_call 37; refine (cV _).mono ?_; rintro e w1 ⟨rfl, hb1⟩)
    go_ret
    exact ⟨rfl, Below.next hb hb1⟩
  · have HR : Hid (fr x = seal_ (fby x)) := Lib.hid (by unfold fr; rw [hv]; rfl)
    have hr := fv_rng hv
    rw [hv] at cV
    rw [HR.out]
    have hw0 : IntKind.u64.wrap x.id = ((x.id.toNat : Nat) : Int) := by rw [IntKind.wrap_u64]; omega
    have hw1 : IntKind.u64.wrap x.ix = ((x.ix.toNat : Nat) : Int) := by rw [IntKind.wrap_u64]; omega
    have hw2 : IntKind.u64.wrap x.ct = ((x.ct.toNat : Nat) : Int) := by rw [IntKind.wrap_u64]; omega
    have n0 : Hid (x.id.toNat ≤ 18446744073709551615) := Lib.hid (by omega)
    have n1 : Hid (x.ix.toNat ≤ 18446744073709551615) := Lib.hid (by omega)
    have n2 : Hid (x.ct.toNat ≤ 18446744073709551615) := Lib.hid (by omega)
    have HD := Lib.hid hr.2.2.2
    have HF : Hid (fby x = (uv x.id.toNat ++ uv x.ix.toNat) ++ uv x.ct.toNat ++ tv x.dat) := Lib.hid rfl
    clear hr hv HR
    generalize fby x = by_ at *
    obtain ⟨id, ix, ct, dat⟩ := x
    simp only at hw0 hw1 hw2 n0 n1 n2 HD HF hd ⊢
    generalize id.toNat = a0 at *
    generalize ix.toNat = a1 at *
    generalize ct.toNat = a2 at *
    have s0 : (bs (uv a0)).size ≤ 10 := uv_len10 n0.out
    have s1 : (bs (uv a1)).size ≤ 10 := uv_len10 n1.out
    have s2 : (bs (uv a2)).size ≤ 10 := uv_len10 n2.out
    have e1 : bs (uv a0) ++ bs (uv a1) = bs (uv a0 ++ uv a1) := bs_append _ _
    have e2 : bs (uv a0 ++ uv a1) ++ bs (uv a2) = bs (uv a0 ++ uv a1 ++ uv a2) := bs_append _ _
    have e3 : bs (uv a0 ++ uv a1 ++ uv a2) ++ bs (tv dat) = bs by_ := by rw [bs_append, ← HF.out]
    have s3 : (bs (uv a0 ++ uv a1)).size ≤ 20 := by rw [bs_size, List.length_append]; rw [bs_size] at s0 s1; omega
    have s4 : (bs (uv a0 ++ uv a1 ++ uv a2)).size ≤ 30 := by rw [bs_size, List.length_append]; rw [bs_size] at s2 s3; omega
    have s5 : (bs (tv dat)).size ≤ 4010 := by rw [bs_size]; unfold tv; rw [List.length_append]; have := uv_len10 (n := dat.length) (by have := HD.out; omega); have := HD.out; omega
    have HS : Hid (by_.length ≤ 5000) := Lib.hid (by rw [HF.out, List.length_append]; rw [bs_size] at s4 s5; omega)
    have cT := fun W => textW_any dat W (by have := HD.out; omega)
    have HT1 := Lib.hid (hT.below hb)
    clear HF hd HD
    generalize uv a0 ++ uv a1 ++ uv a2 = p3 at *
    generalize uv a0 ++ uv a1 = p2 at *
    go_enter Tryd.func11, Tryd.ntmps11
    go_wp2_with (go_at_call 37; refine (cV _).mono ?_; rintro e w1 ⟨rfl, hb1⟩; have F1 := F0.next hb1; have HT2 := Lib.hid (HT1.out.below hb1); have hb2 := Below.next hb hb1)
    have q0 := F1.c 0 rfl
    have q1 := F1.c 1 rfl
    have q2 := F1.c 2 rfl
    have r0 := fun d os => cell_regrown q0 d os
    have r1 := fun d os => cell_regrown q1 d os
    have r2 := fun d os => cell_regrown q2 d os
    have fl := F1.lt
    have cU := fun (n : Nat) (hn : Hid (n ≤ 18446744073709551615)) d os => Calls.regrown_of (uint_any n (grow (redrawn w1 d) os) hn.out)
    have HF1 := Lib.hid F1
    clear F1 F0 cV hb1 HT1 hb
    refine wp_region_quiet_below (by kernel_rfl) (by kernel_rfl) ?_
    repeat (go_big_quiet_step (exact cU _ (by assumption) _ _))
    refine wpQuiet_nil ?_
    intro _ hw'
    obtain ⟨⟨dq, osq⟩, hw''⟩ := hw'
    subst hw''
    have hbq := below_regrown w1 dq osq
    clear r0 r1 r2 q0 q1 q2
    have F2 := HF1.out.next hbq
    have HT3 := Lib.hid (HT2.out.below hbq)
    generalize grow (redrawn w1 dq) osq = w2 at *
    have q3 := F2.c 3 rfl
    have hb3 := Below.next hb2 hbq
    clear hbq hb2 F2 cU
    go_wp2_with (first
      | (go_at_call 31; refine (cT _).mono ?_; rintro e w3 ⟨rfl, hb4⟩; have HT4 := Lib.hid (HT3.out.below hb4))
      | (go_at_call 38; refine (seal_any _ _ (by have := HS.out; omega) HT4.out).mono ?_; rintro e w4 ⟨rfl, hb5⟩))
    go_ret
    exact ⟨rfl, Below.next (Below.next hb3 hb4) hb5⟩
end Go.Proofs.YtcjaaijohapeaaaDoor

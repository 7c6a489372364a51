/-
  The law that a formatted number has its decimal digits and is parsed as it was: it returns true. No conditions.
-/
import Derived.Test.YtaiceebhifecbaaDoorT37
namespace Go.Proofs.YtaiceebhifecbaaDoor
open Go.RowKit
theorem few_small : 4294967296 ^ 12 ≤ 10 ^ 400 := by decide +kernel
set_option maxRecDepth 100000 in
set_option maxHeartbeats 1000000 in
theorem roundtrip_any (A : Option Addr) (a : Nat) (xs : List Nat) (w : World) (hx : Rd w A xs) (cx : xs.length ≤ a) (dx : Nm.Dig xs) :
    Calls Tryd.prog 10 #[nt A (xs.length) a] w fun e w' => e = .returned (.bool true) ∧ Below w.heap.size w w' := by
  go_enter Tryd.func10, Tryd.ntmps10
  go_wp2_with fail
  have vx : Arg _ w.heap.size A (xs.length) a xs := Arg.at_ (c := a) (n := (xs.length)) (w := w) hx (by simp)
  have hb := one w (Obj.cells #[Value.slice A (xs.length) a] 24)
  clear hx
  cases hfx : decide (xs.length ≤ 12 ∧ Nm.tlen xs = xs.length) with
  | false =>
    refine (few_is a vx.rd rfl hfx).mono ?_
    rintro e w1 ⟨rfl, hs1⟩
    have vx := vx.below hs1
    have hb := up hb hs1
    clear hs1
    have kvx := vx.cell
    go_wp2_with fail
    clear kvx
    refine (awake_any _).mono ?_
    rintro e wa ⟨rfl, hsa⟩
    go_wp2_with fail
    exact bodyPost_ret (v := .bool true) (by first | rfl | kernel_rfl) rfl ⟨rfl, up hb hsa⟩
  | true =>
    refine (few_is a vx.rd rfl hfx).mono ?_
    rintro e w1 ⟨rfl, hs1⟩
    have vx := vx.below hs1
    have hb := up hb hs1
    clear hs1
    have kvx := vx.cell
    go_wp2_with fail
    clear kvx
    have vx := vx.var rfl cx dx hfx
    have sx := Nm.Sz.val dx hfx
    have ex := Nm.canon dx hfx
    clear hfx cx dx
    refine (format_n vx.num).mono ?_
    rintro e w2 ⟨s, rfl, hB, hs⟩
    have vx := vx.below hs
    have hb := up hb hs
    clear hs
    have hlt : Nm.val xs < 10 ^ 400 := Nat.lt_of_lt_of_le sx few_small
    have hchk : Nm.chk (Bt s) = 0 := by rw [hB]; exact chk_ok (Nm.dec_len _) (Nm.dec_short hlt) (Nm.dec_alldec _) (Nm.dec_lead _)
    have hsz : s.size ≤ 1000000 := by
      rw [← Bt_length, hB]
      have := Nm.dec_short hlt
      omega
    have hdv : Nm.nat (Nm.dval (Bt s)) = xs := by rw [hB, Nm.dval_dec, ex]
    have hp := fun W => parse_good s W hsz hchk
    simp only [hdv] at hp
    have HB := Lib.hid hB
    have HP := Lib.hid hp
    clear hB hp hchk hdv hlt sx
    have kvx := vx.cell
    go_wp2_with fail
    clear kvx
    refine (HP.out _).mono ?_
    rintro e w3 ⟨Ap, cp, rfl, hc, hf, hs⟩
    have vx := vx.below hs
    have hb := up hb hs
    have np := hf.num hc (ex ▸ Nm.dig_nat _) vx.num.small
    clear hc hf hs
    have vx := vx.below (one _ (Obj.cells #[Value.slice Ap xs.length cp] 24))
    have vp := Var.new np
    have hb := hb.alloc hb.size (Obj.cells #[Value.slice Ap xs.length cp] 24)
    clear np
    have kvx := vx.cell
    have kvp := vp.cell
    go_wp2_with fail
    clear kvx kvp
    refine (refFormat_n vx.num ex).mono ?_
    rintro e w4 ⟨s', rfl, hB', hs⟩
    have vx := vx.below hs
    have vp := vp.below hs
    have hb := up hb hs
    clear hs
    obtain rfl : s' = s := Bt_inj (hB'.trans HB.out.symm)
    clear hB'
    have kvx := vx.cell
    have kvp := vp.cell
    go_wp2_with fail
    clear kvx kvp
    refine (same_n vx.num vp.num true (decide_eq_true rfl)).mono ?_
    rintro e w5 ⟨rfl, hs⟩
    have hb := up hb hs
    go_wp2_with fail
    refine (awake_any _).mono ?_
    rintro e w6 ⟨rfl, hs⟩
    go_wp2_with fail
    exact bodyPost_ret (v := .bool true) (by first | rfl | kernel_rfl) rfl ⟨rfl, up hb hs⟩
end Go.Proofs.YtaiceebhifecbaaDoor

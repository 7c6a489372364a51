/-
  The law that tells which strings are numbers, and which error the others are: it returns true. No conditions.
-/
import Derived.Test.YtaiceebhifecbaaDoorT37
namespace Go.Proofs.YtaiceebhifecbaaDoor
open Go.RowKit
/-- What natural's Parse returns, in one. -/
theorem parse_all (s : ByteArray) (w : World) (hs : s.size ≤ 1000000) :
    Calls Tryd.prog 31 #[.string s] w fun e w' => ParseRet s e w' ∧ Below w.heap.size w w' := by
  by_cases h : Nm.chk (Bt s) = 0
  · refine (parse_good s w hs h).mono ?_
    rintro e w' ⟨A, c, rfl, hc, hf, hb⟩
    refine ⟨⟨A, _, c, _, by rw [h]; rfl, hf.num hc (Nm.dig_nat _) ?_, fun h' => absurd h h', fun _ => rfl⟩, hb⟩
    have hall : Nm.alldec (Bt s) ∧ (Bt s).length ≤ 400 := by
      unfold Nm.chk at h
      split at h
      · omega
      · split at h
        · omega
        · split at h
          · omega
          · rename_i h2 h3
            exact ⟨by simpa using h3, by omega⟩
    refine Nat.le_trans (Nm.nat_len (k := 42) (Nat.lt_of_lt_of_le (Nm.dval_lt _ hall.1) ?_)) (by decide)
    exact Nat.le_trans (Nat.pow_le_pow_right (by omega) hall.2) ten_small
  · refine (parse_bad s w hs h).mono ?_
    rintro e w' ⟨rfl, hb⟩
    exact ⟨parse_err rfl h rfl, hb⟩
set_option maxRecDepth 100000 in
set_option maxHeartbeats 1000000 in
theorem parses_any (s : ByteArray) (w : World) :
    Calls Tryd.prog 9 #[.string s] w fun e w' => e = .returned (.bool true) ∧ Below w.heap.size w w' := by
  by_cases h450 : 450 < s.size
  · go_enter Tryd.func9, Tryd.ntmps9
    go_wp2_with fail
    refine (awake_any _).mono ?_
    rintro e wa ⟨rfl, hsa⟩
    go_wp2_with fail
    exact bodyPost_ret (v := .bool true) (by first | rfl | kernel_rfl) rfl ⟨rfl, hsa⟩
  obtain ⟨k, hk⟩ : ∃ k, Nm.chk (Bt s) = k := ⟨_, rfl⟩
  have Hk := Lib.hid hk
  have h45 : s.size ≤ 450 := by omega
  clear hk h450
  go_enter Tryd.func9, Tryd.ntmps9
  go_wp2_with fail
  refine (parse_all s w (by omega)).mono ?_
  rintro e w1 ⟨⟨A, n, c, zs, rfl, hn, hz1, hz2⟩, hb⟩
  obtain rfl := hn.len
  rw [Hk.out] at hz1 hz2 ⊢
  have va := Var.new hn
  have hb := hb.alloc hb.size (Obj.cells #[Value.slice A zs.length c] 24)
  clear hn
  go_wp2_with fail
  refine (refParse_any s _ (by omega)).mono ?_
  rintro e w2 ⟨⟨B, m, d, ys, rfl, hn, hy1, hy2⟩, hs⟩
  obtain rfl := hn.len
  rw [Hk.out] at hy1 hy2 ⊢
  have hb := up hb hs
  have va := va.below hs
  have heq : zs = ys := by
    by_cases h0 : k = 0
    · rw [hz2 h0, hy2 h0]
    · rw [hz1 h0, hy1 h0]
  subst heq
  have va := va.below (one _ (Obj.cells #[Value.slice B zs.length d] 24))
  have vb := Var.new hn
  have hb := hb.alloc hb.size (Obj.cells #[Value.slice B zs.length d] 24)
  clear hn hs
  have kva := va.cell
  have kvb := vb.cell
  have Hz2 := Lib.hid hz2
  clear hz1 hz2 hy1 hy2
  go_wp2_with fail
  refine (same_n va.num vb.num true (decide_eq_true rfl)).mono ?_
  rintro e w3 ⟨rfl, hs⟩
  have hb := up hb hs
  have va := va.below hs
  have kva := va.cell
  clear hs kvb vb
  by_cases h0 : k = 0
  · subst h0
    have hok : (Bt s).length ≠ 0 ∧ Nm.alldec (Bt s) ∧ ¬ ((Bt s).head? = some 48 ∧ 1 < (Bt s).length) := by
      have h := Hk.out
      unfold Nm.chk at h
      split at h
      · omega
      · split at h
        · omega
        · split at h
          · omega
          · split at h
            · omega
            · rename_i h1 h2 h3 h4
              exact ⟨h1, by simpa using h3, h4⟩
    have hdec : Nm.dec (Nm.val zs) = Bt s := by
      rw [Hz2.out rfl, Nm.val_nat]
      exact Nm.dec_dval hok.1 hok.2.1 hok.2.2
    have Hdec := Lib.hid hdec
    clear hok hdec
    go_wp2_with fail
    refine (format_n va.num).mono ?_
    rintro e w4 ⟨s', rfl, hB, hs⟩
    obtain rfl : s' = s := Bt_inj (hB.trans Hdec.out)
    have hb := up hb hs
    clear hs hB kva
    go_wp2_with fail
    refine (awake_any _).mono ?_
    rintro e w5 ⟨rfl, hs⟩
    go_wp2_with fail
    exact bodyPost_ret (v := .bool true) (by first | rfl | kernel_rfl) rfl ⟨rfl, up hb hs⟩
  · have hk0 : ((k : Int) != 0) = true := by rw [bne_iff_ne]; omega
    go_wp2_with fail
    refine (awake_any _).mono ?_
    rintro e w5 ⟨rfl, hs⟩
    go_wp2_with fail
    exact bodyPost_ret (v := .bool true) (by first | rfl | kernel_rfl) rfl ⟨rfl, up hb hs⟩
end Go.Proofs.YtaiceebhifecbaaDoor

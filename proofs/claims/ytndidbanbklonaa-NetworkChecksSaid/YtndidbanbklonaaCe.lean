import Derived.Test.YtndidbanbklonaaCd
import Derived.Test.YtndidbanbklonaaBt
/-
  The law of checks. No conditions beyond those that each names.
-/
namespace Go.Proofs.Ytndidbanbklonaa
open Go.RowKit Go.Sort Go.Lib Go.Shelf
set_option maxRecDepth 100000 in
set_option maxHeartbeats 8000000 in
theorem checks_law (nd lt : Int) (A : Option Addr) (cf : Nat) (l : List Ft) (A2 : Option Addr) (n2 c2 : Nat) (q : Nat → Opn) (w : World) (hl9 : l.length ≤ 9223372036854775807) (hF : FtS w A l) (_ : n2 ≤ 9223372036854775807) (_ : Ops w A2 n2 q) (_ : -9223372036854775808 ≤ lt ∧ lt ≤ 9223372036854775807) :
    Calls Try.prog 4 #[.agg #[.int .i64 nd, .int .i64 lt, .slice A l.length cf, .slice A2 n2 c2]] w (Ib (.bool true) w) := by
  obtain ⟨nf, hnf⟩ : ∃ nf, l.length = nf := ⟨_, rfl⟩
  rw [hnf] at hl9 ⊢
  have hab0 := ab1 w (Obj.cells #[.int .i64 nd, .int .i64 lt, .slice A nf cf, .slice A2 n2 c2] 38)
  have B0 := Bx.newL w 38 [.int .i64 nd, .int .i64 lt, .slice A nf cf, .slice A2 n2 c2]
  have hF0 := hF.next hab0
  have HBX : Hid (∀ W, Below (w.alloc (Obj.cells #[.int .i64 nd, .int .i64 lt, .slice A nf cf, .slice A2 n2 c2] 38)).heap.size (w.alloc (Obj.cells #[.int .i64 nd, .int .i64 lt, .slice A nf cf, .slice A2 n2 c2] 38)) W → W.cell? ⟨w.heap.size, 0, none⟩ = some (.int .i64 nd) ∧ W.cell? ⟨w.heap.size, 1, none⟩ = some (.int .i64 lt) ∧ W.cell? ⟨w.heap.size, 2, none⟩ = some (.slice A nf cf) ∧ w.heap.size < W.heap.size) := Lib.hid fun W hb => by
    have h := Bx.next B0 hb
    exact ⟨h.c 0 rfl, h.c 1 rfl, h.c 2 rfl, h.lt⟩
  have HAB := Lib.hid hab0
  clear hF B0 hab0
  go_enter Try.func4, Try.ntmps4
  go_upto_region 1 with (fail)
  generalize (w.alloc (Obj.cells #[.int .i64 nd, .int .i64 lt, .slice A nf cf, .slice A2 n2 c2] 38)) = w0 at *
  generalize w.heap.size = bx at HBX ⊢
  have HNW : Hid (∀ W, Below w0.heap.size w0 W → Calls Try.prog 8 #[.int .i64 nd, .int .i64 lt, .slice A nf cf] W (fun e w1 => ∃ x : Option Addr, e = .returned (.tuple #[.pointer x, .int .i64 (nwE nd lt l)]) ∧ Below W.heap.size W w1 ∧ (nwE nd lt l = 0 ↔ x.isSome = true))) := Lib.hid fun W hb => by
    refine (new_any nd lt A cf nf l W hnf hl9 (hF0.next hb)).mono ?_
    rintro e w1 ⟨hb, ⟨h, rfl⟩ | ⟨h, c, m, fv, rfl, -⟩⟩
    · exact ⟨none, rfl, hb, fun e => absurd e h, fun e => by cases e⟩
    · exact ⟨_, by rw [h], hb, fun _ => rfl, fun _ => h⟩
  have HRN : Hid (∀ W, Below w0.heap.size w0 W → Calls Try.prog 15 #[.int .i64 nd, .int .i64 lt, .slice A nf cf] W (fun e w1 => ∃ x : Option Addr, e = .returned (.tuple #[.pointer x, .int .i64 (nwE nd lt l)]) ∧ Below W.heap.size W w1)) := Lib.hid fun W hb => by
    refine (refNew_any nd lt A cf nf l W hnf hl9 (hF0.next hb)).mono ?_
    rintro e w1 ⟨hb, ⟨h, rfl⟩ | ⟨h, c, fv, rfl, -⟩⟩
    · exact ⟨none, rfl, hb⟩
    · exact ⟨_, by rw [h], hb⟩
  have HFT := Lib.hid hF0
  have HNF := Lib.hid hnf
  obtain ⟨N, hN⟩ : ∃ N, min nf 100 = N := ⟨_, rfl⟩
  have hN1 : N ≤ nf := by omega
  have hN2 : N ≤ 100 := by omega
  clear hF0 hnf hl9
  go_wp2_with fail
  go_loopg [3] N (fun kx s3 wr => ∃ (i : Nat), s3 = .int .i64 (i : Int) ∧ i ≤ N ∧ N - i ≤ kx ∧ Hid (Below w0.heap.size w0 wr))
  case atStart => exact ⟨0, rfl, Nat.zero_le _, Nat.le_refl _, Lib.hid (Below.refl _ _)⟩
  case round =>
    obtain ⟨i, rfl, hiN, hkx, I⟩ := hrel
    obtain ⟨b0, b1, b2, bl⟩ := HBX.out wr I.out
    by_cases hi : i < N
    · have d1 : decide (i < nf) = true := decide_eq_true (by omega)
      have d2 : decide ((i : Int) < 100) = true := decide_eq_true (by omega)
      have d2n : decide (i < 100) = true := decide_eq_true (by omega)
      have hi2 : i < l.length := by rw [HNF.out]; omega
      obtain ⟨gf, of, rfl, hgf, hcl⟩ : ∃ ab ao, A = some ⟨ab, ao, none⟩ ∧ ab < w0.heap.size ∧ ∀ j v, (tc e6 l)[j]? = some v → w0.cell? ⟨ab, ao + j, none⟩ = some v := by
        rcases HFT.out with h | h
        · rw [h] at hi2; cases hi2
        · exact h
      obtain ⟨y, hy⟩ : ∃ y, l[i]'hi2 = y := ⟨_, rfl⟩
      have hc := fun j v (hj : j < 6) hv => cell_next I.out (hcl (i * 6 + j) v (by rw [tc_get e6_len l i j hi2 hj]; exact hv))
      rw [hy] at hc
      have q0 : wr.cell? ⟨gf, of + i * 6, none⟩ = some (.int .i64 y.k) := hc 0 _ (by decide) rfl
      have q1 : wr.cell? ⟨gf, of + i * 6 + 1, none⟩ = some (.int .i64 y.a) := by rw [Nat.add_assoc]; exact hc 1 _ (by decide) rfl
      have q2 : wr.cell? ⟨gf, of + i * 6 + 2, none⟩ = some (.int .i64 y.b) := by rw [Nat.add_assoc]; exact hc 2 _ (by decide) rfl
      have q3 : wr.cell? ⟨gf, of + i * 6 + 3, none⟩ = some (.int .i64 y.f) := by rw [Nat.add_assoc]; exact hc 3 _ (by decide) rfl
      have q4 : wr.cell? ⟨gf, of + i * 6 + 4, none⟩ = some (.int .i64 y.u) := by rw [Nat.add_assoc]; exact hc 4 _ (by decide) rfl
      have q5 : wr.cell? ⟨gf, of + i * 6 + 5, none⟩ = some (.int .i64 y.x) := by rw [Nat.add_assoc]; exact hc 5 _ (by decide) rfl
      have ql : gf < wr.heap.size := blk_lt q0
      have cN := fun d os => Calls.regrown_of (check_any nd y (grow (redrawn wr d) os))
      have cR := fun d os => Calls.regrown_of (refCheck_any nd y (grow (redrawn wr d) os))
      have rb0 := fun d os => cell_regrown b0 d os
      have rb2 := fun d os => cell_regrown b2 d os
      have rq0 := fun d os => cell_regrown q0 d os
      have rq1 := fun d os => cell_regrown q1 d os
      have rq2 := fun d os => cell_regrown q2 d os
      have rq3 := fun d os => cell_regrown q3 d os
      have rq4 := fun d os => cell_regrown q4 d os
      have rq5 := fun d os => cell_regrown q5 d os
      have hi1 : i + 1 ≤ N := by omega
      have hin : i < nf := by omega
      clear hc hcl hy hi2 hgf
      generalize ckI nd y = K at *
      have hK : (K != K) = false := by simp
      go_upto_region 4 with (fail)
      refine wp_region_quiet_below (by kernel_rfl) (by kernel_rfl) ?_
      repeat (go_big_quiet_step (first | exact cN _ _ | exact cR _ _))
      refine wpQuiet_nil ?_
      intro _ hw'
      obtain ⟨⟨dq, osq⟩, hw''⟩ := hw'
      subst hw''
      go_wp2_with fail
      go_roundg (N - (i + 1))
      case measure => omega
      case rel => exact ⟨i + 1, rfl, hi1, Nat.le_refl _, Lib.hid (Below.next I.out (below_regrown _ _ _))⟩
    · obtain rfl : i = N := by omega
      have HD : Hid ((decide (i < nf) = false) ∨ (decide (i < nf) = true ∧ decide ((i : Int) < 100) = false ∧ decide (i < 100) = false)) := Lib.hid (by
        by_cases h : i < nf
        · exact .inr ⟨decide_eq_true h, decide_eq_false (by omega), decide_eq_false (by omega)⟩
        · exact .inl (decide_eq_false h))
      have HHE : Hid (((nwE nd lt l == 0) = true ∧ nwE nd lt l = 0) ∨ ((nwE nd lt l == 0) = false ∧ nwE nd lt l ≠ 0)) := Lib.hid (by
        by_cases h : nwE nd lt l = 0
        · exact .inl ⟨by rw [h]; rfl, h⟩
        · exact .inr ⟨beq_eq_false_iff_ne.2 h, h⟩)
      have HX : Hid (∀ x : Option Addr, (nwE nd lt l = 0 ↔ x.isSome = true) → (nwE nd lt l = 0 ∧ (∃ a, x = some a)) ∨ (nwE nd lt l ≠ 0 ∧ x = none)) := Lib.hid fun x h => by
        cases x with
        | none => exact .inr ⟨fun e => (by cases h.1 e), rfl⟩
        | some a => exact .inl ⟨h.2 rfl, a, rfl⟩
      have hzz : (nwE nd lt l == nwE nd lt l) = true := by simp
      clear hi hN hiN hkx
      generalize nwE nd lt l = E at *
      rcases HD.out with d1 | ⟨d1, d2, d2n⟩
      · rcases HHE.out with ⟨z1, z2⟩ | ⟨z1, z2⟩
        · clear HD
          go_wp2_with (first
            | (go_at_call 15; refine (HRN.out w1 HB1.out).mono ?_; rintro e w2 ⟨x2, rfl, hb2⟩)
            | (go_at_call 8; refine (HNW.out wr I.out).mono ?_; rintro e w1 ⟨x1, rfl, hb1, hx1⟩; have HB1 := Lib.hid (Below.next I.out hb1); obtain ⟨e0, e1, e2, el⟩ := HBX.out w1 HB1.out; obtain ⟨x1, rfl⟩ : ∃ a, x1 = some a := (by rcases HX.out x1 hx1 with h | h; exact h.2; exact absurd z2 h.1); clear hx1)
            | (go_at_call 9; refine (awake_any _).mono ?_; rintro e w99 ⟨rfl, hb99⟩))
          go_ret
          exact ⟨rfl, Below.next HAB.out (Below.next (Below.next HB1.out hb2) hb99)⟩
        · clear HD
          go_wp2_with (first
            | (go_at_call 15; refine (HRN.out w1 HB1.out).mono ?_; rintro e w2 ⟨x2, rfl, hb2⟩)
            | (go_at_call 8; refine (HNW.out wr I.out).mono ?_; rintro e w1 ⟨x1, rfl, hb1, hx1⟩; have HB1 := Lib.hid (Below.next I.out hb1); obtain ⟨e0, e1, e2, el⟩ := HBX.out w1 HB1.out; obtain rfl : x1 = none := (by rcases HX.out x1 hx1 with h | h; exact absurd h.1 z2; exact h.2); clear hx1)
            | (go_at_call 9; refine (awake_any _).mono ?_; rintro e w99 ⟨rfl, hb99⟩))
          go_ret
          exact ⟨rfl, Below.next HAB.out (Below.next (Below.next HB1.out hb2) hb99)⟩
      · rcases HHE.out with ⟨z1, z2⟩ | ⟨z1, z2⟩
        · clear HD
          go_wp2_with (first
            | (go_at_call 15; refine (HRN.out w1 HB1.out).mono ?_; rintro e w2 ⟨x2, rfl, hb2⟩)
            | (go_at_call 8; refine (HNW.out wr I.out).mono ?_; rintro e w1 ⟨x1, rfl, hb1, hx1⟩; have HB1 := Lib.hid (Below.next I.out hb1); obtain ⟨e0, e1, e2, el⟩ := HBX.out w1 HB1.out; obtain ⟨x1, rfl⟩ : ∃ a, x1 = some a := (by rcases HX.out x1 hx1 with h | h; exact h.2; exact absurd z2 h.1); clear hx1)
            | (go_at_call 9; refine (awake_any _).mono ?_; rintro e w99 ⟨rfl, hb99⟩))
          go_ret
          exact ⟨rfl, Below.next HAB.out (Below.next (Below.next HB1.out hb2) hb99)⟩
        · clear HD
          go_wp2_with (first
            | (go_at_call 15; refine (HRN.out w1 HB1.out).mono ?_; rintro e w2 ⟨x2, rfl, hb2⟩)
            | (go_at_call 8; refine (HNW.out wr I.out).mono ?_; rintro e w1 ⟨x1, rfl, hb1, hx1⟩; have HB1 := Lib.hid (Below.next I.out hb1); obtain ⟨e0, e1, e2, el⟩ := HBX.out w1 HB1.out; obtain rfl : x1 = none := (by rcases HX.out x1 hx1 with h | h; exact absurd h.1 z2; exact h.2); clear hx1)
            | (go_at_call 9; refine (awake_any _).mono ?_; rintro e w99 ⟨rfl, hb99⟩))
          go_ret
          exact ⟨rfl, Below.next HAB.out (Below.next (Below.next HB1.out hb2) hb99)⟩
end Go.Proofs.Ytndidbanbklonaa

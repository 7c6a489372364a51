/-
  The law of offsets. No conditions but Go's own bounds of a string's length, and what the library's variables hold.
-/
import Derived.Test.YtgifienjfaclmaaDoorNp
import Derived.BigQuiet
import Derived.Lib.QuietBelow
namespace Go.Proofs.YtgifienjfaclmaaDoor
open Go.RowKit Go.Sort
theorem wrap64_nat (n : Nat) (h : n ≤ 1000000) : IntKind.i64.wrap (n : Int) = (n : Int) := IntWalk.i64_in _ (by omega)
theorem isN_one (c : UInt8) : isN [c] = isL c := by
  revert c
  exact byte_all (by decide +kernel)
set_option maxRecDepth 100000 in
set_option maxHeartbeats 4000000 in
theorem offsets_any (l : List UInt8) (w : World) (hl : l.length ≤ 9223372036854775807) (hE : Env w) :
    Calls Tryd.prog 5 #[.string (bs l)] w (Ib (.bool true) w) := by
  have cD := scanD_any l w hl hE
  have cA := fun W hW => awake_any W hW
  have hsz : (bs l).size = l.length := rfl
  cases hR : scan l with
  | error x =>
    obtain ⟨x, p⟩ := x
    obtain ⟨hx, hp⟩ := scan_error hR
    rw [hR] at cD
    have hx : x ≠ 0 := hx
    have hp : p ≤ l.length := hp
    have dx : ((x : Int) == 0) = false := by simp; omega
    have dx2 : ((x : Int) != 0) = true := by simp; omega
    have d1 : decide ((0 : Int) ≤ (p : Int)) = true := by simp
    have d2 : decide ((p : Int) ≤ (l.length : Int)) = true := by simp; omega
    clear hR hx hl
    go_enter Tryd.func5, Tryd.ntmps5
    go_wp2_with fail
    refine cD.mono ?_
    rintro e w2 ⟨hb, h2⟩
    replace h2 : e = .returned (.tuple #[.slice none 0 0, .int .i64 (x : Int), .int .i64 (p : Int)]) := h2
    subst h2
    go_wp2_with fail
    refine (cA _ (hE.next hb)).mono ?_
    rintro e w5 ⟨rfl, hb5⟩
    go_wp2_with fail
    go_ret
    exact ⟨rfl, Below.next hb hb5⟩
  | ok ts =>
    rw [hR] at cD
    obtain ⟨hn1, hn0, hl4⟩ := scan_len hR
    have HP := Lib.hid (scan_places hR)
    clear hR hl
    obtain ⟨n, hn⟩ : ∃ n, ts.length = n := ⟨_, rfl⟩
    rw [hn] at hn1 hn0
    go_enter Tryd.func5, Tryd.ntmps5
    go_wp2_with fail
    refine cD.mono ?_
    rintro e w2 ⟨hb, v, rfl, ho⟩
    obtain ⟨g, cap, rfl, hg, hc⟩ := ho.get (by omega)
    have HC := Lib.hid hc
    rw [hn]
    clear hc ho cD
    go_wp2_with fail
    go_loopw [6] (fun v wr => ∃ (i : Nat), i ≤ n ∧ v = .int .i64 (i : Int) ∧ Below w2.heap.size w2 wr) (fun v _ => n - (intOf v).toNat)
    case atStart => exact ⟨0, by omega, rfl, Below.refl _ _⟩
    case round =>
      obtain ⟨i, hi, rfl, hbr⟩ := hrel
      have hbw := Below.next hb hbr
      by_cases hin : i < n
      · have hlt : i < ts.length := by omega
        obtain ⟨p1, p2, p3, p4, p5⟩ := HP.out.2 i hlt
        have gw : g < wr.heap.size := Nat.lt_of_lt_of_le hg hbr.size
        have c0 := (hbr.cell (p := ⟨g, i * 4 + 0, none⟩) hg).trans (HC.out _ _ (tcells_at ts i 0 hlt (by decide)))
        have c1 := (hbr.cell (p := ⟨g, i * 4 + 1, none⟩) hg).trans (HC.out _ _ (tcells_at ts i 1 hlt (by decide)))
        have c2 := (hbr.cell (p := ⟨g, i * 4 + 2, none⟩) hg).trans (HC.out _ _ (tcells_at ts i 2 hlt (by decide)))
        have c3 := (hbr.cell (p := ⟨g, i * 4 + 3, none⟩) hg).trans (HC.out _ _ (tcells_at ts i 3 hlt (by decide)))
        have hprev : ∀ i', i' + 1 = i → ∃ P0 : Nat, wr.cell? ⟨g, i' * 4 + 3, none⟩ = some (.int .i64 (P0 : Int)) ∧ P0 < (ts[i]'hlt).at_ := by
          intro i' e
          subst e
          have hlt' : i' < ts.length := by omega
          exact ⟨(ts[i']'hlt').at_, (hbr.cell (p := ⟨g, i' * 4 + 3, none⟩) hg).trans (HC.out _ _ (tcells_at ts i' 3 hlt' (by decide))), (HP.out.2 i' hlt').2.2.1 hlt⟩
        rw [hn] at p1
        clear p3
        generalize ts[i]'hlt = x at *
        obtain ⟨K, T, N, P⟩ := x
        have c0 : wr.cell? ⟨g, i * 4, none⟩ = some (.int .i64 (K : Int)) := c0
        have c1 : wr.cell? ⟨g, i * 4 + 1, none⟩ = some (.string (bs T)) := c1
        have c2 : wr.cell? ⟨g, i * 4 + 2, none⟩ = some (.int .i64 N) := c2
        have c3 : wr.cell? ⟨g, i * 4 + 3, none⟩ = some (.int .i64 (P : Int)) := c3
        have p1 : K = 0 ↔ i + 1 = n := p1
        have p2 : K = 0 → P = l.length ∧ T = [] ∧ N = 0 := p2
        have p4 : K ≤ 4 := p4
        have p5 : K ≠ 0 → ∃ h3 : P < l.length, 32 < (l[P]'h3).toNat ∧ (l[P]'h3) ≠ 35 ∧ ((l[P]'h3) = 34 ↔ K = 3) ∧ (isL (l[P]'h3) = true ↔ K = 1) := p5
        have hprev : ∀ i', i' + 1 = i → ∃ P0 : Nat, wr.cell? ⟨g, i' * 4 + 3, none⟩ = some (.int .i64 (P0 : Int)) ∧ P0 < P := hprev
        obtain ⟨n1, hn1'⟩ : ∃ n1, n1 + 1 = n := ⟨n - 1, by omega⟩
        have l10 : (n : Int) - 1 = (n1 : Int) := by omega
        have Hw1 := Lib.hid (wrap64_nat n1 (by omega))
        obtain ⟨f, hf⟩ : ∃ f, i + 1 = f := ⟨_, rfl⟩
        have l11 : (i : Int) + 1 = (f : Int) := by omega
        have hfn : f ≤ n := by omega
        obtain ⟨bl, e1, e2⟩ : ∃ bl, ((K : Int) == 0) = bl ∧ ((i : Int) == (n1 : Int)) = bl := by
          by_cases h : K = 0
          · exact ⟨true, by simp [h], by have := p1.1 h; simp; omega⟩
          · exact ⟨false, by simp; omega, by have := fun e => h (p1.2 e); simp; omega⟩
        have d54 : decide ((P : Int) < 0) = false := by simp
        have V0 := V4.new wr (.int .i64 (K : Int)) (.string (bs T)) (.int .i64 N) (.int .i64 (P : Int)) 32
        have hg1 := grown1 (w := wr) (Obj.cells #[.int .i64 (K : Int), .string (bs T), .int .i64 N, .int .i64 (P : Int)] 32)
        have hb1 := Below.next hbr hg1
        have hbw1 := Below.next hbw hg1
        have hprev1 : decide (0 < i) = false ∨ ∃ i' P0 : Nat, decide (0 < i) = true ∧ (i : Int) - 1 = (i' : Int) ∧ IntKind.i64.wrap (i' : Int) = (i' : Int) ∧ i' < n ∧ (wr.alloc (Obj.cells #[.int .i64 (K : Int), .string (bs T), .int .i64 N, .int .i64 (P : Int)] 32)).cell? ⟨g, i' * 4 + 3, none⟩ = some (.int .i64 (P0 : Int)) ∧ decide (P ≤ P0) = false ∧ P0 < P := by
          rcases Nat.eq_zero_or_pos i with h | h
          · exact .inl (by simp; omega)
          · obtain ⟨P0, q1, q2⟩ := hprev (i - 1) (by omega)
            exact .inr ⟨i - 1, P0, by simp; omega, by omega, wrap64_nat _ (by omega), by omega, (hg1.cell (p := ⟨g, (i - 1) * 4 + 3, none⟩) gw).trans q1, by simp; omega, q2⟩
        clear hprev
        have HE := Lib.hid (And.intro p2 p5)
        have hKb : (bl = true → K = 0) ∧ (bl = false → K ≠ 0) := by
          constructor
          · intro e; rw [e] at e1; simp at e1; omega
          · intro e; rw [e] at e1; simp at e1; omega
        clear p1 p2 p4 p5
        go_upto_region 8 with (fail)
        clear c0 c1 c2 c3 hg1
        generalize wr.alloc (Obj.cells #[.int .i64 (K : Int), .string (bs T), .int .i64 N, .int .i64 (P : Int)] 32) = W1 at *
        obtain ⟨v0, v1, v2, v3, v4, v5, v6, v7, v8⟩ := V0
        generalize wr.heap.size = b0 at v0 v1 v2 v3 v4 v5 v6 v7 v8 gw ⊢
        clear v5 v6 v7 v8
        cases bl
        · obtain ⟨hP, q32, q35, q34, qL⟩ := HE.out.2 (hKb.2 rfl)
          have hP2 : P < (bs l).size := hP
          have hcb : ((bs l)[P]'hP2).toNat = (l[P]'hP).toNat := rfl
          have ext := one_byte l P hP
          have d83 : decide (l.length ≤ P) = false := by simp; omega
          have d89 : decide (((l[P]'hP).toNat : Int) ≤ 32) = false := by simp; omega
          have d96 : (((l[P]'hP).toNat : Int) == 35) = false := by
            rw [show ((35 : Int)) = ((35 : UInt8).toNat : Int) from rfl, ← beq_nat]; simpa using q35
          obtain ⟨b3, e3, e3'⟩ : ∃ b3, (((l[P]'hP).toNat : Int) == 34) = b3 ∧ ((K : Int) == 3) = b3 := by
            refine ⟨_, rfl, ?_⟩
            rw [show ((34 : Int)) = ((34 : UInt8).toNat : Int) from rfl, ← beq_nat, Bool.eq_iff_iff, beq_iff_eq, beq_iff_eq, q34]
            omega
          obtain ⟨b1, hb1', e1'⟩ : ∃ b1, isL (l[P]'hP) = b1 ∧ ((K : Int) == 1) = b1 := by
            refine ⟨_, rfl, ?_⟩
            rw [Bool.eq_iff_iff, beq_iff_eq, qL]
            omega
          obtain ⟨f2, hf2⟩ : ∃ f2, P + 1 = f2 := ⟨_, rfl⟩
          have l13 : (P : Int) + 1 = (f2 : Int) := by omega
          have hfl2 : f2 ≤ l.length := by omega
          have hPf : P ≤ f2 := by omega
          have hw3 := wrap64_nat f2 (by omega)
          rw [hf2] at ext
          clear q32 q35 q34 qL
          rcases hprev1 with d58 | ⟨i', P0, d58, l64, hw2, hi', w3c, d68, hP0⟩
          all_goals
            have hw1 := Hw1.out
            go_quiet (fail)
            have k0 := fun d os => cell_regrown (w := W1.drewN nq) v1 d os
            have k3 := fun d os => cell_regrown (w := W1.drewN nq) v4 d os
            have cN := fun d os => Calls.regrown_of (isNameD_any [l[P]'hP] (grow (redrawn (W1.drewN nq) d) os) (show 1 ≤ 140737488355328 by decide) (hE.next (Below.next (below_drewN hbw1 nq) (below_regrown _ d os))))
            rw [isN_one, hb1'] at cN
            generalize (l[P]'hP).toNat = m at *
            go_upto_region 13 with (fail)
            refine wp_region_quiet_below (by kernel_rfl) (by kernel_rfl) ?_
            repeat (quiet_step (exact cN _ _))
            refine wpQuiet_nil ?_
            intro _ hw'
            obtain ⟨⟨dq, osq⟩, hw''⟩ := hw'
            subst hw''
            have hb9 := Below.next (below_drewN hb1 nq) (below_regrown (W1.drewN nq) dq osq)
            clear hw1 Hw1 l10 e2 d54 d58 hw3 l13 d83 d89 d96 cN k0 k3
            try clear hw2 d68 l64
            go_wp2_with fail
            go_roundw
            case rel => exact ⟨f, hfn, rfl, hb9⟩
            case measure => simp [intOf]; omega
        · obtain rfl : P = l.length := (HE.out.1 (hKb.1 rfl)).1
          clear HE hKb HP HC
          rcases hprev1 with d58 | ⟨i', P0, d58, l64, hw2, hi', w3c, d68, hP0⟩
          all_goals
            have hw1 := Hw1.out
            go_quiet (fail)
            clear hw1 Hw1 l10 e2 d54 d58
            try clear hw2 d68 l64
            go_wp2_with fail
            go_roundw
            case rel => exact ⟨f, hfn, rfl, below_drewN hb1 _⟩
            case measure => simp [intOf]; omega
      · obtain rfl : i = n := by omega
        have d0 : decide ((0 : Int) < (i : Int)) = true := by simp; omega
        clear HC HP
        go_wp2_with fail
        refine (cA _ (hE.next hbw)).mono ?_
        rintro e w5 ⟨rfl, hb5⟩
        go_wp2_with fail
        go_ret
        exact ⟨rfl, Below.next hbw hb5⟩
theorem offsets_row' (l : List UInt8) (w : World) (z : l.length ≤ reachBytes) (hE : Env w) :
    Calls Tryd.prog 5 #[.string (bs l)] w (Ib (.bool true) w) := offsets_any l w (Nat.le_trans z (by decide)) hE
end Go.Proofs.YtgifienjfaclmaaDoor

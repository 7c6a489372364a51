import Derived.Test.YtiooilkbbfflaaaHv
import Derived.Test.YtiooilkbbfflaaaHx
/-
  The law that a periodic timer does not drift. No conditions beyond those that each names.
-/
namespace Go.Proofs.Ytiooilkbbfflaaa
open Go.RowKit Go.Sort Go.Lib Go.Shelf
theorem nxt_one (a p : Nat) (hp : 0 < p) : nxt ⟨1, a, p⟩ [] = [⟨1, a + p, p⟩] := by
  unfold nxt; rw [if_pos hp]; rfl
/-- One periodic timer: what fires up to a time. -/
theorem fr_one (u p : Nat) (hp : 0 < p) : ∀ (f a : Nat) (acc : List (Nat × Nat)), u < a + f * p → ∃ j, j ≤ f ∧ fr u f acc [⟨1, a, p⟩] = some (acc ++ (List.range j).map (fun i => (1, a + i * p)), [⟨1, a + j * p, p⟩]) ∧ u < a + j * p ∧ ∀ i, i < j → a + i * p ≤ u
  | 0, a, acc, h => by
    rw [Nat.zero_mul, Nat.add_zero] at h
    exact ⟨0, Nat.le_refl _, by rw [fr_stop h]; simp, by simpa using h, fun i hi => absurd hi (Nat.not_lt_zero _)⟩
  | f + 1, a, acc, h => by
    by_cases hx : u < a
    · exact ⟨0, Nat.zero_le _, by rw [fr_stop hx]; simp, by simpa using hx, fun i hi => absurd hi (Nat.not_lt_zero _)⟩
    · have hm : (f + 1) * p = p + f * p := by rw [Nat.add_mul, Nat.one_mul, Nat.add_comm]
      obtain ⟨j, h1, h2, h3, h4⟩ := fr_one u p hp f (a + p) (acc ++ [(1, a)]) (by omega)
      have hj : (j + 1) * p = p + j * p := by rw [Nat.add_mul, Nat.one_mul, Nat.add_comm]
      refine ⟨j + 1, by omega, ?_, by omega, fun i hi => ?_⟩
      · rw [fr_step (by show a ≤ u; omega), nxt_one a p hp, h2, hj, Nat.add_assoc, List.range_succ_eq_map, List.map_cons, List.map_map, List.append_assoc]
        congr 1
        rw [List.cons_append, List.nil_append, Nat.zero_mul, Nat.add_zero]
        have e : (fun i => (1, a + p + i * p)) = ((fun i => (1, a + i * p)) ∘ Nat.succ : Nat → Nat × Nat) := by
          funext i
          show (1, a + p + i * p) = (1, a + (i + 1) * p)
          rw [Nat.add_mul, Nat.one_mul]; congr 1; omega
        rw [e]
      · cases i with
        | zero => rw [Nat.zero_mul]; omega
        | succ i =>
          have := h4 i (by omega)
          rw [Nat.add_mul, Nat.one_mul]; omega
theorem U16s.at_ {w : World} {A : Option Addr} {n : Nat} {q : Nat → Nat} (h : U16s w A n q) {c : Nat} (hc : w.heap.size = c) {k : Nat} (hk : k < n) : ∃ ab ao : Nat, A = some ⟨ab, ao, none⟩ ∧ q k < 65536 ∧ ∀ W, Fm (fun i => c ≤ i) w W → W.cell? ⟨ab, ao + k, none⟩ = some (.int .u16 (q k : Int)) ∧ ab < W.heap.size := by
  rcases h with h | ⟨ab, ao, hA, hab, h⟩
  · omega
  · obtain ⟨h0, h1⟩ := h k hk
    refine ⟨ab, ao, hA, h0, fun W hW => ?_⟩
    have hb : W.heap[ab]? = w.heap[ab]? := hW.blk ab hab (by omega)
    exact ⟨(World.cell?_of_block (a := ⟨ab, ao + k, none⟩) hb).trans h1, Nat.lt_of_lt_of_le hab hW.size⟩
/-- The firings of one periodic timer. -/
def one (a p j : Nat) : List (Nat × Nat) := (List.range j).map fun i => (1, a + i * p)
theorem one_len (a p j : Nat) : (one a p j).length = j := by unfold one; simp
theorem one_get (a p j t : Nat) (h : t < (one a p j).length) : (one a p j)[t]'h = (1, a + t * p) := by
  have h1 : (one a p j)[t]? = some (1, a + t * p) := by
    unfold one
    rw [List.getElem?_map, List.getElem?_range (by rw [one_len] at h; exact h)]
    rfl
  rw [List.getElem?_eq_getElem h] at h1
  exact Option.some.inj h1
theorem kbound {f p k j u : Nat} (hp : 0 < p) (h : ∀ i, i < j → f + k * p + i * p ≤ u) (hk : k ≤ u + 1) : k + j ≤ u + 1 := by
  cases j with
  | zero => exact hk
  | succ j =>
    have := h j (Nat.lt_succ_self j)
    have h1 : (k + j) * 1 ≤ (k + j) * p := Nat.mul_le_mul_left _ hp
    rw [Nat.add_mul k j p] at h1
    omega
theorem adS_one {now f p k u j : Nat} (h1 : now ≤ u) (h2 : u ≤ 1099511627776) (h : fr u 4096 [] [⟨1, f + k * p, p⟩] = some ([] ++ one (f + k * p) p j, [⟨1, f + k * p + j * p, p⟩])) : adS ⟨now, 1, [⟨1, f + k * p, p⟩]⟩ (u : Int) = (⟨u, 1, [⟨1, f + (k + j) * p, p⟩]⟩, one (f + k * p) p j, 0) := by
  unfold adS ahd
  rw [decide_eq_true (by show (now : Int) ≤ (u : Int) ∧ (u : Int) ≤ 1099511627776; omega), if_pos rfl, Int.toNat_natCast]
  show (match fr u 4096 [] [⟨1, f + k * p, p⟩] with | none => _ | some r => _) = _
  rw [h, Nat.add_mul, Nat.add_assoc]
  rfl
/-- How the outer loop stands: the time, the firings so far, the clock. -/
structure KpI (c : Nat) (w : World) (f p i now k : Nat) (v : Value) (wr : World) : Prop where
  ck : Ck c wr v ⟨now, 1, [⟨1, f + k * p, p⟩]⟩
  fm : Fm (fun i => c ≤ i) w wr
  nw : now ≤ 1000 * i
  kn : k ≤ now + 1
theorem mul_small {k p : Nat} (hk : k ≤ 50000) (hp : p ≤ 255) : k * p ≤ 12750000 := Nat.le_trans (Nat.mul_le_mul hk hp) (by decide)
set_option maxRecDepth 100000 in
set_option maxHeartbeats 8000000 in
theorem keeps_law (x0 x1 : Int) (A : Option Addr) (n c0 : Nat) (q : Nat → Nat) (w : World) (b0 : 0 ≤ x0) (b1 : x0 ≤ 65535) (b2 : 0 ≤ x1) (b3 : x1 ≤ 255) (hn : n ≤ 9223372036854775807) (hC : U16s w A n q) : Calls Try.prog 5 #[.int .u16 x0, .int .u8 x1, .slice A n c0] w (Ib (.bool true) w) := by
  obtain ⟨f, rfl⟩ : ∃ f : Nat, x0 = (f : Int) := ⟨x0.toNat, (Int.toNat_of_nonneg b0).symm⟩
  obtain ⟨p, rfl⟩ : ∃ p : Nat, x1 = (p : Int) := ⟨x1.toNat, (Int.toNat_of_nonneg b2).symm⟩
  have hf : f ≤ 65535 := by omega
  have hp : p ≤ 255 := by omega
  clear b0 b1 b2 b3
  by_cases h40 : 40 < n
  · have d1 : decide ((40 : Int) < (n : Int)) = true := decide_eq_true (by omega)
    have d2 : decide (40 < n) = true := decide_eq_true h40
    clear hC
    go_enter Try.func5, Try.ntmps5
    go_wp2_with (refine (awake_any _).mono ?_; rintro e w1 ⟨rfl, hb1⟩)
    go_ret
    exact ⟨rfl, hb1⟩
  · have d1 : decide ((40 : Int) < (n : Int)) = false := decide_eq_false (by omega)
    have d2 : decide (40 < n) = false := decide_eq_false h40
    by_cases hp0 : p = 0
    · subst hp0
      clear hC
      go_enter Try.func5, Try.ntmps5
      go_wp2_with (refine (awake_any _).mono ?_; rintro e w1 ⟨rfl, hb1⟩)
      go_ret
      exact ⟨rfl, hb1⟩
    · have e0 : ((p : Int) == 0) = false := by rw [beq_eq_false_iff_ne]; omega
      obtain ⟨c, hc⟩ : ∃ c, w.heap.size = c := ⟨_, rfl⟩
      have HC := Lib.hid hc
      have HA := Lib.hid hC
      have HP := Lib.hid (show 0 < p by omega)
      clear hC hc
      have hN := new_any w
      rw [HC.out] at hN
      have hn9 : n ≤ 40 := by omega
      clear hn h40 hp0
      have hev : evS ⟨0, 0, []⟩ (f : Int) (p : Int) = (⟨0, 1, [⟨1, f, p⟩]⟩, 1, 0) := by
        have := HP.out
        unfold evS
        rw [if_neg (by omega)]
        unfold addS ahd
        rw [decide_eq_true (by show (0 : Int) ≤ (f : Int) ∧ (f : Int) ≤ 1099511627776; omega), if_pos rfl, if_neg (by show ¬ 64 ≤ 0; omega)]
        rfl
      have HEv := Lib.hid hev
      clear hev
      go_enter Try.func5, Try.ntmps5
      go_wp2_with (first
        | (go_at_call 10; refine hN.mono ?_; rintro e w1 ⟨rfl, K1, hb1⟩)
        | (go_at_call 18; have cX := every_any _ _ _ (f : Int) (p : Int) _ K1 (Nat.succ_pos _); rw [HEv.out] at cX; refine cX.mono ?_; rintro e w2 ⟨rfl, v2, K2, -, F2⟩))
      have H1 : Hid (KpI c w f p 0 0 0 v2 w2) := Lib.hid ⟨by rw [Nat.zero_mul]; exact K2, (Fm.of _ (by rw [← HC.out] at hb1; exact hb1)).tr (K1.low F2 (Nat.le_refl _)), Nat.le_refl _, Nat.zero_le _⟩
      clear K1 K2 F2 hb1 hN
      go_loopg [10, 11, 12] n (fun kx s10 s11 s12 wr => ∃ i now k v, i ≤ n ∧ s12 = .int .i64 ((i : Nat) : Int) ∧ s10 = .int .i64 ((now : Nat) : Int) ∧ s11 = .int .i64 ((k : Nat) : Int) ∧ n - i ≤ kx ∧ now ≤ 40000 ∧ k ≤ 40001 ∧ Hid (KpI c w f p i now k v wr))
      case atStart => exact ⟨0, 0, 0, v2, Nat.zero_le _, rfl, rfl, rfl, by omega, by omega, by omega, H1⟩
      case round =>
        clear H1
        obtain ⟨i, now, k, v, hi, rfl, rfl, rfl, hg, hnow, hk, HF⟩ := hrel
        by_cases hlt : i < n
        · obtain ⟨ab, ao, rfl, hq, hQ⟩ := HA.out.at_ HC.out hlt
          obtain ⟨q0, qb⟩ := hQ wr HF.out.fm
          clear hQ
          generalize q i = x at *
          obtain ⟨u, hu⟩ : ∃ u, now + x % 1000 = u := ⟨_, rfl⟩
          have hx1 : x % 1000 < 1000 := Nat.mod_lt _ (by decide)
          have hm1 : ((x : Int).tmod 1000) = ((x % 1000 : Nat) : Int) := rfl
          have hu1 : (now : Int) + ((x % 1000 : Nat) : Int) = (u : Int) := by omega
          have hu2 : u ≤ 41000 := by omega
          have hin : (i : Int) < (n : Int) := by omega
          have hge : now ≤ f + k * p := HF.out.ck.ok.ge _ (List.mem_cons_self ..)
          have h4p : 4096 * 1 ≤ 4096 * p := Nat.mul_le_mul_left _ HP.out
          obtain ⟨j, hj1, hj2, hj3, hj4⟩ := fr_one u p HP.out 4096 (f + k * p) [] (by omega)
          have hkj : k + j ≤ u + 1 := kbound HP.out hj4 (by have := HF.out.kn; omega)
          have cA := advance_any c v _ (u : Int) wr HF.out.ck
          rw [adS_one (by omega) (by omega) hj2] at cA
          have HJ3 := Lib.hid hj3
          have HJ4 := Lib.hid hj4
          have HNW : Hid (u ≤ 1000 * (i + 1)) := Lib.hid (by have := HF.out.nw; omega)
          have HFM := Lib.hid HF.out.fm
          have HCK := Lib.hid HF.out.ck
          have hkj2 : k + j ≤ 41001 := by omega
          have HU := Lib.hid hu1
          have hu3 : (now : Int) + (x : Int) % 1000 = (u : Int) := by omega
          clear hge h4p hj2 hj3 hj4 hu hu1 hm1 hx1 HF
          go_upto_region 12 with (fail)
          clear hu3 q0
          go_wp2_with (go_at_call 17; refine cA.mono ?_; rintro e w4 ⟨x4, v4, rfl, hx4, K4, -, F4, -⟩; obtain ⟨X4, d4, hx5, hX4⟩ := own_nil_or hx4; rw [one_len] at hx5; subst hx5)
          have HX4 := Lib.hid (And.intro hx4 hX4)
          have HK4 := Lib.hid (And.intro K4 (HFM.out.tr (HCK.out.low F4 (Nat.le_refl _))))
          clear hx4 hX4 K4 F4 cA
          go_loopg [11, 15] j (fun kx s11 s15 wi => ∃ t k2 : Nat, t ≤ j ∧ s15 = .int .i64 (t : Int) ∧ s11 = .int .i64 (k2 : Int) ∧ j - t ≤ kx ∧ k2 ≤ 50000 ∧ Hid (k2 = k + t) ∧ Hid (Below w4.heap.size w4 wi))
          case atStart => exact ⟨0, k, Nat.zero_le _, rfl, rfl, by omega, by omega, Lib.hid rfl, Lib.hid (Below.refl _ _)⟩
          case round =>
            obtain ⟨t, k2, ht, rfl, rfl, hgt, hk2, HK2, HB⟩ := hrel
            obtain ⟨m, hm⟩ : ∃ m, k2 * p = m := ⟨_, rfl⟩
            have hmul : (k2 : Int) * (p : Int) = (m : Int) := by rw [← hm]; exact (Int.natCast_mul k2 p).symm
            have hmb : m ≤ 12750000 := by rw [← hm]; exact mul_small hk2 hp
            have hmt : f + k * p + t * p = f + m := by rw [← hm, HK2.out, Nat.add_mul, Nat.add_assoc]
            by_cases htj : t < j
            · have htl : t < (one (f + k * p) p j).length := by rw [one_len]; exact htj
              obtain ⟨g4, rfl, g4l⟩ : ∃ g, X4 = some ⟨g, 0, none⟩ ∧ g < w4.heap.size := by
                rcases HX4.out.2 with ⟨-, -, h⟩ | ⟨g, h, -, h2, -⟩
                · rw [one_len] at h; omega
                · exact ⟨g, h, h2⟩
              have hx4 := HX4.out.1
              have k0 : wr.cell? ⟨g4, t * 2, none⟩ = some (.int .i64 1) := cell_next HB.out (own_cells e2_len (by unfold OwF at hx4; rw [one_len] at hx4 ⊢; exact hx4) t htl 0 _ (by rw [one_get]; rfl))
              have k1 : wr.cell? ⟨g4, t * 2 + 1, none⟩ = some (.int .i64 ((f : Int) + (m : Int))) := cell_next HB.out (own_cells e2_len (by unfold OwF at hx4; rw [one_len] at hx4 ⊢; exact hx4) t htl 1 _ (by rw [one_get, hmt]; show some (Value.int .i64 ((f + m : Nat) : Int)) = _; rw [Int.natCast_add]))
              have gl := Nat.lt_of_lt_of_le g4l HB.out.size
              have hle : f + m ≤ u := by rw [← hmt]; exact HJ4.out t htj
              have d5 : decide ((u : Int) < (f : Int) + (m : Int)) = false := decide_eq_false (by omega)
              have htj2 : (t : Int) < (j : Int) := by omega
              have hne : ((f : Int) + (m : Int) != (f : Int) + (m : Int)) = false := by simp
              clear hx4 htl hmt hm
              go_wp2_with fail
              go_roundg (j - (t + 1))
              case measure => omega
              case rel => exact ⟨t + 1, k2 + 1, by omega, rfl, rfl, Nat.le_refl _, by have := HK2.out; omega, Lib.hid (by rw [HK2.out]; omega), HB⟩
            · obtain rfl : t = j := by omega
              have KN := HK4.out.1.next HB.out
              have cN := next_any c v4 _ wr KN
              have hat : f + (k + t) * p = f + m := by rw [← hm, HK2.out]
              have hj3 := HJ3.out
              rw [hmt] at hj3
              have d6 : decide ((f : Int) + (m : Int) ≤ (u : Int)) = false := decide_eq_false (by omega)
              have cN2 : Calls Try.prog 12 #[(.pointer (some ⟨c, 0, none⟩))] wr (Ib (.tuple #[.int .i64 ((f : Int) + (m : Int)), .bool true]) wr) := by
                rw [← Int.natCast_add, ← hat]
                exact cN
              have hne : ((f : Int) + (m : Int) != (f : Int) + (m : Int)) = false := by simp
              have HKN := Lib.hid KN
              have HKJ := Lib.hid hkj
              clear cN hat hj3 hmt hm KN hkj
              go_wp2_with (go_at_call 12; refine cN2.mono ?_; rintro e w8 ⟨rfl, hb8⟩)
              go_roundg (n - (i + 1))
              case measure => omega
              case rel => exact ⟨i + 1, u, k2, v4, by omega, rfl, rfl, rfl, Nat.le_refl _, by have := HNW.out; omega, by have := HNW.out; have := HK2.out; have := HKJ.out; omega, Lib.hid ⟨by rw [HK2.out]; exact HKN.out.next hb8, (HK4.out.2.tr (Fm.of _ HB.out)).tr (Fm.of _ hb8), HNW.out, by rw [HK2.out]; exact HKJ.out⟩⟩
        · obtain rfl : i = n := by omega
          have hF := HF.out.fm
          go_wp2_with (refine (awake_any _).mono ?_; rintro e w9 ⟨rfl, hb9⟩)
          go_ret
          exact ⟨rfl, (hF.tr (Fm.of _ hb9)).below (by rw [HC.out]; exact Nat.le_refl _) fun i e => by rw [HC.out]; exact e⟩
end Go.Proofs.Ytiooilkbbfflaaa

/-
  Reading a varint: the reference's function. No conditions but Go's own bound of a string's length.
-/
import Derived.Test.YtcjaaijohapeaaaDoorWd
namespace Go.Proofs.YtcjaaijohapeaaaDoor
open Go.RowKit
theorem dv_at2 (i n j : Nat) (l : List UInt8) (h : j < l.length) : dv i n (l.drop j) =
    if i = 9 ∧ 1 < l[j].toNat then (0, 0, 2)
    else if 128 ≤ l[j].toNat then dv (i + 1) (n + l[j].toNat % 128 * 128 ^ i) (l.drop (j + 1))
    else if l[j].toNat = 0 ∧ 0 < i then (0, 0, 2)
    else (n + l[j].toNat % 128 * 128 ^ i, i + 1, 0) := by
  rw [List.drop_eq_getElem_cons h, dv]
theorem pow9 {i : Nat} (h : i ≤ 9) : 128 ^ i ≤ 9223372036854775808 := Nat.le_trans (Nat.pow_le_pow_right (by decide) h) (by decide)
set_option maxRecDepth 100000 in
set_option maxHeartbeats 1000000 in
theorem varint_any (l : List UInt8) (w : World) (a x k e : Nat) (hl : l.length ≤ 9223372036854775000) (ha : a ≤ l.length) (h : dv 0 0 (l.drop a) = (x, k, e)) :
    Calls Tryd.prog 93 #[.string (bs l), .int .i64 (a : Int)] w (Is (.tuple #[.int .u64 (x : Int), .int .i64 ((a + k : Nat) : Int), .int .i64 (e : Int)]) w) := by
  have hsz : (bs l).size = l.length := rfl
  go_enter Tryd.func93, Tryd.ntmps93
  go_wp2_with fail
  go_loop [7, 8, 9] (fun u g v => ∃ i n c : Nat, i ≤ 9 ∧ v = .int .i64 (i : Int) ∧ u = .int .u64 (n : Int) ∧ g = .int .u64 (c : Int) ∧ a + i ≤ l.length ∧ Hid (n < 128 ^ i ∧ dv i n (l.drop (a + i)) = (x, k, e) ∧ c = 128 ^ i)) (fun _ _ v => 10 - (intOf v).toNat)
  case atStart => exact ⟨0, 0, 1, by omega, rfl, rfl, rfl, by omega, Lib.hid ⟨by decide, h, rfl⟩⟩
  case round =>
    obtain ⟨i, n, g, hi, rfl, rfl, rfl, hil, hI⟩ := hrel
    obtain ⟨j, hj⟩ : ∃ j, a + i = j := ⟨_, rfl⟩
    have l0 : IntKind.i64.wrap ((a : Int) + (i : Int)) = (j : Int) := by rw [show (a : Int) + (i : Int) = (j : Int) by omega]; exact IntWalk.i64_in _ (by omega)
    have l00 : (a : Int) + (i : Int) = (j : Int) := by omega
    have hb := hI.out.1
    have E := hI.out.2.1
    have hg := hI.out.2.2
    rw [hj] at E hil
    clear h hI
    by_cases hlt : j < l.length
    · obtain ⟨c, hc2⟩ : ∃ c, (l[j]'hlt).toNat = c := ⟨_, rfl⟩
      have hc3 : c < 256 := by rw [← hc2]; exact UInt8.toNat_lt _
      rw [dv_at2 i n j l hlt, hc2] at E
      have hlt2 : j < (bs l).size := hlt
      have hc : ((bs l)[j]'hlt2).toNat = c := hc2
      clear hc2
      obtain ⟨m, hm⟩ : ∃ m, c % 128 = m := ⟨_, rfl⟩
      obtain ⟨y, hy⟩ : ∃ y, m * 128 ^ i = y := ⟨_, rfl⟩
      obtain ⟨s, hs⟩ : ∃ s, n + y = s := ⟨_, rfl⟩
      have k1 : (c : Int) % 128 = (m : Int) := by omega
      have k23 : (i = 9 → c ≤ 1) → IntKind.u64.wrap ((m : Int) * (g : Int)) = (y : Int) ∧ IntKind.u64.wrap ((n : Int) + (y : Int)) = (s : Int) := fun h => by
        have h4 := or_lt n m i hb (by omega) hi (fun h1 => by have := h h1; omega)
        rw [hy] at h4
        rw [← Int.natCast_mul, hg, hy, IntKind.wrap_u64, ← Int.natCast_add, hs, IntKind.wrap_u64]
        omega
      rw [hm, hy, hs] at E
      by_cases hA : i = 9 ∧ 1 < c
      · rw [if_pos hA] at E
        cases E
        obtain ⟨hA1, hA2⟩ := hA
        have d1 : decide ((1 : Int) < (c : Int)) = true := by simp; omega
        have d9 : ((i : Int) == 9) = true := by simp; omega
        clear k1 k23 hm hy hs hA1 hb hg
        go_wp2_with fail
        go_ret3
        exact ⟨rfl, rfl⟩
      · rw [if_neg hA] at E
        obtain ⟨k2, k3⟩ := k23 (fun h => by omega)
        have hA2 : ((i : Int) == 9) = false ∨ (((i : Int) == 9) = true ∧ decide ((1 : Int) < (c : Int)) = false) := by
          by_cases h : i = 9
          · exact .inr ⟨by simp; omega, by simp; omega⟩
          · exact .inl (by simp; omega)
        have hb2 := Lib.hid (show s < 128 ^ (i + 1) from by rw [← hs, ← hy]; exact or_lt2 n m i hb (by omega))
        obtain ⟨g2, hg2⟩ : ∃ g2 : Nat, IntKind.u64.wrap ((g : Int) * 128) = (g2 : Int) := ⟨(IntKind.u64.wrap ((g : Int) * 128)).toNat, by simp only [IntKind.wrap_u64]; omega⟩
        have HG : i + 1 ≤ 9 → Hid (g2 = 128 ^ (i + 1)) := fun h9 => Lib.hid (by
          have := pow9 h9
          rw [Nat.pow_succ, ← hg] at this
          rw [Nat.pow_succ, ← hg]
          rw [IntKind.wrap_u64] at hg2
          omega)
        have hj1 : j + 1 ≤ l.length := hlt
        clear k23 hb hg
        by_cases hB : 128 ≤ c
        · rw [if_pos hB] at E
          have d9 : ((i : Int) == 9) = false := by rcases hA2 with h | h; exact h; have h2 := h.2; simp at h2; omega
          have hi9 : i + 1 ≤ 9 := by simp at d9; omega
          have HG2 := HG hi9
          have E2 := Lib.hid (And.intro hb2.out (And.intro (show dv (i + 1) s (l.drop (a + (i + 1))) = (x, k, e) by rw [show a + (i + 1) = j + 1 by omega]; exact E) HG2.out))
          have hB2 : decide ((c : Int) < 128) = false := by simp; omega
          clear hm hy hs hA hA2 hB E hb2 HG HG2
          go_wp2_with fail
          go_round
          case rel => exact ⟨i + 1, s, g2, hi9, by go_num, rfl, rfl, by omega, E2⟩
          case measure => simp [intOf]; omega
        · rw [if_neg hB] at E
          have hB2 : decide ((c : Int) < 128) = true := by simp; omega
          by_cases hC : c = 0 ∧ 0 < i
          · rw [if_pos hC] at E
            cases E
            have dz : ((c : Int) == 0) = true := by simp; omega
            have dz2 : (c = 0) = True := by simp; omega
            have d0 : (0 < i) = True := by simp; omega
            clear hm hy hs hA hC hB hb2 HG
            rcases hA2 with d9 | ⟨d9, d1⟩
            all_goals
              go_wp2_with fail
              go_ret3
              exact ⟨rfl, rfl⟩
          · rw [if_neg hC] at E
            cases E
            have hC2 : (c = 0) = False ∨ ((c = 0) = True ∧ (0 < i) = False) := by
              by_cases h : c = 0
              · exact .inr ⟨by simp; omega, by simp; omega⟩
              · exact .inl (by simp; omega)
            obtain ⟨f, hf⟩ : ∃ f, a + (i + 1) = f := ⟨_, rfl⟩
            rw [hf]
            have l1 : IntKind.i64.wrap ((j : Int) + 1) = (f : Int) := by rw [show (j : Int) + 1 = (f : Int) by omega]; exact IntWalk.i64_in _ (by omega)
            have l11 : (j : Int) + 1 = (f : Int) := by omega
            clear hm hy hs hA hC hB hb2 HG
            rcases hA2 with d9 | ⟨d9, d1⟩ <;> rcases hC2 with dz | ⟨dz, d0⟩
            all_goals
              go_wp2_with fail
              go_ret3
              exact ⟨rfl, rfl⟩
    · obtain rfl : j = l.length := by omega
      rw [List.drop_length, dv] at E
      cases E
      clear hb hg hj
      have hi10 : i < 10 := by omega
      go_wp2_with fail
      go_ret3
      exact ⟨rfl, rfl⟩
end Go.Proofs.YtcjaaijohapeaaaDoor

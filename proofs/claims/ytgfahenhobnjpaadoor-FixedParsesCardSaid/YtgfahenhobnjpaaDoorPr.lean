/-
  Contracts of the roots, the program's and the reference's. No conditions but those stated.
-/
import Derived.Test.YtgfahenhobnjpaaDoorPe
namespace Go.Proofs.YtgfahenhobnjpaaDoor
open Go.RowKit
/-- The greatest number whose square is at most n. -/
def isq : Nat → Nat
  | 0 => 0
  | n + 1 => if (isq n + 1) * (isq n + 1) ≤ n + 1 then isq n + 1 else isq n
theorem isq_spec (n : Nat) : isq n * isq n ≤ n ∧ n < (isq n + 1) * (isq n + 1) := by
  induction n with
  | zero => exact ⟨Nat.le_refl _, by decide⟩
  | succ n ih =>
    unfold isq
    split
    · rename_i h
      refine ⟨h, ?_⟩
      have : (isq n + 1 + 1) * (isq n + 1 + 1) = (isq n + 1) * (isq n + 1) + 2 * (isq n + 1) + 1 := by grind
      omega
    · omega
theorem isq_uniq {n r : Nat} (h1 : r * r ≤ n) (h2 : n < (r + 1) * (r + 1)) : isq n = r := by
  obtain ⟨a, b⟩ := isq_spec n
  rcases Nat.lt_trichotomy (isq n) r with h | h | h
  · have := Nat.mul_le_mul (show isq n + 1 ≤ r from h) (show isq n + 1 ≤ r from h); omega
  · exact h
  · have := Nat.mul_le_mul (show r + 1 ≤ isq n from h) (show r + 1 ≤ isq n from h); omega
/-- What the loops hold: the root is known but for the last k bits. -/
def RInv (n : Nat) (k r : Nat) : Prop := r % 2 ^ k = 0 ∧ r * r ≤ n ∧ n < (r + 2 ^ k) * (r + 2 ^ k) ∧ r + 2 ^ k ≤ 4294967296
theorem RInv.start {n : Nat} (h : n ≤ 9223372036854775807) : RInv n 32 0 := ⟨by simp, by omega, by omega, by omega⟩
theorem RInv.done {n r : Nat} (h : RInv n 0 r) : isq n = r := isq_uniq h.2.1 (by simpa using h.2.2.1)
theorem RInv.half {n k r : Nat} (h : RInv n (k + 1) r) : r % 2 ^ k = 0 ∧ r + 2 ^ k < 4294967296 ∧ 2 ^ (k + 1) = 2 ^ k + 2 ^ k ∧ 0 < 2 ^ k := by
  obtain ⟨h1, h2, h3, h4⟩ := h
  have e : 2 ^ (k + 1) = 2 ^ k + 2 ^ k := by rw [Nat.pow_succ]; omega
  have p := Nat.two_pow_pos k
  refine ⟨?_, by omega, e, p⟩
  have d : 2 ^ (k + 1) ∣ r := Nat.dvd_of_mod_eq_zero h1
  exact Nat.mod_eq_zero_of_dvd (Nat.dvd_trans ⟨2, by rw [Nat.pow_succ]⟩ d)
theorem RInv.set {n k r : Nat} (h : RInv n (k + 1) r) (hc : (r + 2 ^ k) * (r + 2 ^ k) ≤ n) : RInv n k (r + 2 ^ k) := by
  obtain ⟨a, b, c, d⟩ := h.half
  obtain ⟨h1, h2, h3, h4⟩ := h
  refine ⟨by rw [Nat.add_mod_right]; exact a, hc, ?_, by omega⟩
  rw [c] at h3
  rw [Nat.add_assoc]
  exact h3
theorem RInv.keep {n k r : Nat} (h : RInv n (k + 1) r) (hc : n < (r + 2 ^ k) * (r + 2 ^ k)) : RInv n k r := by
  obtain ⟨a, b, c, d⟩ := h.half
  exact ⟨a, h.2.1, hc, by omega⟩
theorem or_bit {r k : Nat} (h : r % 2 ^ (k + 1) = 0) : r ||| 2 ^ k = r + 2 ^ k := by
  obtain ⟨m, rfl⟩ := Nat.dvd_of_mod_eq_zero h
  exact (Nat.two_pow_add_eq_or_of_lt (by rw [Nat.pow_succ]; have := Nat.two_pow_pos k; omega) m).symm
set_option maxHeartbeats 1000000 in
theorem root_neg (n : Int) (w : World) (h1 : n < 0) :
    Calls Tryd.prog 26 #[.int .i64 n] w (Is (.int .i64 0) w) := by
  go_enter Tryd.func26, Tryd.ntmps26
  go_wp2_with fail
  go_ret
  exact ret_is rfl
set_option maxRecDepth 100000 in
set_option maxHeartbeats 1000000 in
theorem root_pos (n : Nat) (w : World) (h2 : n ≤ 9223372036854775807) :
    Calls Tryd.prog 26 #[.int .i64 (n : Int)] w (Is (.int .i64 (isq n : Nat)) w) := by
  have L0 := Lib.hid (RInv.start h2)
  have k0 := wrapN n (by omega)
  have hn : decide ((n : Int) < 0) = false := by simp
  have H2 := Lib.hid h2
  clear h2
  go_enter Tryd.func26, Tryd.ntmps26
  go_wp2_with fail
  go_loop [3, 8] (fun u i => ∃ k r : Nat, k ≤ 32 ∧ i = .int .i64 (k : Int) ∧ u = .int .u64 (r : Int) ∧ RInv n (32 - k) r) (fun _ i => 32 - (intOf i).toNat)
  case atStart => exact ⟨0, 0, by omega, rfl, rfl, L0.out⟩
  case round =>
    obtain ⟨k, r, hk, rfl, rfl, hI⟩ := hrel
    by_cases hlt : k < 32
    · obtain ⟨j, hj⟩ : ∃ j, 31 - k = j := ⟨_, rfl⟩
      have hj2 : 32 - k = j + 1 := by omega
      have hj3 : (31 : Int) - (k : Int) = (j : Int) := by omega
      rw [hj2] at hI
      have g1 := RInv.half hI
      obtain ⟨c, hc⟩ : ∃ c, r + 2 ^ j = c := ⟨_, rfl⟩
      obtain ⟨s, hs⟩ : ∃ s, c * c = s := ⟨_, rfl⟩
      have l1 : bits BinOp.or IntKind.u64 (r : Int) (IntKind.u64.wrap (2 ^ j)) = (c : Int) := by
        rw [show (2 : Int) ^ j = ((2 ^ j : Nat) : Int) by simp, wrapN _ (by omega), bits_or_u64_nat _ _ (by omega) (by omega), or_bit hI.1, hc]
      have l2 : IntKind.u64.wrap ((c : Int) * (c : Int)) = (s : Int) := by
        have := Nat.mul_le_mul (show c ≤ 4294967295 by omega) (show c ≤ 4294967295 by omega)
        rw [← Int.natCast_mul, hs, wrapN _ (by omega)]
      by_cases hle : (s : Int) ≤ (n : Int)
      · have N : RInv n (32 - (k + 1)) c := by
          rw [show 32 - (k + 1) = j by omega, ← hc]
          exact hI.set (by rw [hc, hs]; omega)
        have HN := Lib.hid N
        clear N hc hs hI g1 hj hj2
        go_wp2_with fail
        go_round
        case rel => exact ⟨k + 1, c, by omega, by go_num, rfl, HN.out⟩
        case measure => simp [intOf]; omega
      · have N : RInv n (32 - (k + 1)) r := by
          rw [show 32 - (k + 1) = j by omega]
          exact hI.keep (by rw [hc, hs]; omega)
        have HN := Lib.hid N
        have hd : decide (s ≤ n) = false := by simp; omega
        clear N hc hs hI g1 hj hj2 hle
        go_wp2_with fail
        go_round
        case rel => exact ⟨k + 1, r, by omega, by go_num, rfl, HN.out⟩
        case measure => simp [intOf]; omega
    · obtain rfl : k = 32 := by omega
      have e := hI.done
      have hb := hI.2.2.2
      subst e
      have l1 : wrap64 (isq n : Nat) = (isq n : Nat) := by unfold wrap64; omega
      clear hb
      go_wp2_with fail
      go_ret
      exact ret_is rfl
theorem isq_le {n : Nat} (h : n ≤ 9223372036854775807) : isq n ≤ 3037000499 := by
  obtain ⟨a, b⟩ := isq_spec n
  rcases Nat.lt_or_ge 3037000499 (isq n) with h1 | h1
  · have := Nat.mul_le_mul h1 h1; omega
  · exact h1
theorem RInv.set' {n : Int} {j r b c s : Nat} (hI : RInv n.toNat (j + 1) r) (hb : 2 ^ j = b) (hc : r + b = c) (hs : c * c = s) (h : (s : Int) ≤ n) : RInv n.toNat j c := by
  rw [← hc, ← hb]
  refine hI.set ?_
  rw [hb, hc, hs]
  omega
theorem RInv.keep' {n : Int} {j r b c s : Nat} (hI : RInv n.toNat (j + 1) r) (hb : 2 ^ j = b) (hc : r + b = c) (hs : c * c = s) (h : ¬ (s : Int) ≤ n) (h0 : 0 < b) : RInv n.toNat j r := by
  refine hI.keep ?_
  rw [hb, hc, hs]
  have := Nat.mul_pos (show 0 < c by omega) (show 0 < c by omega)
  omega
theorem RInv.keep2 {n : Int} {j r b c : Nat} (hI : RInv n.toNat (j + 1) r) (hb : 2 ^ j = b) (hc : r + b = c) (hn : n ≤ 9223372036854775807) (h : 3037000500 ≤ c) : RInv n.toNat j r := by
  refine hI.keep ?_
  rw [hb, hc]
  have := Nat.mul_le_mul h h
  omega
theorem wrap64_sq {c s : Nat} (hs : c * c = s) (h : c ≤ 3037000499) : wrap64 ((c : Int) * (c : Int)) = (s : Int) := by
  have := Nat.mul_le_mul h h
  rw [← Int.natCast_mul, hs]
  unfold wrap64
  omega
/-- The root of an integer. -/
def rootI (n : Int) : Int := (isq n.toNat : Nat)
theorem root_any (n : Int) (w : World) (h2 : n ≤ 9223372036854775807) :
    Calls Tryd.prog 26 #[.int .i64 n] w (Is (.int .i64 (rootI n)) w) := by
  rcases Int.lt_or_le n 0 with h | h
  · have e : rootI n = 0 := by unfold rootI; rw [show n.toNat = 0 by omega]; rfl
    rw [e]
    exact root_neg n w h
  · obtain ⟨m, rfl⟩ : ∃ m : Nat, n = (m : Int) := ⟨n.toNat, by omega⟩
    exact root_pos m w (by omega)
end Go.Proofs.YtgfahenhobnjpaaDoor

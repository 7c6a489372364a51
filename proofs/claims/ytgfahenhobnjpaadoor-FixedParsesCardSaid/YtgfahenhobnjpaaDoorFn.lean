/-
  A number is parsed from its text with an error of at most 1. Mathematics of the texts only.
-/
import Derived.Test.YtgfahenhobnjpaaDoorFh
namespace Go.Proofs.YtgfahenhobnjpaaDoor
open Go.RowKit
theorem dg_of (k : Nat) (h : k < 10) : isDg (UInt8.ofNat (48 + k)) = true ∧ (UInt8.ofNat (48 + k)).toNat - 48 = k := by
  have : k = 0 ∨ k = 1 ∨ k = 2 ∨ k = 3 ∨ k = 4 ∨ k = 5 ∨ k = 6 ∨ k = 7 ∨ k = 8 ∨ k = 9 := by omega
  rcases this with rfl | rfl | rfl | rfl | rfl | rfl | rfl | rfl | rfl | rfl <;> exact ⟨by decide, by decide⟩
theorem dec_dg (n : Nat) : (Lib.decDigits n).all isDg = true ∧ numB (Lib.decDigits n) = n := by
  induction n using Nat.strongRecOn with
  | _ n ih =>
    rw [Lib.decDigits]
    by_cases h : n < 10
    · rw [dif_pos h]
      have := dg_of n h
      refine ⟨by rw [List.all_cons, this.1]; rfl, ?_⟩
      show 10 * 0 + ((UInt8.ofNat (48 + n)).toNat - 48) = n
      rw [this.2]; omega
    · rw [dif_neg h]
      have h2 := ih (n / 10) (by omega)
      have := dg_of (n % 10) (by omega)
      refine ⟨by rw [List.all_append, h2.1, List.all_cons, this.1]; rfl, ?_⟩
      rw [numB_snoc, h2.2, this.2]; omega
theorem dec_head (n : Nat) (h : 0 < n) : (Lib.decDigits n).head? ≠ some 48 := by
  induction n using Nat.strongRecOn with
  | _ n ih =>
    rw [Lib.decDigits]
    by_cases h1 : n < 10
    · rw [dif_pos h1]
      intro e
      have := (dg_of n h1).2
      rw [show UInt8.ofNat (48 + n) = 48 from Option.some.inj e] at this
      revert this
      show (48 : Nat) - 48 = n → False
      omega
    · rw [dif_neg h1]
      have h2 := ih (n / 10) (by omega) (by omega)
      rw [List.head?_append]
      cases hh : (Lib.decDigits (n / 10)).head? with
      | none =>
        have e := List.head?_eq_none_iff.1 hh
        have := (dec_dg (n / 10)).2
        rw [e] at this
        revert this
        show (0 : Nat) = n / 10 → _
        omega
      | some a => rw [hh] at h2; exact h2
theorem dec_len10 (n : Nat) (h : n < 10000000000) : 1 ≤ (Lib.decDigits n).length ∧ (Lib.decDigits n).length ≤ 10 := by
  have key : ∀ k n : Nat, n < 10 ^ (k + 1) → 1 ≤ (Lib.decDigits n).length ∧ (Lib.decDigits n).length ≤ k + 1 := by
    intro k
    induction k with
    | zero => intro n hn; rw [Lib.decDigits, dif_pos (by omega)]; exact ⟨Nat.le_refl _, Nat.le_refl _⟩
    | succ k ih =>
      intro n hn
      rw [Lib.decDigits]
      by_cases h1 : n < 10
      · rw [dif_pos h1]; simp
      · rw [dif_neg h1]
        have := ih (n / 10) (by rw [Nat.pow_succ] at hn; omega)
        simp; omega
  exact key 9 n h
theorem dec5_dg {m : Nat} (h : m < 100000) : (dec5 m).all isDg = true ∧ numB (dec5 m) = m := by
  obtain ⟨a0, b0⟩ := dg_of (m / 10000 % 10) (by omega)
  obtain ⟨a1, b1⟩ := dg_of (m / 1000 % 10) (by omega)
  obtain ⟨a2, b2⟩ := dg_of (m / 100 % 10) (by omega)
  obtain ⟨a3, b3⟩ := dg_of (m / 10 % 10) (by omega)
  obtain ⟨a4, b4⟩ := dg_of (m % 10) (by omega)
  refine ⟨by unfold dec5; simp only [List.all_cons, a0, a1, a2, a3, a4]; rfl, ?_⟩
  unfold numB dec5
  simp only [List.foldl_cons, List.foldl_nil, b0, b1, b2, b3, b4]
  omega
theorem head_dg (l r : List UInt8) (h : l.all isDg = true) (h1 : 1 ≤ l.length) : neg45 (l ++ r) = false := by
  cases l with
  | nil => simp at h1
  | cons b l =>
    rw [List.all_cons, Bool.and_eq_true] at h
    unfold neg45
    rw [List.cons_append, List.head?_cons]
    by_cases hb : b = 45
    · subst hb; exact absurd h.1 (by decide)
    · exact beq_eq_false_iff_ne.2 fun e => hb (Option.some.inj e)
/-- What Parse gives for the text of a number. -/
theorem par_fmt (a : Int) (h1 : -140737488355328 ≤ a) (h2 : a ≤ 140737488355328) :
    ∃ b : Int, parB (sgnB (decide (a < 0)) ++ fmtM a.natAbs) = .tuple #[.int .i64 b, .int .i64 0] ∧ -1 ≤ b - a ∧ b - a ≤ 1 := by
  obtain ⟨n, hn⟩ : ∃ n, a.natAbs = n := ⟨_, rfl⟩
  have hn2 : n ≤ 140737488355328 := by omega
  rw [hn]
  obtain ⟨q, hq⟩ : ∃ q, n / 65536 = q := ⟨_, rfl⟩
  obtain ⟨m, hm⟩ : ∃ m, n % 65536 * 100000 / 65536 = m := ⟨_, rfl⟩
  have hm5 : m < 100000 := by omega
  have hq10 : q ≤ 2147483648 := by omega
  obtain ⟨u, hu⟩ : ∃ u, fmtM n = u := ⟨_, rfl⟩
  have hu2 : u = Lib.decDigits q ++ 46 :: dec5 m := by rw [← hu]; unfold fmtM; rw [hq, hm]
  have hd := dec_dg q
  have hl := dec_len10 q (by omega)
  have h5 := dec5_dg hm5
  have hnu : neg45 u = false := by rw [hu2]; exact head_dg _ _ hd.1 hl.1
  obtain ⟨e1, e2, e3⟩ := dig_dot (dec5 m) hd.1
  rw [← hu2] at e1 e2 e3
  have hneg : neg45 (sgnB (decide (a < 0)) ++ u) = decide (a < 0) := by
    cases decide (a < 0) with
    | true => rfl
    | false => exact hnu
  have hun : unsg (sgnB (decide (a < 0)) ++ u) = u := by
    unfold unsg
    rw [hneg]
    cases decide (a < 0) <;> rfl
  have hne : sgnB (decide (a < 0)) ++ u ≠ [] := by
    intro e
    have := congrArg List.length e
    rw [List.length_append, hu2, List.length_append] at this
    simp at this
  have hw : whole (Lib.decDigits q) = true := (whole_iff hd.1).2 ⟨hl.1, hl.2, by
    rintro ⟨k1, k2⟩
    by_cases h0 : q = 0
    · subst h0; rw [Lib.decDigits_one (by decide)] at k1; exact absurd k1 (by decide)
    · exact dec_head q (by omega) k2⟩
  have hok : okB u = true := by
    unfold okB
    rw [e1, e2, e3, hw, (digs_iff (dec5 m) 5).2 ⟨by show 1 ≤ 5; decide, by show 5 ≤ 5; decide, h5.1⟩]; rfl
  have hsc : scB u = q * 100000 + m := by
    unfold scB
    rw [e1, e2, hd.2, h5.2, show 5 - (dec5 m).length = 0 by rfl, Nat.pow_zero, Nat.mul_one]
  unfold parB
  rw [hu, if_neg hne, hun, hneg, if_neg (by rw [hok]; decide), hsc, if_neg (by omega)]
  refine ⟨_, rfl, ?_⟩
  unfold qlim sgn
  rw [show 100000 / 2 = 50000 by rfl]
  by_cases ha : a < 0
  · rw [if_pos (by simpa using ha)]; omega
  · rw [if_neg (by simpa using ha)]; omega
theorem parB_shape (l : List UInt8) : ∃ n e : Int, parB l = .tuple #[.int .i64 n, .int .i64 e] ∧ -9223372036854775808 ≤ n ∧ n ≤ 9223372036854775807 := by
  unfold parB
  split
  · exact ⟨_, _, rfl, by decide, by decide⟩
  split
  · exact ⟨_, _, rfl, by decide, by decide⟩
  split
  · exact ⟨_, _, rfl, by decide, by decide⟩
  · have := qlim_le (scB (unsg l) * 65536) 100000
    refine ⟨_, _, rfl, ?_, ?_⟩ <;> (unfold sgn; split <;> omega)
end Go.Proofs.YtgfahenhobnjpaaDoor

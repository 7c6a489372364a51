/-
  Plain mathematics of decimal digits: what is written reads as it was. No conditions.
-/
import Derived.Test.YtaiceebhifecbaaDoorT20
namespace Go.Proofs.YtaiceebhifecbaaDoor
namespace Nm
theorem dval_cons (c : Nat) (l : List Nat) : dval (c :: l) = 10 ^ l.length * (c - 48) + dval l := by
  have h := dval_append [c] l
  have h1 : dval [c] = c - 48 := by simp [dval]
  rw [h1] at h
  exact h
theorem dval_digs (k v : Nat) : dval (digs k v).reverse = v % 10 ^ k := by
  induction k with
  | zero => simp [digs, dval, Nat.mod_one]
  | succ k ih =>
    rw [digs_succ, List.reverse_append]
    show dval ((48 + v / 10 ^ k % 10) :: (digs k v).reverse) = _
    rw [dval_cons, ih, List.length_reverse, digs_length, Nat.add_sub_cancel_left, Nat.mod_pow_succ, Nat.add_comm]
theorem dval_dec (v : Nat) : dval (dec v) = v := by
  unfold dec
  split
  · rename_i h; subst h; rfl
  · rw [dval_digs, Nat.mod_eq_of_lt (lt_nd v)]
theorem digs_dval : ∀ (m : List Nat), alldec m → digs m.length (dval m.reverse) = m := by
  intro m
  induction m with
  | nil => intro _; rfl
  | cons c m ih =>
    intro h
    have h1 := h c (by simp)
    have h2 := ih fun x hx => h x (by simp [hx])
    rw [List.reverse_cons, dval_snoc, List.length_cons, Nat.add_comm m.length 1, digs_add]
    have h3 : (10 * dval m.reverse + (c - 48)) / 10 ^ 1 = dval m.reverse := by omega
    have h4 : digs 1 (10 * dval m.reverse + (c - 48)) = [c] := by
      simp [digs]
      omega
    rw [h3, h2, h4]
    rfl
theorem dec_dval {l : List Nat} (h0 : l.length ≠ 0) (hd : alldec l) (h : ¬ (l.head? = some 48 ∧ 1 < l.length)) : dec (dval l) = l := by
  have hg : (digs l.length (dval l)).reverse = l := by
    have h1 := digs_dval l.reverse fun x hx => hd x (by simpa using hx)
    rw [List.length_reverse, List.reverse_reverse] at h1
    rw [h1, List.reverse_reverse]
  cases l with
  | nil => exact absurd rfl h0
  | cons c m =>
    have hc := hd c (by simp)
    by_cases h48 : c = 48
    · have hm : m = [] := by
        refine List.eq_nil_of_length_eq_zero ?_
        rcases Nat.eq_zero_or_pos m.length with h5 | h5
        · exact h5
        · exact absurd ⟨by simp [h48], by simp; omega⟩ h
      subst hm h48
      rfl
    · have h1 := dval_cons c m
      have h2 : 10 ^ m.length ≤ dval (c :: m) := by
        have : 10 ^ m.length * 1 ≤ 10 ^ m.length * (c - 48) := Nat.mul_le_mul_left _ (by omega)
        omega
      have h3 := dval_lt _ hd
      have hn : nd (dval (c :: m)) = (c :: m).length := nd_eq (k := m.length) h2 h3
      have hp : 0 < 10 ^ m.length := Nat.pow_pos (by omega)
      unfold dec
      rw [if_neg (by omega), hn]
      exact hg
theorem dec_len (v : Nat) : (dec v).length ≠ 0 := by
  unfold dec
  split
  · decide
  · rename_i h
    rw [List.length_reverse, digs_length]
    have := nd_gt h
    omega
theorem dec_alldec (v : Nat) : alldec (dec v) := by
  unfold dec
  split
  · intro c hc; simp at hc; omega
  · intro c hc; exact digs_lt _ _ c (by simpa using hc)
theorem dec_lead (v : Nat) : ¬ ((dec v).head? = some 48 ∧ 1 < (dec v).length) := by
  unfold dec
  split
  · simp
  · rename_i h
    rintro ⟨h1, _⟩
    have h3 := nd_gt h
    obtain ⟨k, hk⟩ : ∃ k, nd v = k + 1 := ⟨nd v - 1, by omega⟩
    have h4 := top_ne h
    rw [hk, Nat.add_sub_cancel] at h4
    rw [hk, digs_succ, List.reverse_append] at h1
    have h5 : 48 + v / 10 ^ k % 10 = 48 := by
      have : some (48 + v / 10 ^ k % 10) = some 48 := h1
      exact Option.some.inj this
    omega
theorem dec_short {v : Nat} (h : v < 10 ^ 400) : ¬ 400 < (dec v).length := by
  unfold dec
  split
  · decide
  · rw [List.length_reverse, digs_length]
    have := nd_le_of_lt h
    omega
end Nm
end Go.Proofs.YtaiceebhifecbaaDoor

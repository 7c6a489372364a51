/-
  Plain mathematics of decimal digits. No conditions.
-/
import Derived.Test.YtaiceebhifecbaaDoorT16
namespace Go.Proofs.YtaiceebhifecbaaDoor
namespace Nm
/-- The k lowest decimal digits of v, as bytes, the lowest first. -/
def digs (k v : Nat) : List Nat := (List.range k).map (fun i => 48 + v / 10 ^ i % 10)
theorem digs_length (k v : Nat) : (digs k v).length = k := by simp [digs]
theorem digs_at (k v i : Nat) (h : i < k) : (digs k v)[i]? = some (48 + v / 10 ^ i % 10) := by simp [digs, h]
theorem digs_succ (k v : Nat) : digs (k + 1) v = digs k v ++ [48 + v / 10 ^ k % 10] := by simp [digs, List.range_succ]
theorem digs_add (a b v : Nat) : digs (a + b) v = digs a v ++ digs b (v / 10 ^ a) := by
  induction b with
  | zero => simp [digs]
  | succ b ih =>
    rw [← Nat.add_assoc, digs_succ, ih, digs_succ, List.append_assoc, Nat.pow_add, Nat.div_div_eq_div_mul]
theorem digs_mod (q r t : Nat) (ht : t ≤ 9) : digs t (q * 1000000000 + r) = digs t r := by
  refine List.ext_getElem? fun i => ?_
  rcases Nat.lt_or_ge i t with h | h
  · rw [digs_at _ _ _ h, digs_at _ _ _ h]
    have h1 : 1000000000 = 10 ^ i * (10 * 10 ^ (8 - i)) := by
      rw [← Nat.pow_succ', ← Nat.pow_add, show i + (8 - i + 1) = 9 from by omega]
    have h2 : (q * 1000000000 + r) / 10 ^ i = 10 * (q * 10 ^ (8 - i)) + r / 10 ^ i := by
      rw [h1, ← Nat.mul_assoc, Nat.mul_comm q, Nat.mul_assoc, Nat.mul_add_div (Nat.pow_pos (by omega))]
      rw [← Nat.mul_assoc q 10, Nat.mul_comm q 10, Nat.mul_assoc]
    rw [h2, Nat.mul_add_mod]
  · rw [List.getElem?_eq_none (by rw [digs_length]; exact h), List.getElem?_eq_none (by rw [digs_length]; exact h)]
theorem digs_lt (k v : Nat) : ∀ c ∈ digs k v, 48 ≤ c ∧ c ≤ 57 := by
  intro c hc
  simp only [digs, List.mem_map] at hc
  obtain ⟨i, _, rfl⟩ := hc
  omega
theorem digs_take (k n v : Nat) (h : k ≤ n) : (digs n v).take k = digs k v := by
  refine List.ext_getElem? fun i => ?_
  rw [List.getElem?_take]
  split
  · rw [digs_at _ _ _ (by omega), digs_at _ _ _ (by omega)]
  · rw [List.getElem?_eq_none (by rw [digs_length]; omega)]
/-- The number of decimal digits. -/
def nd (v : Nat) : Nat := if h : v = 0 then 0 else nd (v / 10) + 1
termination_by v
decreasing_by omega
theorem nd_zero : nd 0 = 0 := by rw [nd]; simp
theorem nd_pos {v : Nat} (h : v ≠ 0) : nd v = nd (v / 10) + 1 := by rw [nd]; simp [h]
theorem lt_nd (v : Nat) : v < 10 ^ nd v := by
  induction v using Nat.strongRecOn with
  | _ v ih =>
    by_cases h : v = 0
    · subst h; simp [nd_zero]
    · rw [nd_pos h, Nat.pow_succ]
      have := ih (v / 10) (by omega)
      omega
theorem nd_le {v : Nat} (h : v ≠ 0) : 10 ^ (nd v - 1) ≤ v := by
  induction v using Nat.strongRecOn with
  | _ v ih =>
    rw [nd_pos h, Nat.add_sub_cancel]
    by_cases h1 : v / 10 = 0
    · rw [h1, nd_zero]; simp; omega
    · have := ih (v / 10) (by omega) h1
      have hp : nd (v / 10) = nd (v / 10) - 1 + 1 := by rw [nd_pos h1]; simp
      rw [hp, Nat.pow_succ]
      omega
theorem nd_le_of_lt {v k : Nat} (h : v < 10 ^ k) : nd v ≤ k := by
  by_cases h0 : v = 0
  · subst h0; simp [nd_zero]
  · have h1 := nd_le h0
    rcases Nat.lt_or_ge k (nd v) with h2 | h2
    · have : 10 ^ k ≤ 10 ^ (nd v - 1) := Nat.pow_le_pow_right (by omega) (by omega)
      omega
    · exact h2
theorem nd_gt {v : Nat} (h : v ≠ 0) : 0 < nd v := by rw [nd_pos h]; omega
theorem top_ne {v : Nat} (h : v ≠ 0) : v / 10 ^ (nd v - 1) % 10 ≠ 0 := by
  have h1 := nd_le h
  have h2 := lt_nd v
  have h3 := nd_gt h
  have h4 : 10 ^ nd v = 10 ^ (nd v - 1) * 10 := by rw [← Nat.pow_succ, show (nd v - 1).succ = nd v from by omega]
  have hp : 0 < 10 ^ (nd v - 1) := Nat.pow_pos (by omega)
  have h5 : v / 10 ^ (nd v - 1) < 10 := by rw [Nat.div_lt_iff_lt_mul hp, Nat.mul_comm, ← h4]; exact h2
  have h6 : 1 ≤ v / 10 ^ (nd v - 1) := by rw [Nat.le_div_iff_mul_le hp]; omega
  rw [Nat.mod_eq_of_lt h5]; omega
theorem zero_above {v i : Nat} (h : nd v ≤ i) : v / 10 ^ i = 0 := by
  apply Nat.div_eq_of_lt
  have h1 := lt_nd v
  have : 10 ^ nd v ≤ 10 ^ i := Nat.pow_le_pow_right (by omega) h
  omega
/-- The decimal digits of v, as bytes. -/
def dec (v : Nat) : List Nat := if v = 0 then [48] else (digs (nd v) v).reverse
end Nm
end Go.Proofs.YtaiceebhifecbaaDoor

/-
  Plain mathematics of lists of digits in base 2^32: their value, their length without leading zeros. Nothing of the program is imported. No conditions.
-/
namespace Go.Proofs.YtaiceebhifecbaaDoor
namespace Nm

/-- The number of digits without leading zeros. -/
def tlen : List Nat → Nat
  | [] => 0
  | z :: zs => if tlen zs = 0 then (if z = 0 then 0 else 1) else tlen zs + 1

theorem tlen_le (zs : List Nat) : tlen zs ≤ zs.length := by
  induction zs with
  | nil => simp [tlen]
  | cons z zs ih => simp only [tlen, List.length_cons]; split <;> (try split) <;> omega

theorem tlen_zero (zs : List Nat) (i : Nat) (h : tlen zs ≤ i) (hi : i < zs.length) : zs[i] = 0 := by
  induction zs generalizing i with
  | nil => simp at hi
  | cons z zs ih =>
    simp only [tlen] at h
    cases i with
    | zero =>
      split at h
      · split at h
        · simpa using ‹z = 0›
        · omega
      · omega
    | succ i =>
      simp only [List.getElem_cons_succ]
      refine ih i ?_ (by simpa using hi)
      split at h
      · omega
      · omega

theorem tlen_last (zs : List Nat) (i : Nat) (h : tlen zs = i + 1) (hi : i < zs.length) : zs[i] ≠ 0 := by
  induction zs generalizing i with
  | nil => simp at hi
  | cons z zs ih =>
    simp only [tlen] at h
    cases i with
    | zero =>
      split at h
      · split at h
        · omega
        · simpa
      · omega
    | succ i =>
      simp only [List.getElem_cons_succ]
      refine ih i ?_ (by simpa using hi)
      split at h
      · split at h <;> omega
      · omega

/-- The digits without leading zeros. -/
def trim (zs : List Nat) : List Nat := zs.take (tlen zs)

theorem trim_length (zs : List Nat) : (trim zs).length = tlen zs := by
  have := tlen_le zs
  simp [trim]; omega

/-- The value of a list of digits, the lowest first. -/
def val : List Nat → Nat
  | [] => 0
  | z :: zs => z + 4294967296 * val zs

/-- Every digit is below 2^32. -/
def Dig (zs : List Nat) : Prop := ∀ z ∈ zs, z < 4294967296


theorem Dig.cons {z : Nat} {zs : List Nat} (h : Dig (z :: zs)) : z < 4294967296 ∧ Dig zs := ⟨h z (by simp), fun x hx => h x (by simp [hx])⟩
theorem Dig.mk {z : Nat} {zs : List Nat} (h : z < 4294967296) (h' : Dig zs) : Dig (z :: zs) := by
  intro x hx
  rcases List.mem_cons.1 hx with rfl | hx
  · exact h
  · exact h' x hx
theorem Dig.nil : Dig [] := by intro x hx; simp at hx
theorem Dig.at_ {zs : List Nat} (h : Dig zs) {i : Nat} (hi : i < zs.length) : zs[i] < 4294967296 := h _ (List.getElem_mem hi)
theorem Dig.take {zs : List Nat} (h : Dig zs) (n : Nat) : Dig (zs.take n) := fun x hx => h x (List.mem_of_mem_take hx)
theorem Dig.drop {zs : List Nat} (h : Dig zs) (n : Nat) : Dig (zs.drop n) := fun x hx => h x (List.mem_of_mem_drop hx)
theorem Dig.append {xs ys : List Nat} (h : Dig xs) (h' : Dig ys) : Dig (xs ++ ys) := by
  intro x hx
  rcases List.mem_append.1 hx with hx | hx
  · exact h x hx
  · exact h' x hx
theorem Dig.set {zs : List Nat} (h : Dig zs) (i : Nat) {x : Nat} (hx : x < 4294967296) : Dig (zs.set i x) := by
  intro y hy
  rcases List.mem_or_eq_of_mem_set hy with hy | rfl
  · exact h y hy
  · exact hx

theorem val_lt {zs : List Nat} (h : Dig zs) : val zs < 4294967296 ^ zs.length := by
  induction zs with
  | nil => simp [val]
  | cons z zs ih =>
    have h1 := ih h.cons.2
    have h2 := h.cons.1
    simp only [val, List.length_cons, Nat.pow_succ]
    omega

theorem val_append (xs ys : List Nat) : val (xs ++ ys) = val xs + 4294967296 ^ xs.length * val ys := by
  induction xs with
  | nil => simp [val]
  | cons x xs ih =>
    simp only [List.cons_append, val, ih, List.length_cons, Nat.pow_succ, Nat.mul_add]
    rw [Nat.mul_comm (4294967296 ^ xs.length) 4294967296, Nat.mul_assoc]
    omega

theorem val_split (zs : List Nat) (k : Nat) (hk : k ≤ zs.length) : val zs = val (zs.take k) + 4294967296 ^ k * val (zs.drop k) := by
  conv => lhs; rw [← List.take_append_drop k zs]
  rw [val_append, List.length_take, Nat.min_eq_left hk]

theorem val_take_succ (zs : List Nat) (k : Nat) (hk : k < zs.length) : val (zs.take (k + 1)) = val (zs.take k) + 4294967296 ^ k * zs[k] := by
  rw [List.take_succ_eq_append_getElem hk, val_append, List.length_take, Nat.min_eq_left (by omega)]
  simp [val]

theorem val_tlen (zs : List Nat) : val (zs.take (tlen zs)) = val zs := by
  induction zs with
  | nil => simp [val, tlen]
  | cons z zs ih =>
    simp only [tlen]
    split
    · rename_i h0
      rw [h0] at ih
      simp [val] at ih
      split
      · rename_i hz
        subst hz
        simp [val, ← ih]
      · simp [val, ← ih]
    · simp [val, ih]

theorem tlen_pos_val {zs : List Nat} (h : 0 < tlen zs) : 4294967296 ^ (tlen zs - 1) ≤ val zs := by
  have hl := tlen_le zs
  have h1 := tlen_last zs (tlen zs - 1) (by omega) (by omega)
  have h2 := val_take_succ zs (tlen zs - 1) (by omega)
  rw [show tlen zs - 1 + 1 = tlen zs from by omega, val_tlen] at h2
  rw [h2]
  have : 4294967296 ^ (tlen zs - 1) * 1 ≤ 4294967296 ^ (tlen zs - 1) * zs[tlen zs - 1]'(by omega) := Nat.mul_le_mul_left _ (by omega)
  omega

theorem val_lt_tlen {zs : List Nat} (h : Dig zs) : val zs < 4294967296 ^ tlen zs := by
  have := val_lt (h.take (tlen zs))
  rwa [val_tlen, List.length_take, Nat.min_eq_left (tlen_le zs)] at this

/-- The digits of a number, the lowest first, without leading zeros. -/
def nat (n : Nat) : List Nat := if h : n = 0 then [] else n % 4294967296 :: nat (n / 4294967296)
termination_by n
decreasing_by omega

theorem nat_zero : nat 0 = [] := by rw [nat]; simp
theorem nat_pos {n : Nat} (h : n ≠ 0) : nat n = n % 4294967296 :: nat (n / 4294967296) := by rw [nat]; simp [h]

theorem val_nat (n : Nat) : val (nat n) = n := by
  induction n using Nat.strongRecOn with
  | _ n ih =>
    by_cases h : n = 0
    · subst h; simp [nat_zero, val]
    · rw [nat_pos h]
      simp only [val]
      rw [ih _ (by omega)]
      omega

theorem dig_nat (n : Nat) : Dig (nat n) := by
  induction n using Nat.strongRecOn with
  | _ n ih =>
    by_cases h : n = 0
    · subst h; rw [nat_zero]; exact Dig.nil
    · rw [nat_pos h]
      exact Dig.mk (by omega) (ih _ (by omega))

theorem nat_nil_iff (n : Nat) : nat n = [] ↔ n = 0 := by
  constructor
  · intro h
    have := val_nat n
    rw [h] at this
    simpa [val] using this.symm
  · rintro rfl; exact nat_zero

theorem tlen_nat (n : Nat) : tlen (nat n) = (nat n).length := by
  induction n using Nat.strongRecOn with
  | _ n ih =>
    by_cases h : n = 0
    · subst h; simp [nat_zero, tlen]
    · rw [nat_pos h]
      have h1 := ih (n / 4294967296) (by omega)
      simp only [tlen, List.length_cons, h1]
      by_cases h2 : n / 4294967296 = 0
      · rw [h2, nat_zero]
        simp
        omega
      · have : (nat (n / 4294967296)).length ≠ 0 := by
          intro e
          exact h2 ((nat_nil_iff _).1 (List.eq_nil_of_length_eq_zero e))
        rw [if_neg this]

theorem trim_eq {zs : List Nat} (h : Dig zs) : zs.take (tlen zs) = nat (val zs) := by
  induction zs with
  | nil => simp [val, nat_zero, tlen]
  | cons z zs ih =>
    have h1 := ih h.cons.2
    have hz := h.cons.1
    simp only [tlen, val]
    by_cases h0 : tlen zs = 0
    · rw [h0] at h1
      simp at h1
      have hv : val zs = 0 := (nat_nil_iff _).1 h1
      rw [if_pos h0, hv]
      by_cases hz0 : z = 0
      · subst hz0; simp [nat_zero]
      · rw [if_neg hz0, nat_pos (by omega)]
        simp only [Nat.mul_zero, Nat.add_zero, List.take_succ_cons, List.take_zero]
        rw [Nat.mod_eq_of_lt hz, Nat.div_eq_of_lt hz, nat_zero]
    · rw [if_neg h0, nat_pos (n := z + 4294967296 * val zs)]
      · simp only [List.take_succ_cons]
        rw [h1, show (z + 4294967296 * val zs) % 4294967296 = z from by omega, show (z + 4294967296 * val zs) / 4294967296 = val zs from by omega]
      · intro e
        have : val zs = 0 := by omega
        rw [this, nat_zero] at h1
        have := congrArg List.length h1
        rw [List.length_take, Nat.min_eq_left (tlen_le _)] at this
        simp at this
        exact h0 this

theorem tlen_eq {zs : List Nat} (h : Dig zs) : tlen zs = (nat (val zs)).length := by
  rw [← trim_eq h, List.length_take, Nat.min_eq_left (tlen_le _)]

theorem eq_nat {zs : List Nat} (h : Dig zs) (ht : tlen zs = zs.length) : zs = nat (val zs) := by
  rw [← trim_eq h, ht, List.take_length]

theorem nat_inj {a b : Nat} (h : nat a = nat b) : a = b := by rw [← val_nat a, h, val_nat]

theorem nat_len {n k : Nat} (h : n < 4294967296 ^ k) : (nat n).length ≤ k := by
  induction k generalizing n with
  | zero =>
    have : n = 0 := by simpa using h
    subst this
    simp [nat_zero]
  | succ k ih =>
    by_cases h0 : n = 0
    · subst h0; simp [nat_zero]
    · rw [nat_pos h0]
      have := ih (n := n / 4294967296) (by
        rw [Nat.pow_succ] at h
        exact Nat.div_lt_of_lt_mul (by rw [Nat.mul_comm]; exact h))
      simpa using this

theorem lt_nat_len (n : Nat) : n < 4294967296 ^ (nat n).length := by
  have := val_lt (dig_nat n)
  rwa [val_nat] at this

theorem nat_len_le {n : Nat} (h : n ≠ 0) : 4294967296 ^ ((nat n).length - 1) ≤ n := by
  have ht := tlen_nat n
  have hp : 0 < (nat n).length := by
    rcases Nat.eq_zero_or_pos (nat n).length with h1 | h1
    · exact absurd ((nat_nil_iff n).1 (List.eq_nil_of_length_eq_zero h1)) h
    · exact h1
  have := tlen_pos_val (zs := nat n) (by omega)
  rwa [ht, val_nat] at this

/-- A shorter number is less. -/
theorem lt_of_len {a b : Nat} (h : (nat a).length < (nat b).length) : a < b := by
  have h1 := lt_nat_len a
  have hb : b ≠ 0 := by rintro rfl; rw [nat_zero] at h; simp at h
  have h2 := nat_len_le hb
  have h3 : 4294967296 ^ (nat a).length ≤ 4294967296 ^ ((nat b).length - 1) := Nat.pow_le_pow_right (by omega) (by omega)
  omega

/-- The highest digit that differs decides. -/
theorem lt_of_digit {xs ys : List Nat} (hx : Dig xs) {i : Nat} (h1 : i < xs.length) (h2 : i < ys.length) (hd : xs.drop (i + 1) = ys.drop (i + 1)) (h : xs[i] < ys[i]) : val xs < val ys := by
  rw [val_split xs (i + 1) h1, val_split ys (i + 1) h2, hd, val_take_succ xs i h1, val_take_succ ys i h2]
  have a := val_lt (hx.take i)
  rw [List.length_take, Nat.min_eq_left (by omega)] at a
  have b : 4294967296 ^ i * (xs[i] + 1) ≤ 4294967296 ^ i * ys[i] := Nat.mul_le_mul_left _ h
  rw [Nat.mul_add] at b
  omega

theorem add_fits {X Y rs : List Nat} {m o : Nat} (hX : Dig X) (hY : Dig Y) (hXl : X.length = m) (hYl : Y.length ≤ m) (ho : o ≤ 1)
    (h : val rs + 4294967296 ^ (m + 1) * o = val (X ++ [0]) + val (Y.take (m + 1))) : val rs = val X + val Y := by
  rw [List.take_of_length_le (by omega), val_append] at h
  have h1 := val_lt hX
  have h2 : val Y < 4294967296 ^ m := Nat.lt_of_lt_of_le (val_lt hY) (Nat.pow_le_pow_right (by omega) hYl)
  have e0 : val [0] = 0 := rfl
  rw [hXl] at h1
  rw [e0, Nat.mul_zero, Nat.add_zero, Nat.pow_succ] at h
  generalize 4294967296 ^ m = P at h h1 h2
  generalize val X = x at *
  generalize val Y = y at *
  generalize val rs = r at *
  rcases Nat.eq_zero_or_pos o with h5 | h5
  · rw [h5, Nat.mul_zero] at h
    omega
  · obtain rfl : o = 1 := by omega
    rw [Nat.mul_one] at h
    omega

end Nm
end Go.Proofs.YtaiceebhifecbaaDoor

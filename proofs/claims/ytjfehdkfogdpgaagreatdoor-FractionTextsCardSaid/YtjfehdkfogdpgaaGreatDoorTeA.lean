/-
  Plain mathematics of lists of digits in base 2^32: their value, their length without leading zeros. Nothing of the program is imported. No conditions.
  Memory of the digits: when a slice of uint32 reads as a list of digits (Rd), when such a row can be written (Own), when it is new (Fr), and what a call that writes into one row leaves (Wr). No conditions.
  Laws for append on slices of uint32 whose capacity is their length, and for make. Conditions: at most 100000 digits.
  Contracts of trim, fromDigits, Same, nat, Few and Valid (the reference's). Conditions: slices of at most 1000 digits.
  Contracts of nat, Few, Valid, Of, Clone, Copy, Compare and Cmp. Conditions: slices of at most 1000 digits.
  Contracts of Valid, Of, Clone, Copy and Cmp. Conditions: slices of at most 1000 digits.
  Contract of Cmp. Conditions: slices of at most 1000 digits.
  Contracts of Add32, Sub32, addTo and subtractFrom. Conditions: slices of at most 1000 digits; the row that is written lies outside the other.
  Contracts of Add and Sub. Conditions: slices of at most 900 digits.
  Contract of Sub. Conditions: slices of at most 900 digits.
  Contracts of addTimes and Mul. Conditions: slices of at most 400 digits; the row that is written lies outside the other.
  Plain mathematics of long multiplication, and rows of memory that are spliced. No conditions.
  Contract of Mul. Conditions: slices of at most 400 digits.
  Contracts of Len32 and Bits. Conditions: slices of at most 900 digits.
  Contracts of Bits, Div32 and divideByDigit. Conditions: slices of at most 900 digits.
  Contract of divide by a divisor of one digit, or one that is longer. Conditions: slices of at most 900 digits.
  Contract of DivMod, out of that of divide. Conditions: slices of at most 900 digits.
  Contract of Gcd, out of that of divide. Conditions: slices of at most 900 digits.
  Contracts of check and group. No conditions on check; group: at most 9 decimal digits.
  Contracts of group and timesGroupPlus. Conditions: at most 9 decimal digits; slices of at most 400 digits.
  Contract of Parse. Conditions: strings of at most 1000000 bytes.
  Contracts of bytes.TrimRight (at the cutset "0") and slices.Reverse on bytes. Conditions: at most 100000 bytes.
  Plain mathematics of decimal digits. No conditions.
  Contract of Format. Conditions: slices of at most 900 digits.
  The contracts once more, with the lengths as numbers of their own and the results told by a list: for calls with written-out arguments. Conditions: slices of at most 400 digits.
  A law for a region whose order Go leaves open, where each operation only adds new memory: whatever the order, each slot meets its fact. No conditions beyond those that it names.
  The obligations of single operations in a region that only adds memory. No conditions beyond those that each names.
  The obligations of calls in a region that only adds memory, and the contracts told by facts. Conditions: numbers of at most 400 digits.
  What the laws share: an argument that is a number, opened; the law's post; the case that an argument has too many digits. No conditions.
  The obligations of pure operations on known operands, in a region that only adds memory. No conditions beyond those that each names.
  Digits at an index, a region that is walked on from, append of one digit, and the contracts of the reference's digit and Trim. Conditions: slices of at most 1000 digits.
  A region whose first operations only add memory, in any order, and whose last ones each come behind all before them (by way of others too); the variables that it makes lie apart. No conditions beyond those that it names.
  Plain mathematics of fractions: a rational number and its sign, numerator and denominator. Nothing of the program is imported. No conditions.
-/
import Derived.Test.YtjfehdkfogdpgaaGreatDoorRows
import Derived.WalkKit
import Derived.WalkSpells
import Derived.WalkLawsBesides
import Derived.Lib.Hide
import Derived.IntWalk
import Derived.BigQuiet
import Derived.Deep.QuietTactic
import Derived.Deep.LoopGhost
import Derived.Deep.AppendLies
import Derived.StillTailTactics
import Derived.Laws.BitsAllLaws
import Derived.Deep.Cut
import Derived.Deep.DeepCutAuto
import Derived.Deep.RegionHeld3
import Derived.BigRegion
import Derived.Deep.RegionLaw
import Derived.Deep.RegionWith
import Derived.Maps.AppendAt
import Derived.Laws.BytesArg
import Derived.Orders
import Derived.RegionTactic
import Derived.ProofKit
import Derived.OpenShut
import Derived.Carry
import Derived.Lib.SmallJoins
namespace Go.Proofs.YtjfehdkfogdpgaaGreatDoor
namespace Nm
def tlen : List Nat → Nat
  | [] => 0
  | z :: zs => if tlen zs = 0 then (if z = 0 then 0 else 1) else tlen zs + 1
theorem tlen_le (zs : List Nat) : tlen zs ≤ zs.length := by
  induction zs with
  | nil => simp [tlen]
  | cons z zs ih => simp only [tlen, List.length_cons]; split <;> (try split) <;> omega
theorem tlen_zero (zs : List Nat) (i : Nat) (h : tlen zs ≤ i) (hi : i < zs.length) : zs[i] = 0 := by
  induction zs generalizing i with
  | nil => simp at hi
  | cons z zs ih =>
    simp only [tlen] at h
    cases i with
    | zero =>
      split at h
      · split at h
        · simpa using ‹z = 0›
        · omega
      · omega
    | succ i =>
      simp only [List.getElem_cons_succ]
      refine ih i ?_ (by simpa using hi)
      split at h
      · omega
      · omega
theorem tlen_last (zs : List Nat) (i : Nat) (h : tlen zs = i + 1) (hi : i < zs.length) : zs[i] ≠ 0 := by
  induction zs generalizing i with
  | nil => simp at hi
  | cons z zs ih =>
    simp only [tlen] at h
    cases i with
    | zero =>
      split at h
      · split at h
        · omega
        · simpa
      · omega
    | succ i =>
      simp only [List.getElem_cons_succ]
      refine ih i ?_ (by simpa using hi)
      split at h
      · split at h <;> omega
      · omega
def val : List Nat → Nat
  | [] => 0
  | z :: zs => z + 4294967296 * val zs
def Dig (zs : List Nat) : Prop := ∀ z ∈ zs, z < 4294967296
theorem Dig.cons {z : Nat} {zs : List Nat} (h : Dig (z :: zs)) : z < 4294967296 ∧ Dig zs := ⟨h z (by simp), fun x hx => h x (by simp [hx])⟩
theorem Dig.mk {z : Nat} {zs : List Nat} (h : z < 4294967296) (h' : Dig zs) : Dig (z :: zs) := by
  intro x hx
  rcases List.mem_cons.1 hx with rfl | hx
  · exact h
  · exact h' x hx
theorem Dig.nil : Dig [] := by intro x hx; simp at hx
theorem Dig.at_ {zs : List Nat} (h : Dig zs) {i : Nat} (hi : i < zs.length) : zs[i] < 4294967296 := h _ (List.getElem_mem hi)
theorem Dig.take {zs : List Nat} (h : Dig zs) (n : Nat) : Dig (zs.take n) := fun x hx => h x (List.mem_of_mem_take hx)
theorem Dig.drop {zs : List Nat} (h : Dig zs) (n : Nat) : Dig (zs.drop n) := fun x hx => h x (List.mem_of_mem_drop hx)
theorem Dig.append {xs ys : List Nat} (h : Dig xs) (h' : Dig ys) : Dig (xs ++ ys) := by
  intro x hx
  rcases List.mem_append.1 hx with hx | hx
  · exact h x hx
  · exact h' x hx
theorem Dig.set {zs : List Nat} (h : Dig zs) (i : Nat) {x : Nat} (hx : x < 4294967296) : Dig (zs.set i x) := by
  intro y hy
  rcases List.mem_or_eq_of_mem_set hy with hy | rfl
  · exact h y hy
  · exact hx
theorem val_lt {zs : List Nat} (h : Dig zs) : val zs < 4294967296 ^ zs.length := by
  induction zs with
  | nil => simp [val]
  | cons z zs ih =>
    have h1 := ih h.cons.2
    have h2 := h.cons.1
    simp only [val, List.length_cons, Nat.pow_succ]
    omega
theorem val_append (xs ys : List Nat) : val (xs ++ ys) = val xs + 4294967296 ^ xs.length * val ys := by
  induction xs with
  | nil => simp [val]
  | cons x xs ih =>
    simp only [List.cons_append, val, ih, List.length_cons, Nat.pow_succ, Nat.mul_add]
    rw [Nat.mul_comm (4294967296 ^ xs.length) 4294967296, Nat.mul_assoc]
    omega
theorem val_split (zs : List Nat) (k : Nat) (hk : k ≤ zs.length) : val zs = val (zs.take k) + 4294967296 ^ k * val (zs.drop k) := by
  conv => lhs; rw [← List.take_append_drop k zs]
  rw [val_append, List.length_take, Nat.min_eq_left hk]
theorem val_take_succ (zs : List Nat) (k : Nat) (hk : k < zs.length) : val (zs.take (k + 1)) = val (zs.take k) + 4294967296 ^ k * zs[k] := by
  rw [List.take_succ_eq_append_getElem hk, val_append, List.length_take, Nat.min_eq_left (by omega)]
  simp [val]
theorem val_tlen (zs : List Nat) : val (zs.take (tlen zs)) = val zs := by
  induction zs with
  | nil => simp [val, tlen]
  | cons z zs ih =>
    simp only [tlen]
    split
    · rename_i h0
      rw [h0] at ih
      simp [val] at ih
      split
      · rename_i hz
        subst hz
        simp [val, ← ih]
      · simp [val, ← ih]
    · simp [val, ih]
theorem tlen_pos_val {zs : List Nat} (h : 0 < tlen zs) : 4294967296 ^ (tlen zs - 1) ≤ val zs := by
  have hl := tlen_le zs
  have h1 := tlen_last zs (tlen zs - 1) (by omega) (by omega)
  have h2 := val_take_succ zs (tlen zs - 1) (by omega)
  rw [show tlen zs - 1 + 1 = tlen zs from by omega, val_tlen] at h2
  rw [h2]
  have : 4294967296 ^ (tlen zs - 1) * 1 ≤ 4294967296 ^ (tlen zs - 1) * zs[tlen zs - 1]'(by omega) := Nat.mul_le_mul_left _ (by omega)
  omega
def nat (n : Nat) : List Nat := if h : n = 0 then [] else n % 4294967296 :: nat (n / 4294967296)
termination_by n
decreasing_by omega
theorem nat_zero : nat 0 = [] := by rw [nat]; simp
theorem nat_pos {n : Nat} (h : n ≠ 0) : nat n = n % 4294967296 :: nat (n / 4294967296) := by rw [nat]; simp [h]
theorem val_nat (n : Nat) : val (nat n) = n := by
  induction n using Nat.strongRecOn with
  | _ n ih =>
    by_cases h : n = 0
    · subst h; simp [nat_zero, val]
    · rw [nat_pos h]
      simp only [val]
      rw [ih _ (by omega)]
      omega
theorem dig_nat (n : Nat) : Dig (nat n) := by
  induction n using Nat.strongRecOn with
  | _ n ih =>
    by_cases h : n = 0
    · subst h; rw [nat_zero]; exact Dig.nil
    · rw [nat_pos h]
      exact Dig.mk (by omega) (ih _ (by omega))
theorem nat_nil_iff (n : Nat) : nat n = [] ↔ n = 0 := by
  constructor
  · intro h
    have := val_nat n
    rw [h] at this
    simpa [val] using this.symm
  · rintro rfl; exact nat_zero
theorem tlen_nat (n : Nat) : tlen (nat n) = (nat n).length := by
  induction n using Nat.strongRecOn with
  | _ n ih =>
    by_cases h : n = 0
    · subst h; simp [nat_zero, tlen]
    · rw [nat_pos h]
      have h1 := ih (n / 4294967296) (by omega)
      simp only [tlen, List.length_cons, h1]
      by_cases h2 : n / 4294967296 = 0
      · rw [h2, nat_zero]
        simp
        omega
      · have : (nat (n / 4294967296)).length ≠ 0 := by
          intro e
          exact h2 ((nat_nil_iff _).1 (List.eq_nil_of_length_eq_zero e))
        rw [if_neg this]
theorem trim_eq {zs : List Nat} (h : Dig zs) : zs.take (tlen zs) = nat (val zs) := by
  induction zs with
  | nil => simp [val, nat_zero, tlen]
  | cons z zs ih =>
    have h1 := ih h.cons.2
    have hz := h.cons.1
    simp only [tlen, val]
    by_cases h0 : tlen zs = 0
    · rw [h0] at h1
      simp at h1
      have hv : val zs = 0 := (nat_nil_iff _).1 h1
      rw [if_pos h0, hv]
      by_cases hz0 : z = 0
      · subst hz0; simp [nat_zero]
      · rw [if_neg hz0, nat_pos (by omega)]
        simp only [Nat.mul_zero, Nat.add_zero, List.take_succ_cons, List.take_zero]
        rw [Nat.mod_eq_of_lt hz, Nat.div_eq_of_lt hz, nat_zero]
    · rw [if_neg h0, nat_pos (n := z + 4294967296 * val zs)]
      · simp only [List.take_succ_cons]
        rw [h1, show (z + 4294967296 * val zs) % 4294967296 = z from by omega, show (z + 4294967296 * val zs) / 4294967296 = val zs from by omega]
      · intro e
        have : val zs = 0 := by omega
        rw [this, nat_zero] at h1
        have := congrArg List.length h1
        rw [List.length_take, Nat.min_eq_left (tlen_le _)] at this
        simp at this
        exact h0 this
theorem tlen_eq {zs : List Nat} (h : Dig zs) : tlen zs = (nat (val zs)).length := by
  rw [← trim_eq h, List.length_take, Nat.min_eq_left (tlen_le _)]
theorem eq_nat {zs : List Nat} (h : Dig zs) (ht : tlen zs = zs.length) : zs = nat (val zs) := by
  rw [← trim_eq h, ht, List.take_length]
theorem nat_inj {a b : Nat} (h : nat a = nat b) : a = b := by rw [← val_nat a, h, val_nat]
theorem nat_len {n k : Nat} (h : n < 4294967296 ^ k) : (nat n).length ≤ k := by
  induction k generalizing n with
  | zero =>
    have : n = 0 := by simpa using h
    subst this
    simp [nat_zero]
  | succ k ih =>
    by_cases h0 : n = 0
    · subst h0; simp [nat_zero]
    · rw [nat_pos h0]
      have := ih (n := n / 4294967296) (by
        rw [Nat.pow_succ] at h
        exact Nat.div_lt_of_lt_mul (by rw [Nat.mul_comm]; exact h))
      simpa using this
theorem lt_nat_len (n : Nat) : n < 4294967296 ^ (nat n).length := by
  have := val_lt (dig_nat n)
  rwa [val_nat] at this
theorem nat_len_le {n : Nat} (h : n ≠ 0) : 4294967296 ^ ((nat n).length - 1) ≤ n := by
  have ht := tlen_nat n
  have hp : 0 < (nat n).length := by
    rcases Nat.eq_zero_or_pos (nat n).length with h1 | h1
    · exact absurd ((nat_nil_iff n).1 (List.eq_nil_of_length_eq_zero h1)) h
    · exact h1
  have := tlen_pos_val (zs := nat n) (by omega)
  rwa [ht, val_nat] at this
theorem lt_of_len {a b : Nat} (h : (nat a).length < (nat b).length) : a < b := by
  have h1 := lt_nat_len a
  have hb : b ≠ 0 := by rintro rfl; rw [nat_zero] at h; simp at h
  have h2 := nat_len_le hb
  have h3 : 4294967296 ^ (nat a).length ≤ 4294967296 ^ ((nat b).length - 1) := Nat.pow_le_pow_right (by omega) (by omega)
  omega
theorem lt_of_digit {xs ys : List Nat} (hx : Dig xs) {i : Nat} (h1 : i < xs.length) (h2 : i < ys.length) (hd : xs.drop (i + 1) = ys.drop (i + 1)) (h : xs[i] < ys[i]) : val xs < val ys := by
  rw [val_split xs (i + 1) h1, val_split ys (i + 1) h2, hd, val_take_succ xs i h1, val_take_succ ys i h2]
  have a := val_lt (hx.take i)
  rw [List.length_take, Nat.min_eq_left (by omega)] at a
  have b : 4294967296 ^ i * (xs[i] + 1) ≤ 4294967296 ^ i * ys[i] := Nat.mul_le_mul_left _ h
  rw [Nat.mul_add] at b
  omega
theorem add_fits {X Y rs : List Nat} {m o : Nat} (hX : Dig X) (hY : Dig Y) (hXl : X.length = m) (hYl : Y.length ≤ m) (ho : o ≤ 1)
    (h : val rs + 4294967296 ^ (m + 1) * o = val (X ++ [0]) + val (Y.take (m + 1))) : val rs = val X + val Y := by
  rw [List.take_of_length_le (by omega), val_append] at h
  have h1 := val_lt hX
  have h2 : val Y < 4294967296 ^ m := Nat.lt_of_lt_of_le (val_lt hY) (Nat.pow_le_pow_right (by omega) hYl)
  have e0 : val [0] = 0 := rfl
  rw [hXl] at h1
  rw [e0, Nat.mul_zero, Nat.add_zero, Nat.pow_succ] at h
  generalize 4294967296 ^ m = P at h h1 h2
  generalize val X = x at *
  generalize val Y = y at *
  generalize val rs = r at *
  rcases Nat.eq_zero_or_pos o with h5 | h5
  · rw [h5, Nat.mul_zero] at h
    omega
  · obtain rfl : o = 1 := by omega
    rw [Nat.mul_one] at h
    omega
end Nm
end Go.Proofs.YtjfehdkfogdpgaaGreatDoor
namespace Go.Proofs.YtjfehdkfogdpgaaGreatDoor
open Go.RowKit
def Row (w : World) (g off : Nat) (zs : List Nat) : Prop := ∀ i (h : i < zs.length), w.cell? ⟨g, off + i, none⟩ = some (.int .u32 (zs[i] : Int))
def Own (w : World) (g off : Nat) (zs : List Nat) : Prop := Row w g off zs ∧ ∀ i, i < zs.length → w.frozen? ⟨g, off + i, none⟩ = false
def Rd (w : World) (A : Option Addr) (zs : List Nat) : Prop := zs = [] ∨ ∃ g off, A = some ⟨g, off, none⟩ ∧ Row w g off zs
def Fr (B : Nat) (w : World) (A : Option Addr) (zs : List Nat) : Prop := zs = [] ∨ ∃ g off, A = some ⟨g, off, none⟩ ∧ B ≤ g ∧ Own w g off zs
def Off (g : Nat) (A : Option Addr) (zs : List Nat) : Prop := zs = [] ∨ ∃ g' off, A = some ⟨g', off, none⟩ ∧ g' ≠ g
structure Wr (w w' : World) (g off : Nat) (zs : List Nat) : Prop where
  grown : w.grownBy w' (some g)
  size : w'.heap.size = w.heap.size
  own : Own w' g off zs
  rest : ∀ o, (o < off ∨ off + zs.length ≤ o) → w'.cell? ⟨g, o, none⟩ = w.cell? ⟨g, o, none⟩
  soft : ∀ o, w'.frozen? ⟨g, o, none⟩ = w.frozen? ⟨g, o, none⟩
section
variable {w w' : World} {g off B : Nat} {A : Option Addr} {zs : List Nat}
theorem Rd.at_ (h : Rd w A zs) {i : Nat} (hi : i < zs.length) : ∃ g off, A = some ⟨g, off, none⟩ ∧ Row w g off zs := by
  rcases h with rfl | h
  · simp at hi
  · exact h
theorem Row.lt (h : Row w g off zs) (hn : 0 < zs.length) : g < w.heap.size := World.block_lt_of_cell? w _ (h 0 hn)
theorem Row.of_block (h : Row w g off zs) (e : w'.heap[g]? = w.heap[g]?) : Row w' g off zs := fun i hi => (World.cell?_of_block (w := w) (a := ⟨g, off + i, none⟩) e).trans (h i hi)
theorem Own.of_block (h : Own w g off zs) (e : w'.heap[g]? = w.heap[g]?) : Own w' g off zs :=
  ⟨h.1.of_block e, fun i hi => (World.frozen?_of_block (w := w) (a := ⟨g, off + i, none⟩) e).trans (h.2 i hi)⟩
theorem Rd.nil (w : World) (A : Option Addr) : Rd w A [] := .inl rfl
theorem Fr.nil (B : Nat) (w : World) (A : Option Addr) : Fr B w A [] := .inl rfl
theorem Fr.rd (h : Fr B w A zs) : Rd w A zs := by
  rcases h with h | ⟨g, off, hA, _, ho⟩
  · exact .inl h
  · exact .inr ⟨g, off, hA, ho.1⟩
theorem Rd.below (h : Rd w A zs) (hb : Below w.heap.size w w') : Rd w' A zs := by
  rcases h with h | ⟨g, off, hA, hr⟩
  · exact .inl h
  · rcases Nat.eq_zero_or_pos zs.length with h0 | h0
    · exact .inl (List.eq_nil_of_length_eq_zero h0)
    · exact .inr ⟨g, off, hA, hr.of_block (hb.block g (hr.lt h0))⟩
theorem Fr.below (h : Fr B w A zs) (hb : Below w.heap.size w w') : Fr B w' A zs := by
  rcases h with h | ⟨g, off, hA, hg, hr⟩
  · exact .inl h
  · rcases Nat.eq_zero_or_pos zs.length with h0 | h0
    · exact .inl (List.eq_nil_of_length_eq_zero h0)
    · exact .inr ⟨g, off, hA, hg, hr.of_block (hb.block g (hr.1.lt h0))⟩
theorem Fr.mono (h : Fr B w A zs) {B' : Nat} (hb : B' ≤ B) : Fr B' w A zs := by
  rcases h with h | ⟨g, off, hA, hg, hr⟩
  · exact .inl h
  · exact .inr ⟨g, off, hA, by omega, hr⟩
theorem Rd.drew (h : Rd w A zs) : Rd w.drew A zs := h
theorem Rd.drewN (h : Rd w A zs) (n : Nat) : Rd (w.drewN n) A zs := h
theorem Rd.alloc (h : Rd w A zs) (o : Obj) : Rd (w.alloc o) A zs := h.below ((Below.refl _ _).alloc (Nat.le_refl _) o)
theorem Fr.alloc (h : Fr B w A zs) (o : Obj) : Fr B (w.alloc o) A zs := h.below ((Below.refl _ _).alloc (Nat.le_refl _) o)
theorem Rd.setCell (h : Rd w A zs) {p : Addr} {v u : Value} (hc : w.cell? p = some v) (hv : ∀ n, v ≠ .int .u32 n) : Rd (w.setCell p u) A zs := by
  rcases h with h | ⟨g, off, hA, hr⟩
  · exact .inl h
  · refine .inr ⟨g, off, hA, fun i hi => ?_⟩
    rw [World.cell?_setCell_other]
    · exact hr i hi
    · rintro rfl
      rw [hr i hi] at hc
      injection hc with hc
      exact hv _ hc.symm
theorem Fr.setCell (h : Fr B w A zs) {p : Addr} {v u : Value} (hc : w.cell? p = some v) (hv : ∀ n, v ≠ .int .u32 n) : Fr B (w.setCell p u) A zs := by
  rcases h with h | ⟨g, off, hA, hg, hr⟩
  · exact .inl h
  · refine .inr ⟨g, off, hA, hg, fun i hi => ?_, fun i hi => by rw [World.frozen?_setCell]; exact hr.2 i hi⟩
    rw [World.cell?_setCell_other]
    · exact hr.1 i hi
    · rintro rfl
      rw [hr.1 i hi] at hc
      injection hc with hc
      exact hv _ hc.symm
theorem Rd.take (h : Rd w A zs) (n : Nat) : Rd w A (zs.take n) := by
  rcases h with h | ⟨g, off, hA, hr⟩
  · exact .inl (by rw [h]; simp)
  · exact .inr ⟨g, off, hA, fun i hi => by simpa using hr i (by simp at hi; omega)⟩
theorem Fr.take (h : Fr B w A zs) (n : Nat) : Fr B w A (zs.take n) := by
  rcases h with h | ⟨g, off, hA, hg, hr⟩
  · exact .inl (by rw [h]; simp)
  · exact .inr ⟨g, off, hA, hg, fun i hi => by simpa using hr.1 i (by simp at hi; omega), fun i hi => hr.2 i (by simp at hi; omega)⟩
theorem Row.new (w : World) (t : TypeId) (cs : Array Value) (zs : List Nat) (h : ∀ i (hi : i < zs.length), cs[i]? = some (.int .u32 (zs[i] : Int))) : Own (w.alloc (.cells cs t)) w.heap.size 0 zs :=
  ⟨fun i hi => by simpa using h i hi, fun i hi => by simp⟩
theorem Wr.refl (h : Own w g off zs) : Wr w w g off zs := ⟨World.grownBy.refl w _, rfl, h, fun _ _ => rfl, fun _ => rfl⟩
theorem Wr.drewN (h : Wr w w' g off zs) (n : Nat) : Wr w (w'.drewN n) g off zs := ⟨⟨h.grown.os, h.grown.tape, h.grown.output, h.grown.size, h.grown.block⟩, h.size, h.own, h.rest, h.soft⟩
theorem Wr.drew (h : Wr w w' g off zs) : Wr w w'.drew g off zs := h.drewN 1
theorem Own.set (h : Own w g off zs) (k : Nat) (x : Nat) : Own (w.setCell ⟨g, off + k, none⟩ (.int .u32 (x : Int))) g off (zs.set k x) := by
  refine ⟨fun i hi => ?_, fun i hi => by rw [World.frozen?_setCell]; exact h.2 i (by simpa using hi)⟩
  have hi' : i < zs.length := by simpa using hi
  by_cases hk : k = i
  · subst hk
    rw [World.cell?_setCell_same (u := _) _ _ _ (h.1 k hi')]
    simp
  · rw [World.cell?_setCell_other _ _ _ _ (by intro e; injection e; omega), h.1 i hi']
    simp [hk]
theorem Wr.set (h : Wr w w' g off zs) (k : Nat) (hk : k < zs.length) (x : Nat) : Wr w (w'.setCell ⟨g, off + k, none⟩ (.int .u32 (x : Int))) g off (zs.set k x) := by
  refine ⟨⟨h.grown.os, h.grown.tape, h.grown.output, by simpa using h.grown.size, fun i hi hne => ?_⟩, by simpa using h.size, h.own.set k x, fun o ho => ?_, fun o => by rw [World.frozen?_setCell]; exact h.soft o⟩
  · rw [Below.heap_setCell _ _ _ _ (by rintro rfl; exact hne rfl)]
    exact h.grown.block i hi hne
  · rw [World.cell?_setCell_other _ _ _ _ (by intro e; injection e; simp at ho; omega)]
    exact h.rest o (by simpa using ho)
theorem Rd.wr (h : Rd w A zs) {ys : List Nat} (hw : Wr w w' g off ys) (ho : Off g A zs) : Rd w' A zs := by
  rcases h with h | ⟨g', o', hA, hr⟩
  · exact .inl h
  · rcases Nat.eq_zero_or_pos zs.length with h0 | h0
    · exact .inl (List.eq_nil_of_length_eq_zero h0)
    · rcases ho with ho | ⟨g2, o2, h2, hne⟩
      · exact .inl ho
      · rw [hA] at h2
        injection h2 with h2
        injection h2 with h2
        subst h2
        exact .inr ⟨g', o', hA, hr.of_block (hw.grown.block g' (hr.lt h0) (by intro e; injection e with e; exact hne e))⟩
theorem Rd.offOf (h : Rd w A zs) (hg : w.heap.size ≤ g) : Off g A zs := by
  rcases h with h | ⟨g', o', hA, hr⟩
  · exact .inl h
  · rcases Nat.eq_zero_or_pos zs.length with h0 | h0
    · exact .inl (List.eq_nil_of_length_eq_zero h0)
    · exact .inr ⟨g', o', hA, by have := hr.lt h0; omega⟩
theorem Wr.below {w0 : World} {B : Nat} (h : Below B w0 w) {ys : List Nat} (hw : Wr w w' g off ys) (hg : B ≤ g) (hB : B ≤ w.heap.size) : Below B w0 w' :=
  h.grown hw.grown hB (fun k hk => by injection hk with hk; omega)
theorem below_drewN {B : Nat} {a w : World} (h : Below B a w) (n : Nat) : Below B a (w.drewN n) := ⟨h.os, h.tape, h.output, h.size, h.block⟩
end
theorem seen {W w1 : World} (hb : Below W.heap.size W w1) : (∀ b o, b < W.heap.size → w1.cell? ⟨b, o, none⟩ = W.cell? ⟨b, o, none⟩) ∧ (∀ b o, b < W.heap.size → w1.frozen? ⟨b, o, none⟩ = W.frozen? ⟨b, o, none⟩) :=
  ⟨fun b o h => hb.cell (p := ⟨b, o, none⟩) h, fun b o h => hb.frozen (p := ⟨b, o, none⟩) h⟩
theorem one (w : World) (o : Obj) : Below w.heap.size w (w.alloc o) := (Below.refl _ _).alloc (Nat.le_refl _) o
theorem two (w : World) (o o' : Obj) : Below w.heap.size w ((w.alloc o).alloc o') := (one w o).alloc (by simp) o'
theorem three (w : World) (o o' o2 : Obj) : Below w.heap.size w (((w.alloc o).alloc o').alloc o2) := (two w o o').alloc (by simp; omega) o2
theorem up {a w w1 : World} (h : Below a.heap.size a w) (hb : Below w.heap.size w w1) : Below a.heap.size a w1 := h.trans (hb.mono h.size)
theorem Fr.base {a w w1 : World} {A : Option Addr} {zs : List Nat} (h : Fr w.heap.size w1 A zs) (hb : Below a.heap.size a w) : Fr a.heap.size w1 A zs := h.mono hb.size
theorem digit_ne {z : Nat} (h : z ≠ 0) : ((z : Int) == 0) = false := by rw [beq_eq_false_iff_ne]; omega
theorem ret_slice {A : Option Addr} {a b : Nat} (h : a = b) : Ending.returned (.slice A a a) = .returned (.slice A b b) := by rw [h]
theorem ret_int {k : IntKind} {a b : Int} (h : a = b) : Ending.returned (.int k a) = .returned (.int k b) := by rw [h]
theorem ret_bool {a b : Bool} (h : a = b) : Ending.returned (.bool a) = .returned (.bool b) := by rw [h]
abbrev nt (A : Option Addr) (n c : Nat) : Value := .agg #[.slice A n c]
end Go.Proofs.YtjfehdkfogdpgaaGreatDoor
namespace Go.Proofs.YtjfehdkfogdpgaaGreatDoor
open Go.RowKit
theorem info35 : (Tryz.prog.info? 59).map (fun i => (i.zero, i.size, i.bytes)) = some (some (.int .u32 0), 1, 4) := by kernel_rfl
theorem info35_parts : ∃ i, Tryz.prog.info? 59 = some i ∧ i.zero = some (.int .u32 0) ∧ i.size = 1 ∧ i.bytes = 4 := by
  have h := info35
  cases hi : Tryz.prog.info? 59 with
  | none => rw [hi] at h; cases h
  | some i =>
    rw [hi] at h
    simp at h
    exact ⟨i, rfl, h⟩
def dcells (zs : List Nat) : List Value := zs.map fun z : Nat => .int .u32 (z : Int)
theorem dcells_length (zs : List Nat) : (dcells zs).length = zs.length := by simp [dcells]
theorem dcells_row {w : World} {g off : Nat} {zs : List Nat} (h : Row w g off zs) : ∀ j v, (dcells zs)[j]? = some v → w.cell? ((⟨g, off, none⟩ : Addr).add j) = some v := by
  intro j v hv
  rw [Addr.add_lit]
  have hj : j < zs.length := by
    rcases Nat.lt_or_ge j zs.length with h1 | h1
    · exact h1
    · rw [List.getElem?_eq_none (by rw [dcells_length]; exact h1)] at hv; cases hv
  rw [h j hj]
  simp [dcells, List.getElem?_eq_getElem hj] at hv
  rw [hv]
theorem own_new (w : World) (zs : List Nat) (rest : Array Value) : Own (w.alloc (.cells ((dcells zs).toArray ++ rest) 59)) w.heap.size 0 zs :=
  Row.new w 59 _ zs fun i hi => by
    rw [Array.getElem?_append_left (by simpa [dcells_length] using hi)]
    simp [dcells, List.getElem?_eq_getElem hi]
theorem below_drew_alloc (w : World) (o : Obj) : Below w.heap.size w (w.drew.alloc o) := ((Below.refl _ _).drew).alloc (Nat.le_refl _) o
theorem run_append_tight (ty : TypeId) (w : World) (A B : Option Addr) (xs ys : List Nat) (n d : Nat) (hx : Rd w A xs) (hn : xs.length = n) (hA : n = 0 ∨ 0 < n) (hy : Rd w B ys) (hx1 : xs.length ≤ 100000) (hy1 : ys.length ≤ 100000) (hne : ys ≠ [] ∨ xs = []) :
    ∃ A' c' w', (Builtin.append_ #[22, 22] ty #[.slice A n n, .slice B ys.length d]).run Tryz.prog w = .ok (.slice A' (n + ys.length) c') w' ∧ n + ys.length ≤ c' ∧ Fr w.heap.size w' A' (xs ++ ys) ∧ Below w.heap.size w w' := by
  obtain ⟨i, hi, hz, hs, hby⟩ := info35_parts
  subst hn
  rcases Nat.eq_zero_or_pos ys.length with h0 | h0
  · have hys := List.eq_nil_of_length_eq_zero h0
    subst hys
    rcases hne with h | rfl
    · exact absurd rfl h
    · refine ⟨A, 0, w, ?_, by simp, by simpa using Fr.nil _ _ _, Below.refl _ _⟩
      cases A <;> cases B <;> simp [Builtin.append_, run_underlying Tryz.underlying22, sizeOf, typeInfo, hi, Builtin.lenOf, Builtin.firstCells, storeCells, loadCells, loadCellsFrom]
  · obtain ⟨gy, oy, rfl, ry⟩ := hy.at_ h0
    have hlen := dcells_length ys
    have hlx := dcells_length xs
    cases A with
    | none =>
      have hx0 : xs = [] := by
        rcases hx with h | ⟨g, off, h, _⟩
        · exact h
        · cases h
      subst hx0
      have hr := run_append_nil (P := Tryz.prog) (w := w) 22 ty 59 i _ Tryz.underlying22 hi hz ⟨gy, oy, none⟩ ys.length d (dcells ys) (by rw [hs]; omega) (dcells_row ry) h0 (by omega) (by rw [hby]; omega)
      refine ⟨_, _, _, by simpa using hr, by simpa using grownCap_ge w ys.length 0 59, .inr ⟨_, _, rfl, Nat.le_refl _, ?_⟩, below_drew_alloc _ _⟩
      exact own_new w.drew ys _
    | some a =>
      rcases hx with rfl | ⟨gx, ox, e, rx⟩
      · have hr := run_append_grow (P := Tryz.prog) (w := w) 22 ty 59 i _ Tryz.underlying22 hi hz a 0 0 [] (by simp) (by simp) ⟨gy, oy, none⟩ ys.length d (dcells ys) (by rw [hs]; omega) (dcells_row ry) (by omega) (by omega)
          (by rw [hby]; exact growslice_fits (by omega) (by omega))
        refine ⟨_, _, _, by simpa using hr, by simpa using grownCap_ge w (0 + ys.length) 0 59, .inr ⟨_, _, rfl, Nat.le_refl _, ?_⟩, below_drew_alloc _ _⟩
        simpa using own_new w.drew ys _
      · injection e with e
        subst e
        have hr := run_append_grow (P := Tryz.prog) (w := w) 22 ty 59 i _ Tryz.underlying22 hi hz ⟨gx, ox, none⟩ xs.length xs.length (dcells xs) (by rw [hs]; omega) (dcells_row rx) ⟨gy, oy, none⟩ ys.length d (dcells ys) (by rw [hs]; omega) (dcells_row ry) (by omega) (by omega)
          (by rw [hby]; exact growslice_fits (by omega) (by omega))
        refine ⟨_, _, _, hr, grownCap_ge w _ _ 59, .inr ⟨_, _, rfl, Nat.le_refl _, ?_⟩, below_drew_alloc _ _⟩
        have := own_new w.drew (xs ++ ys) (Builtin.zeroCells (Value.int IntKind.u32 0).cells (grownCap w (xs.length + ys.length) xs.length 59 - (xs.length + ys.length)))
        simpa [dcells] using this
theorem wpList_append32 {P : Program} {w w' : World} {ops : Array Oper} {rest : List Oper} {o : Oper} {a : Act} {Q : Exit → Act → World → Prop} {t : TypeId} {u v v' : Value} (hgd : o.guard = none) (s x : Operand)
    (ho : o.op = .call { callee := .builtin .append, args := #[s, x], argTypes := #[t, t] }) (hs : a.eval s = v) (hx : a.eval x = u) (hrun : (Builtin.append_ #[t, t] o.type #[v, u]).run P w = .ok v' w')
    (h : wpList P ops Q rest (a.put o.dst v') w') : wpList P ops Q (o :: rest) a w :=
  wpList_plain hgd fun _ hK => by
    unfold Oper.wp execOp
    simp only [ho, resolve, invoke, builtin, Sem.run_bind, Sem.run_pure, Result.andThen_ok, List.map_toArray, List.map_cons, List.map_nil, hs, hx, hrun]
    exact hK _ _ h
theorem wpList_tight {w : World} {ops : Array Oper} {rest : List Oper} {o : Oper} {a : Act} {Q : Exit → Act → World → Prop} (hgd : o.guard = none) (s x : Operand)
    (ho : o.op = .call { callee := .builtin .append, args := #[s, x], argTypes := #[22, 22] }) (A B : Option Addr) (xs ys : List Nat) (n d : Nat) (hs : a.eval s = .slice A n n) (hx : a.eval x = .slice B ys.length d)
    (h1 : Rd w A xs) (hn : xs.length = n) (h2 : Rd w B ys) (hx1 : xs.length ≤ 100000) (hy1 : ys.length ≤ 100000) (hne : ys ≠ [] ∨ xs = [])
    (h : ∀ A' c' w', n + ys.length ≤ c' → Fr w.heap.size w' A' (xs ++ ys) → Below w.heap.size w w' → wpList Tryz.prog ops Q rest (a.put o.dst (.slice A' (n + ys.length) c')) w') : wpList Tryz.prog ops Q (o :: rest) a w := by
  obtain ⟨A', c', w', hrun, hc, hf, hb⟩ := run_append_tight o.type w A B xs ys n d h1 hn (Nat.eq_zero_or_pos n) h2 hx1 hy1 hne
  exact wpList_append32 hgd s x ho hs hx hrun (h A' c' w' hc hf hb)
end Go.Proofs.YtjfehdkfogdpgaaGreatDoor
namespace Go.Proofs.YtjfehdkfogdpgaaGreatDoor
open Go.RowKit
set_option maxHeartbeats 400000 in
theorem trim_any (A : Option Addr) (c : Nat) (zs : List Nat) (w : World) (h : Rd w A zs) (hc : zs.length ≤ c) (hm : zs.length ≤ 1000) :
    Calls Tryz.prog 76 #[.slice A zs.length c] w fun e w' => e = .returned (.slice A (Nm.tlen zs) (Nm.tlen zs)) ∧ w = w' := by
  have ht := Nm.tlen_le zs
  go_enter Tryz.func76, Tryz.ntmps76
  go_wp2
  go_loop [3] (fun n => ∃ k : Nat, Nm.tlen zs ≤ k ∧ k ≤ zs.length ∧ n = .int .i64 k) (fun n => (intOf n).toNat)
  case atStart => exact ⟨_, ht, Nat.le_refl _, rfl⟩
  case round =>
    obtain ⟨k, hk1, hk2, rfl⟩ := hrel
    rcases Nat.eq_zero_or_pos k with hk | hk
    · subst hk
      go_wp2
      all_goals (go_ret; exact ⟨ret_slice (by omega), rfl⟩)
    · obtain ⟨k, rfl⟩ : ∃ j, k = j + 1 := ⟨k - 1, by omega⟩
      obtain ⟨g, off, hA, hcell⟩ := h.at_ (i := k) (by omega)
      subst hA
      have hck := hcell k (by omega)
      clear hcell
      by_cases hz : zs[k]'(by omega) = 0
      · have hlt : Nm.tlen zs ≤ k := by
          rcases Nat.lt_or_ge k (Nm.tlen zs) with h1 | h1
          · exact absurd hz (Nm.tlen_last zs k (by omega) (by omega))
          · exact h1
        rw [hz] at hck
        clear hz
        go_wp2
        exact ⟨⟨k, hlt, by omega, rfl⟩, by simp [intOf]⟩
      · have hb := digit_ne hz
        have heq : Nm.tlen zs = k + 1 := by
          rcases Nat.lt_or_ge k (Nm.tlen zs) with h1 | h1
          · omega
          · exact absurd (Nm.tlen_zero zs k h1 (by omega)) hz
        have H := Lib.hid heq
        clear hz heq
        go_wp2
        go_ret
        exact ⟨ret_slice H.out.symm, rfl⟩
set_option maxHeartbeats 400000 in
theorem fromDigits_any (A : Option Addr) (c : Nat) (zs : List Nat) (w : World) (h : Rd w A zs) (hc : zs.length ≤ c) (hm : zs.length ≤ 1000) :
    Calls Tryz.prog 78 #[.slice A zs.length c] w fun e w' => e = .returned (nt A (Nm.tlen zs) (Nm.tlen zs)) ∧ Below w.heap.size w w' := by
  go_enter Tryz.func78, Tryz.ntmps78
  go_wp2_with fail
  refine (trim_any A c zs _ (h.alloc _) hc hm).mono ?_
  rintro e w' ⟨rfl, rfl⟩
  go_wp2_with fail
  exact bodyPost_ret (v := nt A (Nm.tlen zs) (Nm.tlen zs)) (by simp [results, Tryz.results78, go_sem]) rfl ⟨rfl, (Below.refl _ _).alloc (Nat.le_refl _) _⟩
set_option maxHeartbeats 400000 in
theorem same_any (A B : Option Addr) (c d : Nat) (xs ys : List Nat) (w : World) (hx : Rd w A xs) (hy : Rd w B ys) (hm : xs.length ≤ 1000) (hn : ys.length ≤ 1000) :
    Calls Tryz.prog 45 #[nt A xs.length c, nt B ys.length d] w fun e w' => e = .returned (.bool (decide (xs = ys))) ∧ Below w.heap.size w w' := by
  by_cases hlen : xs.length = ys.length
  · have hl1 : ((xs.length : Int) != (ys.length : Int)) = false := by simp [hlen]
    have Hl := Lib.hid hlen
    clear hlen
    go_enter Tryz.func45, Tryz.ntmps45
    go_wp2
    go_loopw [5] (fun i wr => ∃ k q : Nat, k ≤ xs.length ∧ i = .int .i64 k ∧ (∀ j, j < k → xs[j]? = ys[j]?) ∧ wr = ((w.alloc (Obj.cells #[Value.slice A xs.length c] 24)).alloc (Obj.cells #[Value.slice B ys.length d] 24)).drewN q) (fun i _ => xs.length - (intOf i).toNat)
    case atStart => exact ⟨0, 0, Nat.zero_le _, rfl, fun _ h => absurd h (by omega), rfl⟩
    case round =>
      obtain ⟨k, q, hk, rfl, heq, rfl⟩ := hrel
      have Heq := Lib.hid heq
      clear heq
      by_cases hlt : k < xs.length
      · obtain ⟨g, off, hA, hcell⟩ := (hx.alloc (Obj.cells #[Value.slice A xs.length c] 24)).alloc (Obj.cells #[Value.slice B ys.length d] 24) |>.at_ hlt
        obtain ⟨g', off', hB, hcell'⟩ := (hy.alloc (Obj.cells #[Value.slice A xs.length c] 24)).alloc (Obj.cells #[Value.slice B ys.length d] 24) |>.at_ (i := k) (by have := Hl.out; omega)
        have c1 := hcell k hlt
        have c2 := hcell' k (by have := Hl.out; omega)
        clear hcell hcell'
        subst hA hB
        obtain ⟨x, hx1⟩ : ∃ x, xs[k] = x := ⟨_, rfl⟩
        obtain ⟨y, hy1⟩ : ∃ y, ys[k]'(by have := Hl.out; omega) = y := ⟨_, rfl⟩
        rw [hx1] at c1
        rw [hy1] at c2
        have hkl : (k : Int) < (xs.length : Int) := by omega
        have hkl' : (k : Int) < (ys.length : Int) := by have := Hl.out; omega
        by_cases hxy : x = y
        · have hb : ((x : Int) != (y : Int)) = false := by rw [hxy]; simp
          clear hx hy
          have Hx := Lib.hid hx1
          have Hy := Lib.hid hy1
          have Hxy := Lib.hid hxy
          clear hx1 hy1 hxy
          go_wp2_with fail
          go_quiet (fail)
          go_wp2
          go_roundw
          case rel =>
            refine ⟨k + 1, _, by omega, by go_num, ?_, rfl⟩
            intro j hj
            rcases Nat.lt_or_ge j k with h1 | h1
            · exact Heq.out j h1
            · obtain rfl : j = k := by omega
              rw [List.getElem?_eq_getElem hlt, List.getElem?_eq_getElem (by have := Hl.out; omega), Hx.out, Hy.out, Hxy.out]
          case measure => simp [intOf]; omega
        · have hb : ((x : Int) != (y : Int)) = true := by rw [bne_iff_ne]; omega
          have hfin : decide (xs = ys) = false := decide_eq_false (fun e => hxy (by subst e; rw [← hx1, ← hy1]))
          have Hfin := Lib.hid hfin
          clear hx hy hx1 hy1 hxy hfin
          go_wp2_with fail
          go_quiet (fail)
          go_wp2
          go_ret
          exact ⟨ret_bool Hfin.out.symm, below_drewN (below_drewN (((Below.refl _ _).alloc (Nat.le_refl _) _).alloc (by simp) _) _) _⟩
      · have hfin : decide (xs = ys) = true := by
          refine decide_eq_true (List.ext_getElem? fun j => ?_)
          rcases Nat.lt_or_ge j k with h1 | h1
          · exact Heq.out j h1
          · rw [List.getElem?_eq_none (by omega), List.getElem?_eq_none (by have := Hl.out; omega)]
        have Hfin := Lib.hid hfin
        clear hfin
        go_wp2
        go_ret
        exact ⟨ret_bool Hfin.out.symm, below_drewN (((Below.refl _ _).alloc (Nat.le_refl _) _).alloc (by simp) _) _⟩
  · have hl1 : ((xs.length : Int) != (ys.length : Int)) = true := by rw [bne_iff_ne]; omega
    have hfin : decide (xs = ys) = false := decide_eq_false (fun e => hlen (by rw [e]))
    have H := Lib.hid hfin
    clear hlen hfin
    go_enter Tryz.func45, Tryz.ntmps45
    go_wp2
    go_ret
    exact ⟨ret_bool H.out.symm, (((Below.refl _ _).alloc (Nat.le_refl _) _).alloc (by simp) _)⟩
end Go.Proofs.YtjfehdkfogdpgaaGreatDoor
namespace Go.Proofs.YtjfehdkfogdpgaaGreatDoor
open Go.RowKit
set_option maxHeartbeats 400000 in
theorem refValid_any (A : Option Addr) (c : Nat) (zs : List Nat) (w : World) (h : Rd w A zs) (hm : zs.length ≤ 1000) :
    Calls Tryz.prog 43 #[nt A zs.length c] w fun e w' => e = .returned (.bool (decide (Nm.tlen zs = zs.length))) ∧ Below w.heap.size w w' := by
  rcases Nat.eq_zero_or_pos zs.length with h0 | h0
  · have hz := List.eq_nil_of_length_eq_zero h0
    subst hz
    go_enter Tryz.func43, Tryz.ntmps43
    go_wp2
    go_ret
    exact ⟨by simp [Nm.tlen], one _ _⟩
  · obtain ⟨g, off, hA, hr⟩ := (h.alloc (Obj.cells #[Value.slice A zs.length c] 24)).at_ (i := zs.length - 1) (by omega)
    subst hA
    have hck := hr (zs.length - 1) (by omega)
    clear hr
    have hb0 : ((zs.length : Int) == 0) = false := digit_ne (by omega)
    obtain ⟨x, hx⟩ : ∃ x, zs[zs.length - 1]'(by omega) = x := ⟨_, rfl⟩
    rw [hx] at hck
    obtain ⟨m, hm1⟩ : ∃ m, zs.length = m + 1 := ⟨zs.length - 1, by omega⟩
    have Hm := Lib.hid hm1
    have hle := Nm.tlen_le zs
    by_cases hz : x = 0
    · have hfin : decide (Nm.tlen zs = zs.length) = false := decide_eq_false (fun e => Nm.tlen_last zs (zs.length - 1) (by omega) (by omega) (by rw [hx]; exact hz))
      have Hf := Lib.hid hfin
      clear hx h hfin hm1
      subst hz
      have hck' : (w.alloc (Obj.cells #[Value.slice (some { block := g, off := off }) zs.length c] 24)).cell? { block := g, off := off + ((zs.length : Int) - 1).toNat, spot := none } = some (Value.int .u32 ((0 : Nat) : Int)) := by
        rw [show ((zs.length : Int) - 1).toNat = zs.length - 1 from by omega]; exact hck
      go_enter Tryz.func43, Tryz.ntmps43
      go_wp2
      go_outline
      go_ret
      exact ⟨ret_bool Hf.out.symm, one _ _⟩
    · have hfin : decide (Nm.tlen zs = zs.length) = true := by
        refine decide_eq_true ?_
        rcases Nat.lt_or_ge (zs.length - 1) (Nm.tlen zs) with h1 | h1
        · omega
        · exact absurd ((hx.symm.trans (Nm.tlen_zero zs _ h1 (by omega)))) hz
      have Hf := Lib.hid hfin
      have hnz : ((x : Int) != 0) = true := by rw [bne_iff_ne]; omega
      clear hx h hfin hm1 hz
      have hck' : (w.alloc (Obj.cells #[Value.slice (some { block := g, off := off }) zs.length c] 24)).cell? { block := g, off := off + ((zs.length : Int) - 1).toNat, spot := none } = some (Value.int .u32 (x : Int)) := by
        rw [show ((zs.length : Int) - 1).toNat = zs.length - 1 from by omega]; exact hck
      go_enter Tryz.func43, Tryz.ntmps43
      go_wp2
      go_outline
      go_ret
      exact ⟨ret_bool Hf.out.symm, one _ _⟩
set_option maxHeartbeats 400000 in
theorem isNaN_any (a : Int) (w : World) : Calls Tryz.prog 83 #[.int .i64 a] w fun e w' => e = .returned (.bool false) ∧ w = w' := by
  go_enter Tryz.func83, Tryz.ntmps83
  go_wp2
  go_ret
  exact ⟨by simp, rfl⟩
set_option maxHeartbeats 400000 in
theorem isNaN32_any (a : Int) (w : World) : Calls Tryz.prog 102 #[.int .u32 a] w fun e w' => e = .returned (.bool false) ∧ w = w' := by
  go_enter Tryz.func102, Tryz.ntmps102
  go_wp2
  go_ret
  exact ⟨by simp, rfl⟩
def cmpI (a b : Int) : Int := if a < b then -1 else if b < a then 1 else 0
set_option maxHeartbeats 400000 in
theorem compare_any (a b : Int) (w : World) :
    Calls Tryz.prog 58 #[.int .i64 a, .int .i64 b] w fun e w' => e = .returned (.int .i64 (cmpI a b)) ∧ w = w' := by
  go_enter Tryz.func58, Tryz.ntmps58
  go_wp2_with (go_at_call 83; refine (isNaN_any _ _).mono ?_; rintro e w' ⟨rfl, rfl⟩)
  all_goals (go_ret; exact ⟨by unfold cmpI; simp [*]; try omega, rfl⟩)
set_option maxHeartbeats 400000 in
theorem compare32_any (a b : Int) (w : World) :
    Calls Tryz.prog 84 #[.int .u32 a, .int .u32 b] w fun e w' => e = .returned (.int .i64 (cmpI a b)) ∧ w = w' := by
  go_enter Tryz.func84, Tryz.ntmps84
  go_wp2_with (go_at_call 102; refine (isNaN32_any _ _).mono ?_; rintro e w' ⟨rfl, rfl⟩)
  all_goals (go_ret; exact ⟨by unfold cmpI; simp [*]; try omega, rfl⟩)
end Go.Proofs.YtjfehdkfogdpgaaGreatDoor
namespace Go.Proofs.YtjfehdkfogdpgaaGreatDoor
open Go.RowKit
set_option maxHeartbeats 400000 in
theorem valid_any (A : Option Addr) (c : Nat) (zs : List Nat) (w : World) (h : Rd w A zs) (hc : zs.length ≤ c) (hm : zs.length ≤ 1000) :
    Calls Tryz.prog 93 #[nt A zs.length c] w fun e w' => e = .returned (.bool (decide (Nm.tlen zs = zs.length))) ∧ Below w.heap.size w w' := by
  have ht := Nm.tlen_le zs
  go_enter Tryz.func93, Tryz.ntmps93
  go_wp2_with fail
  go_quiet ((go_at_call 76; exact Calls.quiet_of_same (((trim_any A c zs _ ((h.alloc _).drewN _) hc hm).mono (fun _ _ ⟨a, b⟩ => ⟨a, b.symm⟩)))))
  go_wp2
  go_ret
  exact ⟨ret_bool (by simp [Bool.beq_eq_decide_eq, Int.natCast_inj]), below_drewN (one _ _) _⟩
set_option maxHeartbeats 400000 in
theorem fromDigits_fr (B : Nat) (A : Option Addr) (c : Nat) (zs : List Nat) (w : World) (h : Fr B w A zs) (hd : Nm.Dig zs) (hc : zs.length ≤ c) (hm : zs.length ≤ 1000) :
    Calls Tryz.prog 78 #[.slice A zs.length c] w fun e w' => e = .returned (nt A (Nm.nat (Nm.val zs)).length (Nm.nat (Nm.val zs)).length) ∧ Fr B w' A (Nm.nat (Nm.val zs)) ∧ Below w.heap.size w w' := by
  refine (fromDigits_any A c zs w h.rd hc hm).mono ?_
  rintro e w' ⟨rfl, hb⟩
  refine ⟨by rw [Nm.tlen_eq hd], ?_, hb⟩
  rw [← Nm.trim_eq hd]
  exact (h.below hb).take _
set_option maxHeartbeats 400000 in
theorem of_any (n : Nat) (w : World) (hn : n < 18446744073709551616) :
    Calls Tryz.prog 61 #[.int .u64 n] w fun e w' => ∃ A c, e = .returned (nt A (Nm.nat n).length c) ∧ (Nm.nat n).length ≤ c ∧ Fr w.heap.size w' A (Nm.nat n) ∧ Below w.heap.size w w' := by
  have hv : Nm.val [n % 4294967296, n / 4294967296] = n := by simp only [Nm.val]; omega
  have hd : Nm.Dig [n % 4294967296, n / 4294967296] := Nm.Dig.mk (by omega) (Nm.Dig.mk (by omega) Nm.Dig.nil)
  have Hv := Lib.hid hv
  clear hv
  go_enter Tryz.func61, Tryz.ntmps61
  go_wp2_with fail
  have ho := Row.new (w.alloc (Obj.cells #[Value.slice none 0 0] 24)) 59 #[Value.int IntKind.u32 (↑n % 4294967296), Value.int IntKind.u32 (↑n / 4294967296)] [n % 4294967296, n / 4294967296] (by
    intro i hi
    match i, hi with
    | 0, _ => simp
    | 1, _ => simp)
  refine (fromDigits_fr (w.heap.size + 1) (some ⟨w.heap.size + 1, 0, none⟩) 2 [n % 4294967296, n / 4294967296] _ (.inr ⟨_, _, rfl, Nat.le_refl _, by simpa using ho⟩) hd (by simp) (by simp)).mono ?_
  rintro e w' ⟨rfl, hf, hb⟩
  rw [Hv.out] at hf
  rw [Hv.out]
  obtain ⟨k1, k2⟩ := seen hb
  have hcell : w'.cell? ⟨w.heap.size, 0, none⟩ = some (.slice none 0 0) := by
    rw [k1 _ _ (by simp; omega)]
    simp [World.cell?_alloc_lt]
  clear hn
  go_wp2
  refine bodyPost_ret (v := nt (some ⟨w.heap.size + 1, 0, none⟩) (Nm.nat n).length (Nm.nat n).length) (by simp [results, Tryz.results61, go_sem, hcell]) rfl ⟨_, _, rfl, Nat.le_refl _, ?_, ?_⟩
  · exact (hf.mono (by omega)).setCell hcell (by simp)
  · exact (up (two _ _ _) hb).setCell (Nat.le_refl _) _
set_option maxHeartbeats 400000 in
theorem clone_any (A : Option Addr) (n : Nat) (zs : List Nat) (w : World) (h : Rd w A zs) (hc : zs.length = n) (hm : zs.length ≤ 1000) :
    Calls Tryz.prog 49 #[.slice A n n] w fun e w' => ∃ A' c', e = .returned (.slice A' n c') ∧ n ≤ c' ∧ Fr w.heap.size w' A' zs ∧ Below w.heap.size w w' := by
  subst hc
  cases A with
  | none =>
    have hz : zs = [] := by
      rcases h with h | ⟨g, off, h, _⟩
      · exact h
      · cases h
    subst hz
    have hnil := Lib.run_eql_slice_nil (P := Tryz.prog) w 22 59 none 0 0 0 0 Tryz.underlying22
    go_enter Tryz.func49, Tryz.ntmps49
    go_wp2
    go_ret
    exact ⟨none, 0, rfl, Nat.le_refl _, Fr.nil _ _ _, Below.refl _ _⟩
  | some a =>
    have hnil := Lib.run_eql_slice_nil (P := Tryz.prog) w 22 59 (some a) zs.length zs.length 0 0 Tryz.underlying22
    go_enter Tryz.func49, Tryz.ntmps49
    go_wp2_with (at_builtin
                 refine wpList_tight rfl (.tmp 5) (.tmp 6) rfl _ (some a) [] zs 0 zs.length rfl rfl (Rd.nil _ _) rfl (h.alloc _) (by simp) (by omega) (.inr rfl) ?_
                 intro A' c' w' hc hf hb)
    go_ret
    exact ⟨A', c', by simp, by omega, (by simpa using hf : Fr _ _ _ zs).mono (by simp), up (one _ _) hb⟩
end Go.Proofs.YtjfehdkfogdpgaaGreatDoor
namespace Go.Proofs.YtjfehdkfogdpgaaGreatDoor
open Go.RowKit
theorem index32 (W : World) (g off n c i : Nat) (z : Int) (hz : z = (i : Int)) (hi : i < n) : (Instr.indexAt 22 (.slice (some ⟨g, off, none⟩) n c) (.int .i64 z)).run Tryz.prog W = .ok (.pointer (some ⟨g, off + i, none⟩)) W := by
  obtain ⟨j, hj, _, hs, _⟩ := info35_parts
  subst hz
  simp [Instr.indexAt, run_underlying Tryz.underlying22, asIntOf, sizeOf, typeInfo, hj, hs, hi, Addr.add_lit]
theorem quiet_more {f : FuncId} {args : Array Value} {w : World} {a n : Nat} {v : Value} (h : ∀ W, Calls Tryz.prog f args W fun e w' => e = .returned v ∧ W = w') :
    Calls Tryz.prog f args (w.drewN (a + n)) fun e w'' => e = .returned v ∧ ∃ m, w'' = w.drewN (a + m) := (h _).mono fun _ _ ⟨he, hm⟩ => ⟨he, n, hm.symm⟩
theorem trim_quiet (A : Option Addr) (c : Nat) (zs : List Nat) (w : World) (n : Nat) (h : Rd w A zs) (hc : zs.length ≤ c) (hm : zs.length ≤ 1000) :
    Calls Tryz.prog 76 #[.slice A zs.length c] (w.drewN n) fun e w'' => e = .returned (.slice A (Nm.tlen zs) (Nm.tlen zs)) ∧ ∃ m, w'' = w.drewN m :=
  (trim_any A c zs _ (h.drewN _) hc hm).mono fun _ _ ⟨a, b⟩ => ⟨a, n, b.symm⟩
set_option maxHeartbeats 400000 in
theorem cmp_any (A B : Option Addr) (c d : Nat) (xs ys : List Nat) (w : World) (hx : Rd w A xs) (hy : Rd w B ys) (hxd : Nm.Dig xs) (hyd : Nm.Dig ys) (hc : xs.length ≤ c) (hd : ys.length ≤ d) (hm : xs.length ≤ 1000) (hn : ys.length ≤ 1000) :
    Calls Tryz.prog 59 #[nt A xs.length c, nt B ys.length d] w fun e w' => e = .returned (.int .i64 (cmpI (Nm.val xs) (Nm.val ys))) ∧ Below w.heap.size w w' := by
  have hx' := (hx.alloc (Obj.cells #[Value.slice A xs.length c] 24)).alloc (Obj.cells #[Value.slice B ys.length d] 24)
  have hy' := (hy.alloc (Obj.cells #[Value.slice A xs.length c] 24)).alloc (Obj.cells #[Value.slice B ys.length d] 24)
  have htx := Nm.tlen_le xs
  have hty := Nm.tlen_le ys
  by_cases hlen : Nm.tlen xs = Nm.tlen ys
  · obtain ⟨m, hmx⟩ : ∃ m, Nm.tlen xs = m := ⟨_, rfl⟩
    have hmy : Nm.tlen ys = m := by rw [← hlen]; exact hmx
    have hnb : ((m : Int) != (m : Int)) = false := by simp
    obtain ⟨X, hX⟩ : ∃ X, xs.take m = X := ⟨_, rfl⟩
    obtain ⟨Y, hY⟩ : ∃ Y, ys.take m = Y := ⟨_, rfl⟩
    have hXl : X.length = m := by rw [← hX, List.length_take]; omega
    have hYl : Y.length = m := by rw [← hY, List.length_take]; omega
    have rX : Rd ((w.alloc (Obj.cells #[Value.slice A xs.length c] 24)).alloc (Obj.cells #[Value.slice B ys.length d] 24)) A X := by rw [← hX]; exact hx'.take m
    have rY : Rd ((w.alloc (Obj.cells #[Value.slice A xs.length c] 24)).alloc (Obj.cells #[Value.slice B ys.length d] 24)) B Y := by rw [← hY]; exact hy'.take m
    have dX : Nm.Dig X := by rw [← hX]; exact hxd.take m
    have dY : Nm.Dig Y := by rw [← hY]; exact hyd.take m
    have vX : Nm.val X = Nm.val xs := by rw [← hX, ← hmx]; exact Nm.val_tlen xs
    have vY : Nm.val Y = Nm.val ys := by rw [← hY, ← hmy]; exact Nm.val_tlen ys
    have qx : ∀ n, Calls Tryz.prog 76 #[.slice A xs.length c] (((w.alloc (Obj.cells #[Value.slice A xs.length c] 24)).alloc (Obj.cells #[Value.slice B ys.length d] 24)).drewN n) fun e w'' => e = .returned (.slice A m m) ∧ ∃ q, w'' = ((w.alloc (Obj.cells #[Value.slice A xs.length c] 24)).alloc (Obj.cells #[Value.slice B ys.length d] 24)).drewN q := by
      intro n; have := trim_quiet A c xs _ n hx' hc hm; rwa [hmx] at this
    have qy : ∀ n, Calls Tryz.prog 76 #[.slice B ys.length d] (((w.alloc (Obj.cells #[Value.slice A xs.length c] 24)).alloc (Obj.cells #[Value.slice B ys.length d] 24)).drewN n) fun e w'' => e = .returned (.slice B m m) ∧ ∃ q, w'' = ((w.alloc (Obj.cells #[Value.slice A xs.length c] 24)).alloc (Obj.cells #[Value.slice B ys.length d] 24)).drewN q := by
      intro n; have := trim_quiet B d ys _ n hy' hd hn; rwa [hmy] at this
    have QX := Lib.hid qx
    have QY := Lib.hid qy
    have HXl := Lib.hid hXl
    have HYl := Lib.hid hYl
    have VX := Lib.hid vX
    have VY := Lib.hid vY
    have hm1 : m ≤ 1000 := by omega
    clear qx qy hXl hYl vX vY hX hY hlen hmx hmy htx hty hx hy hx' hy' hxd hyd
    go_enter Tryz.func59, Tryz.ntmps59
    go_wp2_with fail
    go_quiet ((first | (go_at_call 76; with_reducible exact QX.out _) | (go_at_call 76; with_reducible exact QY.out _)))
    go_wp2_with fail
    go_loopw [27] (fun i wr => ∃ k q : Nat, k ≤ m ∧ i = .int .i64 k ∧ (∀ j, m - k ≤ j → X[j]? = Y[j]?) ∧ wr = ((w.alloc (Obj.cells #[Value.slice A xs.length c] 24)).alloc (Obj.cells #[Value.slice B ys.length d] 24)).drewN q) (fun i _ => m - (intOf i).toNat)
    case atStart => exact ⟨0, nq, Nat.zero_le _, rfl, fun j hj => by rw [List.getElem?_eq_none (by rw [HXl.out]; omega), List.getElem?_eq_none (by rw [HYl.out]; omega)], rfl⟩
    case round =>
      obtain ⟨k, q, hk, rfl, heq, rfl⟩ := hrel
      have Heq := Lib.hid heq
      clear heq
      by_cases hlt : k < m
      · obtain ⟨i, hi⟩ : ∃ i, m = i + 1 + k := ⟨m - 1 - k, by omega⟩
        have hiX : i < X.length := by rw [HXl.out]; omega
        have hiY : i < Y.length := by rw [HYl.out]; omega
        obtain ⟨g, off, hA, hcell⟩ := rX.at_ hiX
        obtain ⟨g', off', hB, hcell'⟩ := rY.at_ hiY
        have c1 := hcell i hiX
        have c2 := hcell' i hiY
        clear hcell hcell'
        subst hA hB
        obtain ⟨x, hx1⟩ : ∃ x, X[i] = x := ⟨_, rfl⟩
        obtain ⟨y, hy1⟩ : ∃ y, Y[i] = y := ⟨_, rfl⟩
        rw [hx1] at c1
        rw [hy1] at c2
        have hT : ((m : Int) - 1 - (k : Int)).toNat = i := by omega
        have ix1 := fun W => index32 W g off m m i ((m : Int) - 1 - (k : Int)) (by omega) (by omega)
        have ix2 := fun W => index32 W g' off' m m i ((m : Int) - 1 - (k : Int)) (by omega) (by omega)
        have Hi := Lib.hid hi
        have Hx := Lib.hid hx1
        have Hy := Lib.hid hy1
        have HT := Lib.hid hT
        have hdrop : X.drop (i + 1) = Y.drop (i + 1) := by
          refine List.ext_getElem? fun j => ?_
          rw [List.getElem?_drop, List.getElem?_drop]
          exact Heq.out _ (by omega)
        have Hdrop := Lib.hid hdrop
        clear rX rY hi hx1 hy1 hT hdrop
        by_cases hxy : x = y
        · have hb : ((x : Int) != (y : Int)) = false := by rw [hxy]; simp
          have Hxy := Lib.hid hxy
          clear hxy
          go_wp2_with fail
          go_quiet (fail)
          go_wp2_with fail
          go_roundw
          case rel =>
            refine ⟨k + 1, _, by omega, by go_num, ?_, rfl⟩
            intro j hj
            rcases Nat.lt_or_ge j (i + 1) with h1 | h1
            · obtain rfl : j = i := by have := Hi.out; omega
              rw [List.getElem?_eq_getElem hiX, List.getElem?_eq_getElem hiY, Hx.out, Hy.out, Hxy.out]
            · exact Heq.out j (by have := Hi.out; omega)
          case measure => simp [intOf]; omega
        · have hb : ((x : Int) != (y : Int)) = true := by rw [bne_iff_ne]; omega
          have hfin : cmpI x y = cmpI (Nm.val xs) (Nm.val ys) := by
            rw [← VX.out, ← VY.out]
            unfold cmpI
            rcases Nat.lt_or_ge x y with h1 | h1
            · have := Nm.lt_of_digit dX hiX hiY Hdrop.out (by rw [Hx.out, Hy.out]; exact h1)
              rw [if_pos (by omega), if_pos (by omega)]
            · have := Nm.lt_of_digit dY hiY hiX Hdrop.out.symm (by rw [Hx.out, Hy.out]; omega)
              rw [if_neg (by omega), if_pos (by omega), if_neg (by omega), if_pos (by omega)]
          have Hfin := Lib.hid hfin
          clear hfin hxy
          go_wp2_with fail
          go_quiet (fail)
          go_wp2_with fail
          go_quiet ((go_at_call 84; exact quiet_more (compare32_any _ _)))
          go_wp2_with fail
          go_ret
          exact ⟨ret_int Hfin.out, below_drewN (below_drewN (below_drewN (two _ _ _) _) _) _⟩
      · have hfin : cmpI (Nm.val xs) (Nm.val ys) = 0 := by
          rw [← VX.out, ← VY.out]
          have : X = Y := List.ext_getElem? fun j => Heq.out j (by omega)
          rw [this]
          simp [cmpI]
        have Hfin := Lib.hid hfin
        clear hfin
        go_wp2_with fail
        go_ret
        exact ⟨ret_int Hfin.out.symm, below_drewN (two _ _ _) _⟩
  · have hne : ((Nm.tlen xs : Int) != (Nm.tlen ys : Int)) = true := by rw [bne_iff_ne]; omega
    have hfin : cmpI (Nm.tlen xs) (Nm.tlen ys) = cmpI (Nm.val xs) (Nm.val ys) := by
      have e1 := Nm.tlen_eq hxd
      have e2 := Nm.tlen_eq hyd
      unfold cmpI
      rcases Nat.lt_or_ge (Nm.tlen xs) (Nm.tlen ys) with h1 | h1
      · have := Nm.lt_of_len (a := Nm.val xs) (b := Nm.val ys) (by omega)
        rw [if_pos (by omega), if_pos (by omega)]
      · have := Nm.lt_of_len (a := Nm.val ys) (b := Nm.val xs) (by omega)
        rw [if_neg (by omega), if_pos (by omega), if_neg (by omega), if_pos (by omega)]
    have Hf := Lib.hid hfin
    clear hfin hlen
    go_enter Tryz.func59, Tryz.ntmps59
    go_wp2_with fail
    go_quiet ((first | (go_at_call 76; with_reducible exact trim_quiet A c xs _ _ hx' hc hm) | (go_at_call 76; with_reducible exact trim_quiet B d ys _ _ hy' hd hn)))
    go_wp2_with fail
    refine (compare_any _ _ _).mono ?_
    rintro e w' ⟨rfl, rfl⟩
    go_wp2_with fail
    go_ret
    exact ⟨ret_int Hf.out, below_drewN (two _ _ _) _⟩
end Go.Proofs.YtjfehdkfogdpgaaGreatDoor
namespace Go.Proofs.YtjfehdkfogdpgaaGreatDoor
open Go.RowKit
theorem top_bit (e : Nat) (he : e < 4294967296) : e / 2147483648 = (e.testBit 31).toNat := by
  rw [Nat.testBit_eq_decide_div_mod_eq]
  have : e / 2 ^ 31 = e / 2147483648 := rfl
  rw [this]
  have : e / 2147483648 < 2 := by omega
  rcases Nat.lt_or_ge (e / 2147483648) 1 with h | h
  · rw [show e / 2147483648 = 0 from by omega]; rfl
  · rw [show e / 2147483648 = 1 from by omega]; rfl
theorem bit31 (e : Nat) : e.testBit 31 = decide (e / 2147483648 % 2 = 1) := Nat.testBit_eq_decide_div_mod_eq
theorem borrow_nat (x y c d : Nat) (hx : x < 4294967296) (hy : y < 4294967296) (hc : c ≤ 1) (hd : d < 4294967296) (o : Nat) (ho : o ≤ 1) (h : d + y + c = x + 4294967296 * o) :
    (((4294967295 ^^^ x) &&& y) ||| ((4294967295 ^^^ (x ^^^ y)) &&& d)) / 2147483648 = o := by
  have h1 : 4294967295 ^^^ x < 2 ^ 32 := Nat.xor_lt_two_pow (by omega) (by omega)
  have h2 : x ^^^ y < 2 ^ 32 := Nat.xor_lt_two_pow (by omega) (by omega)
  have h3 : 4294967295 ^^^ (x ^^^ y) < 2 ^ 32 := Nat.xor_lt_two_pow (by omega) h2
  have h4 : (4294967295 ^^^ x) &&& y < 2 ^ 32 := Nat.and_lt_two_pow _ (by omega)
  have h5 : (4294967295 ^^^ (x ^^^ y)) &&& d < 2 ^ 32 := Nat.and_lt_two_pow _ (by omega)
  have h6 : ((4294967295 ^^^ x) &&& y) ||| ((4294967295 ^^^ (x ^^^ y)) &&& d) < 2 ^ 32 := Nat.or_lt_two_pow h4 h5
  rw [top_bit _ (by omega), Nat.testBit_or, Nat.testBit_and, Nat.testBit_and, Nat.testBit_xor, Nat.testBit_xor, Nat.testBit_xor, bit31 x, bit31 y, bit31 d, show Nat.testBit 4294967295 31 = true from by decide]
  have ax : x / 2147483648 % 2 = x / 2147483648 := by omega
  have ay : y / 2147483648 % 2 = y / 2147483648 := by omega
  have ad : d / 2147483648 % 2 = d / 2147483648 := by omega
  rw [ax, ay, ad]
  by_cases bx : x / 2147483648 = 1 <;> by_cases by_ : y / 2147483648 = 1 <;> by_cases bd : d / 2147483648 = 1 <;> simp [bx, by_, bd] <;> omega
set_option maxHeartbeats 400000 in
theorem add32_any (x y c : Nat) (w : World) (hx : x < 4294967296) (hy : y < 4294967296) (hc : c < 4294967296) :
    Calls Tryz.prog 99 #[.int .u32 x, .int .u32 y, .int .u32 c] w fun e w' => ∃ s o : Nat, e = .returned (.tuple #[.int .u32 s, .int .u32 o]) ∧ Hid (s + 4294967296 * o = x + y + c ∧ s < 4294967296) ∧ w = w' := by
  go_enter Tryz.func99, Tryz.ntmps99
  go_wp2
  go_ret2
  refine ⟨(x + y + c) % 4294967296, (x + y + c) / 4294967296, ?_, ?_, rfl⟩
  · have h1 : ((x : Int) + y + c) % 4294967296 = (((x + y + c) % 4294967296 : Nat) : Int) := by omega
    have h2 : ((x : Int) + y + c) / 4294967296 = (((x + y + c) / 4294967296 : Nat) : Int) := by omega
    rw [← h1, ← h2]
    rfl
  · show _ ∧ _
    omega
set_option maxHeartbeats 400000 in
theorem sub32_any (x y c : Nat) (w : World) (hx : x < 4294967296) (hy : y < 4294967296) (hc : c ≤ 1) :
    Calls Tryz.prog 100 #[.int .u32 x, .int .u32 y, .int .u32 c] w fun e w' => ∃ s o : Nat, e = .returned (.tuple #[.int .u32 s, .int .u32 o]) ∧ Hid (s + y + c = x + 4294967296 * o ∧ s < 4294967296 ∧ o ≤ 1) ∧ w = w' := by
  obtain ⟨o, ho, d, hd, hs⟩ : ∃ o, o ≤ 1 ∧ ∃ d, d < 4294967296 ∧ d + y + c = x + 4294967296 * o := by
    rcases Nat.lt_or_ge x (y + c) with h | h
    · exact ⟨1, by omega, x + 4294967296 - y - c, by omega, by omega⟩
    · exact ⟨0, by omega, x - y - c, by omega, by omega⟩
  have hdi : ((x : Int) - y - c) % 4294967296 = (d : Int) := by omega
  have hb : bits .or .u32 (bits .and .u32 (bits .xor .u32 IntKind.u32.max x) y) (bits .and .u32 (bits .xor .u32 IntKind.u32.max (bits .xor .u32 x y)) (((x : Int) - y - c) % 4294967296)) / 2147483648 = (o : Int) := by
    have h1 : 4294967295 ^^^ x < 2 ^ 32 := Nat.xor_lt_two_pow (by omega) (by omega)
    have h2 : x ^^^ y < 2 ^ 32 := Nat.xor_lt_two_pow (by omega) (by omega)
    have h3 : 4294967295 ^^^ (x ^^^ y) < 2 ^ 32 := Nat.xor_lt_two_pow (by omega) h2
    have h4 : (4294967295 ^^^ x) &&& y < 2 ^ 32 := Nat.and_lt_two_pow _ (by omega)
    have h5 : (4294967295 ^^^ (x ^^^ y)) &&& d < 2 ^ 32 := Nat.and_lt_two_pow _ (by omega)
    rw [hdi, show IntKind.u32.max = ((4294967295 : Nat) : Int) from by decide, u32_xor_nat x y hx hy, u32_xor_nat _ x (by omega) hx, u32_xor_nat _ _ (by omega) (by omega), u32_and_nat _ y (by omega) hy, u32_and_nat _ d (by omega) hd, u32_or_nat _ _ (by omega) (by omega)]
    rw [← borrow_nat x y c d hx hy hc hd o ho hs]
    rfl
  have Hb := Lib.hid hb
  have Hd := Lib.hid hdi
  have Hs := Lib.hid hs
  clear hb hdi hs
  go_enter Tryz.func100, Tryz.ntmps100
  go_wp2
  all_goals try (exfalso; revert ‹IntKind.u32.signed = true›; decide)
  go_ret2
  refine ⟨d, o, ?_, ⟨Hs.out, hd, ho⟩, rfl⟩
  rw [Hb.out, Hd.out]
  rfl
theorem take_set_other (zs : List Nat) (k : Nat) (x : Nat) : (zs.set k x).take k = zs.take k := by
  refine List.ext_getElem? fun j => ?_
  rw [List.getElem?_take, List.getElem?_take]
  split
  · rw [List.getElem?_set_ne (by omega)]
  · rfl
set_option maxHeartbeats 400000 in
theorem addTo_any (g off c : Nat) (B : Option Addr) (d : Nat) (zs ys : List Nat) (w : World) (ho : Own w g off zs) (hy : Rd w B ys) (hf : Off g B ys) (hzd : Nm.Dig zs) (hyd : Nm.Dig ys) (hm : zs.length ≤ 1000) (_hn : ys.length ≤ 1000) :
    Calls Tryz.prog 77 #[.slice (some ⟨g, off, none⟩) zs.length c, .slice B ys.length d] w fun e w' => ∃ (rs : List Nat) (o : Nat), e = .returned (.tuple #[]) ∧ rs.length = zs.length ∧ Nm.Dig rs ∧ o ≤ 1 ∧ Hid (Nm.val rs + 4294967296 ^ zs.length * o = Nm.val zs + Nm.val (ys.take zs.length)) ∧ Wr w w' g off rs := by
  go_enter Tryz.func77, Tryz.ntmps77
  go_wp2_with fail
  go_loopw [4, 9] (fun cy i wr => ∃ (k o : Nat) (rs : List Nat), k ≤ zs.length ∧ i = .int .i64 k ∧ cy = .int .u32 o ∧ o ≤ 1 ∧ Hid (rs.length = zs.length) ∧ Nm.Dig rs ∧ Hid (∀ j, k ≤ j → rs[j]? = zs[j]?) ∧ Hid (Nm.val (rs.take k) + 4294967296 ^ k * o = Nm.val (zs.take k) + Nm.val (ys.take k)) ∧ Wr w wr g off rs) (fun _ i _ => zs.length - (intOf i).toNat)
  case atStart => exact ⟨0, 0, zs, Nat.zero_le _, rfl, rfl, Nat.zero_le _, rfl, hzd, fun _ _ => rfl, by show _ = _; simp [Nm.val], Wr.refl ho⟩
  case round =>
    obtain ⟨k, o, rs, hk, rfl, rfl, hco, hl, hrd, hrest, hv, hw⟩ := hrel
    by_cases hlt : k < zs.length
    · have hkr : k < rs.length := by rw [hl.out]; exact hlt
      have c1 := hw.own.1 k hkr
      have f1 := hw.own.2 k hkr
      obtain ⟨x, hx⟩ : ∃ x, rs[k] = x := ⟨_, rfl⟩
      rw [hx] at c1
      have hxlt : x < 4294967296 := by rw [← hx]; exact hrd.at_ hkr
      have hzk : zs[k] = x := by
        have := hrest.out k (Nat.le_refl _)
        rw [List.getElem?_eq_getElem hkr, List.getElem?_eq_getElem hlt] at this
        injection this with this
        rw [← this, hx]
      have Hzk := Lib.hid hzk
      clear hx hzk
      have hyw := hy.wr hw hf
      have hsum : ∀ (D s o' : Nat), Hid (Nm.val (ys.take (k + 1)) = Nm.val (ys.take k) + 4294967296 ^ k * D) → Hid (s + 4294967296 * o' = x + D + o ∧ s < 4294967296) →
          Hid (Nm.val ((rs.set k s).take (k + 1)) + 4294967296 ^ (k + 1) * o' = Nm.val (zs.take (k + 1)) + Nm.val (ys.take (k + 1))) := by
        intro D s o' h1 h2
        show _ = _
        have e1 := Nm.val_take_succ (rs.set k s) k (by simpa using hkr)
        rw [take_set_other] at e1
        have e2 := Nm.val_take_succ zs k hlt
        rw [Hzk.out] at e2
        have e3 := h1.out
        have e4 := hv.out
        have e5 := congrArg (fun t => 4294967296 ^ k * t) h2.out.1
        simp only [Nat.mul_add] at e5
        rw [e1, e2, e3, Nat.pow_succ, Nat.mul_assoc]
        simp only [List.getElem_set_self]
        omega
      have hy1 : k < ys.length → ∃ D, D < 4294967296 ∧ Hid (Nm.val (ys.take (k + 1)) = Nm.val (ys.take k) + 4294967296 ^ k * D) ∧ ∃ g' off', B = some ⟨g', off', none⟩ ∧ wr.cell? ⟨g', off' + k, none⟩ = some (.int .u32 (D : Int)) := by
        intro h
        obtain ⟨g', off', hB, hr⟩ := hyw.at_ h
        exact ⟨ys[k], hyd.at_ h, Nm.val_take_succ ys k h, g', off', hB, hr k h⟩
      have hy2 : ¬ k < ys.length → Hid (Nm.val (ys.take (k + 1)) = Nm.val (ys.take k) + 4294967296 ^ k * 0) := by
        intro h
        show _ = _
        rw [List.take_of_length_le (by omega), List.take_of_length_le (by omega)]
        simp
      have hset : ∀ (s : Nat), Hid ((rs.set k s).length = zs.length) := fun s => by show _ = _; rw [List.length_set]; exact hl.out
      have hoth : ∀ (s : Nat), Hid (∀ j, k + 1 ≤ j → (rs.set k s)[j]? = zs[j]?) := fun s => by
        intro j hj
        rw [List.getElem?_set_ne (by omega)]
        exact hrest.out j (by omega)
      have hwset := fun s => hw.set k hkr s
      have Hsum := Lib.hid hsum
      have Hset := Lib.hid hset
      have Hoth := Lib.hid hoth
      have Hws := Lib.hid hwset
      clear hsum hset hoth hwset hyw
      by_cases hky : k < ys.length
      · obtain ⟨D, hD, hDv, g', off', hB, c2⟩ := hy1 hky
        subst hB
        clear hy1 hy2
        go_wp2_with fail
        refine (add32_any x D o _ hxlt hD (by omega)).mono ?_
        rintro e w' ⟨s, o', rfl, hs, rfl⟩
        have ho' : o' ≤ 1 := by have := hs.out; omega
        go_wp2_with fail
        go_roundw
        case rel => exact ⟨k + 1, o', rs.set k s, by omega, by go_num, rfl, ho', Hset.out s, hrd.set k hs.out.2, Hoth.out s, Hsum.out D s o' hDv hs, Hws.out s⟩
        case measure => simp [intOf]; omega
      · have hDv := hy2 hky
        clear hy1 hy2
        go_wp2_with fail
        refine (add32_any x 0 o _ hxlt (by omega) (by omega)).mono ?_
        rintro e w' ⟨s, o', rfl, hs, rfl⟩
        have ho' : o' ≤ 1 := by have := hs.out; omega
        go_wp2_with fail
        go_roundw
        case rel => exact ⟨k + 1, o', rs.set k s, by omega, by go_num, rfl, ho', Hset.out s, hrd.set k hs.out.2, Hoth.out s, Hsum.out 0 s o' hDv hs, Hws.out s⟩
        case measure => simp [intOf]; omega
    · go_wp2_with fail
      go_end0
      refine ⟨rs, o, rfl, hl.out, hrd, hco, ?_, hw⟩
      have hkk : k = zs.length := by omega
      have h1 := hv.out
      rw [hkk, List.take_of_length_le (Nat.le_of_eq hl.out), List.take_of_length_le (Nat.le_refl _)] at h1
      exact h1
set_option maxHeartbeats 400000 in
theorem subtractFrom_any (g off c : Nat) (B : Option Addr) (d : Nat) (zs ys : List Nat) (w : World) (ho : Own w g off zs) (hy : Rd w B ys) (hf : Off g B ys) (hzd : Nm.Dig zs) (hyd : Nm.Dig ys) (hm : zs.length ≤ 1000) (_hn : ys.length ≤ 1000) :
    Calls Tryz.prog 79 #[.slice (some ⟨g, off, none⟩) zs.length c, .slice B ys.length d] w fun e w' => ∃ (rs : List Nat) (o : Nat), e = .returned (.tuple #[]) ∧ rs.length = zs.length ∧ Nm.Dig rs ∧ o ≤ 1 ∧ Hid (Nm.val rs + Nm.val (ys.take zs.length) = Nm.val zs + 4294967296 ^ zs.length * o) ∧ Wr w w' g off rs := by
  go_enter Tryz.func79, Tryz.ntmps79
  go_wp2_with fail
  go_loopw [4, 9] (fun cy i wr => ∃ (k o : Nat) (rs : List Nat), k ≤ zs.length ∧ i = .int .i64 k ∧ cy = .int .u32 o ∧ o ≤ 1 ∧ Hid (rs.length = zs.length) ∧ Nm.Dig rs ∧ Hid (∀ j, k ≤ j → rs[j]? = zs[j]?) ∧ Hid (Nm.val (rs.take k) + Nm.val (ys.take k) = Nm.val (zs.take k) + 4294967296 ^ k * o) ∧ Wr w wr g off rs) (fun _ i _ => zs.length - (intOf i).toNat)
  case atStart => exact ⟨0, 0, zs, Nat.zero_le _, rfl, rfl, Nat.zero_le _, rfl, hzd, fun _ _ => rfl, by show _ = _; simp [Nm.val], Wr.refl ho⟩
  case round =>
    obtain ⟨k, o, rs, hk, rfl, rfl, hco, hl, hrd, hrest, hv, hw⟩ := hrel
    by_cases hlt : k < zs.length
    · have hkr : k < rs.length := by rw [hl.out]; exact hlt
      have c1 := hw.own.1 k hkr
      have f1 := hw.own.2 k hkr
      obtain ⟨x, hx⟩ : ∃ x, rs[k] = x := ⟨_, rfl⟩
      rw [hx] at c1
      have hxlt : x < 4294967296 := by rw [← hx]; exact hrd.at_ hkr
      have hzk : zs[k] = x := by
        have := hrest.out k (Nat.le_refl _)
        rw [List.getElem?_eq_getElem hkr, List.getElem?_eq_getElem hlt] at this
        injection this with this
        rw [← this, hx]
      have Hzk := Lib.hid hzk
      clear hx hzk
      have hyw := hy.wr hw hf
      have hsum : ∀ (D s o' : Nat), Hid (Nm.val (ys.take (k + 1)) = Nm.val (ys.take k) + 4294967296 ^ k * D) → Hid (s + D + o = x + 4294967296 * o' ∧ s < 4294967296 ∧ o' ≤ 1) →
          Hid (Nm.val ((rs.set k s).take (k + 1)) + Nm.val (ys.take (k + 1)) = Nm.val (zs.take (k + 1)) + 4294967296 ^ (k + 1) * o') := by
        intro D s o' h1 h2
        show _ = _
        have e1 := Nm.val_take_succ (rs.set k s) k (by simpa using hkr)
        rw [take_set_other] at e1
        have e2 := Nm.val_take_succ zs k hlt
        rw [Hzk.out] at e2
        have e3 := h1.out
        have e4 := hv.out
        have e5 := congrArg (fun t => 4294967296 ^ k * t) h2.out.1
        simp only [Nat.mul_add] at e5
        rw [e1, e2, e3, Nat.pow_succ, Nat.mul_assoc]
        simp only [List.getElem_set_self]
        omega
      have hy1 : k < ys.length → ∃ D, D < 4294967296 ∧ Hid (Nm.val (ys.take (k + 1)) = Nm.val (ys.take k) + 4294967296 ^ k * D) ∧ ∃ g' off', B = some ⟨g', off', none⟩ ∧ wr.cell? ⟨g', off' + k, none⟩ = some (.int .u32 (D : Int)) := by
        intro h
        obtain ⟨g', off', hB, hr⟩ := hyw.at_ h
        exact ⟨ys[k], hyd.at_ h, Nm.val_take_succ ys k h, g', off', hB, hr k h⟩
      have hy2 : ¬ k < ys.length → Hid (Nm.val (ys.take (k + 1)) = Nm.val (ys.take k) + 4294967296 ^ k * 0) := by
        intro h
        show _ = _
        rw [List.take_of_length_le (by omega), List.take_of_length_le (by omega)]
        simp
      have hset : ∀ (s : Nat), Hid ((rs.set k s).length = zs.length) := fun s => by show _ = _; rw [List.length_set]; exact hl.out
      have hoth : ∀ (s : Nat), Hid (∀ j, k + 1 ≤ j → (rs.set k s)[j]? = zs[j]?) := fun s => by
        intro j hj
        rw [List.getElem?_set_ne (by omega)]
        exact hrest.out j (by omega)
      have hwset := fun s => hw.set k hkr s
      have Hsum := Lib.hid hsum
      have Hset := Lib.hid hset
      have Hoth := Lib.hid hoth
      have Hws := Lib.hid hwset
      clear hsum hset hoth hwset hyw
      by_cases hky : k < ys.length
      · obtain ⟨D, hD, hDv, g', off', hB, c2⟩ := hy1 hky
        subst hB
        clear hy1 hy2
        go_wp2_with fail
        refine (sub32_any x D o _ hxlt hD (by omega)).mono ?_
        rintro e w' ⟨s, o', rfl, hs, rfl⟩
        have ho' : o' ≤ 1 := by have := hs.out; omega
        go_wp2_with fail
        go_roundw
        case rel => exact ⟨k + 1, o', rs.set k s, by omega, by go_num, rfl, ho', Hset.out s, hrd.set k hs.out.2.1, Hoth.out s, Hsum.out D s o' hDv hs, Hws.out s⟩
        case measure => simp [intOf]; omega
      · have hDv := hy2 hky
        clear hy1 hy2
        go_wp2_with fail
        refine (sub32_any x 0 o _ hxlt (by omega) (by omega)).mono ?_
        rintro e w' ⟨s, o', rfl, hs, rfl⟩
        have ho' : o' ≤ 1 := by have := hs.out; omega
        go_wp2_with fail
        go_roundw
        case rel => exact ⟨k + 1, o', rs.set k s, by omega, by go_num, rfl, ho', Hset.out s, hrd.set k hs.out.2.1, Hoth.out s, Hsum.out 0 s o' hDv hs, Hws.out s⟩
        case measure => simp [intOf]; omega
    · go_wp2_with fail
      go_end0
      refine ⟨rs, o, rfl, hl.out, hrd, hco, ?_, hw⟩
      have hkk : k = zs.length := by omega
      have h1 := hv.out
      rw [hkk, List.take_of_length_le (Nat.le_of_eq hl.out), List.take_of_length_le (Nat.le_refl _)] at h1
      exact h1
end Go.Proofs.YtjfehdkfogdpgaaGreatDoor
namespace Go.Proofs.YtjfehdkfogdpgaaGreatDoor
open Go.RowKit
theorem addTo_n (g off n c : Nat) (B : Option Addr) (m d : Nat) (zs ys : List Nat) (w : World) (ho : Own w g off zs) (hy : Rd w B ys) (hf : Off g B ys) (hzd : Nm.Dig zs) (hyd : Nm.Dig ys) (hzn : zs.length = n) (hym : ys.length = m) (hm : n ≤ 1000) (hn : m ≤ 1000) :
    Calls Tryz.prog 77 #[.slice (some ⟨g, off, none⟩) n c, .slice B m d] w fun e w' => ∃ (rs : List Nat) (o : Nat), e = .returned (.tuple #[]) ∧ Hid (rs.length = n) ∧ Nm.Dig rs ∧ o ≤ 1 ∧ Hid (Nm.val rs + 4294967296 ^ n * o = Nm.val zs + Nm.val (ys.take n)) ∧ Wr w w' g off rs := by
  subst hzn hym
  exact addTo_any g off c B d zs ys w ho hy hf hzd hyd hm hn
theorem trim_q {A : Option Addr} {c m : Nat} {zs : List Nat} {W : World} (h : Rd W A zs) (hc : zs.length ≤ c) (hm : zs.length ≤ 1000) (ht : Nm.tlen zs = m) :
    Hid (∀ n, Calls Tryz.prog 76 #[.slice A zs.length c] (W.drewN n) fun e w'' => e = .returned (.slice A m m) ∧ ∃ q, w'' = W.drewN q) := by
  intro n; have := trim_quiet A c zs W n h hc hm; rwa [ht] at this
theorem fromDigits_n (Bs : Nat) (A : Option Addr) (n c : Nat) (zs : List Nat) (w : World) (h : Fr Bs w A zs) (hd : Nm.Dig zs) (hn : zs.length = n) (hc : n ≤ c) (hm : n ≤ 1000) :
    Calls Tryz.prog 78 #[.slice A n c] w fun e w' => e = .returned (nt A (Nm.nat (Nm.val zs)).length (Nm.nat (Nm.val zs)).length) ∧ Fr Bs w' A (Nm.nat (Nm.val zs)) ∧ Below w.heap.size w w' := by
  subst hn
  exact fromDigits_fr Bs A c zs w h hd hc hm
theorem three_cells (w : World) (a b c : Value) (t : TypeId) : ∃ W, ((w.alloc (Obj.cells #[a] t)).alloc (Obj.cells #[b] t)).alloc (Obj.cells #[c] t) = W ∧ W.heap.size = w.heap.size + 1 + 1 + 1 ∧
    W.cell? ⟨w.heap.size, 0, none⟩ = some a ∧ W.cell? ⟨w.heap.size + 1, 0, none⟩ = some b ∧ W.cell? ⟨w.heap.size + 1 + 1, 0, none⟩ = some c ∧ W.frozen? ⟨w.heap.size + 1 + 1, 0, none⟩ = false ∧ Below w.heap.size w W := by
  refine ⟨_, rfl, by simp, ?_, ?_, ?_, ?_, three _ _ _ _⟩
  · rw [World.cell?_alloc_lt _ _ _ (by simp; omega), World.cell?_alloc_lt _ _ _ (by simp)]; simp
  · rw [World.cell?_alloc_lt _ _ _ (by simp)]; simp
  · simpa using World.cell?_alloc_new ((w.alloc (Obj.cells #[a] t)).alloc (Obj.cells #[b] t)) #[c] t 0
  · simpa using World.frozen?_alloc_new ((w.alloc (Obj.cells #[a] t)).alloc (Obj.cells #[b] t)) #[c] t 0
theorem Fr.own {B : Nat} {w : World} {A : Option Addr} {zs : List Nat} (h : Fr B w A zs) (hz : zs ≠ []) : ∃ g off, A = some ⟨g, off, none⟩ ∧ B ≤ g ∧ Own w g off zs := by
  rcases h with h | h
  · exact absurd h hz
  · exact h
theorem rd_lit (w : World) (z : Nat) : Rd (w.alloc (Obj.cells #[Value.int IntKind.u32 (z : Int)] 59)) (some ⟨w.heap.size, 0, none⟩) [z] :=
  .inr ⟨_, _, rfl, fun i hi => by
    obtain rfl : i = 0 := by simpa using hi
    simp⟩
theorem below_step {W w' : World} {n : Nat} {o : Obj} (hb : Below ((W.drewN n).alloc o).heap.size ((W.drewN n).alloc o) w') : Below W.heap.size W w' :=
  up (up (below_drewN (Below.refl _ _) n) (one _ o)) hb
set_option maxHeartbeats 400000 in
theorem add_any (A B : Option Addr) (c d : Nat) (xs ys : List Nat) (w : World) (hx : Rd w A xs) (hy : Rd w B ys) (hxd : Nm.Dig xs) (hyd : Nm.Dig ys) (hc : xs.length ≤ c) (hd : ys.length ≤ d) (hm : xs.length ≤ 900) (hn : ys.length ≤ 900) :
    Calls Tryz.prog 41 #[nt A xs.length c, nt B ys.length d] w fun e w' => ∃ A' c', e = .returned (nt A' (Nm.nat (Nm.val xs + Nm.val ys)).length c') ∧ (Nm.nat (Nm.val xs + Nm.val ys)).length ≤ c' ∧ Fr w.heap.size w' A' (Nm.nat (Nm.val xs + Nm.val ys)) ∧ Below w.heap.size w w' := by
  obtain ⟨W, hW, hWs, hW0, hW1, hW2, hWf, hWb⟩ := three_cells w (Value.slice A xs.length c) (Value.slice B ys.length d) (Value.slice none 0 0) 24
  have hx' := hx.below hWb
  have hy' := hy.below hWb
  have htx := Nm.tlen_le xs
  have hty := Nm.tlen_le ys
  obtain ⟨m, hmx⟩ : ∃ m, Nm.tlen xs = m := ⟨_, rfl⟩
  obtain ⟨n, hny⟩ : ∃ n, Nm.tlen ys = n := ⟨_, rfl⟩
  have QX := trim_q hx' hc (by omega) hmx
  have QY := trim_q hy' hd (by omega) hny
  obtain ⟨X, hX⟩ : ∃ X, xs.take m = X := ⟨_, rfl⟩
  obtain ⟨Y, hY⟩ : ∃ Y, ys.take n = Y := ⟨_, rfl⟩
  have hXl : X.length = m := by rw [← hX, List.length_take]; omega
  have hYl : Y.length = n := by rw [← hY, List.length_take]; omega
  have rX : Rd W A X := by rw [← hX]; exact hx'.take m
  have rY : Rd W B Y := by rw [← hY]; exact hy'.take n
  have dX : Nm.Dig X := by rw [← hX]; exact hxd.take m
  have dY : Nm.Dig Y := by rw [← hY]; exact hyd.take n
  have vX : Nm.val X = Nm.val xs := by rw [← hX, ← hmx]; exact Nm.val_tlen xs
  have vY : Nm.val Y = Nm.val ys := by rw [← hY, ← hny]; exact Nm.val_tlen ys
  rw [hmx] at htx
  rw [hny] at hty
  have HWs := Lib.hid hWs
  have HXl := Lib.hid hXl
  have HYl := Lib.hid hYl
  have VX := Lib.hid vX
  have VY := Lib.hid vY
  clear hXl hYl vX vY hX hY hmx hny hx hy hx' hy' hxd hyd hWs
  by_cases hlt : m < n
  · go_enter Tryz.func41, Tryz.ntmps41
    go_wp2_with fail
    go_quiet ((first | (go_at_call 76; with_reducible exact QX.out _) | (go_at_call 76; with_reducible exact QY.out _)))
    go_wp2_with (at_builtin
                 refine wpList_tight rfl (.tmp 21) (.tmp 22) rfl B _ Y [0] n 1 rfl rfl (rY.below (below_drewN (one _ _) _)) HYl.out (by exact rd_lit _ 0) (by rw [HYl.out]; omega) (by simp) (.inl (by simp)) ?_
                 intro A' c' w3 hc' hf hb
                 obtain ⟨g, off, rfl, hg, ho⟩ := hf.own (by simp)
                 have hb3 := below_step hb)
    have hg' : W.heap.size ≤ g := by simp at hg; omega
    refine (addTo_n g off (n + 1) c' A m m (Y ++ [0]) X w3 ho (rX.below hb3) (rX.offOf hg') (dY.append (Nm.Dig.mk (by omega) Nm.Dig.nil)) dX (by rw [List.length_append, HYl.out]; rfl) HXl.out (by omega) (by omega)).mono ?_
    rintro e w4 ⟨rs, o, rfl, hrl, hrd, ho1, hv, hwr⟩
    have hsum := Nm.add_fits dY dX HYl.out (by rw [HXl.out]; omega) ho1 hv.out
    rw [VX.out, VY.out, Nat.add_comm] at hsum
    have hb4 : Below W.heap.size W w4 := hwr.below hb3 hg' hb3.size
    have Hsum := Lib.hid hsum
    clear hsum
    go_wp2_with fail
    refine (fromDigits_n W.heap.size (some ⟨g, off, none⟩) (n + 1) c' rs w4 (.inr ⟨g, off, rfl, hg', hwr.own⟩) hrd hrl.out hc' (by omega)).mono ?_
    rintro e w5 ⟨rfl, hf5, hb5⟩
    rw [Hsum.out] at hf5 ⊢
    have hb5' : Below W.heap.size W w5 := up hb4 hb5
    obtain ⟨k1, k2⟩ := seen hb5'
    have hc5 : w5.cell? ⟨w.heap.size + 1 + 1, 0, none⟩ = some (.slice none 0 0) := (k1 _ _ (by rw [HWs.out]; omega)).trans hW2
    have hf6 : w5.frozen? ⟨w.heap.size + 1 + 1, 0, none⟩ = false := (k2 _ _ (by rw [HWs.out]; omega)).trans hWf
    clear k1 k2 hW hW0 hW1 hW2 hWf
    go_wp2_with fail
    refine bodyPost_ret (v := nt (some ⟨g, off, none⟩) (Nm.nat (Nm.val xs + Nm.val ys)).length (Nm.nat (Nm.val xs + Nm.val ys)).length) (by simp [results, Tryz.results41, go_sem, hc5]) rfl ⟨_, _, rfl, Nat.le_refl _, ?_, ?_⟩
    · exact (hf5.mono (by have := HWs.out; omega)).setCell hc5 (by simp)
    · exact (up hWb hb5').setCell (by show w.heap.size ≤ w.heap.size + 1 + 1; omega) _
  · go_enter Tryz.func41, Tryz.ntmps41
    go_wp2_with fail
    go_quiet ((first | (go_at_call 76; with_reducible exact QX.out _) | (go_at_call 76; with_reducible exact QY.out _)))
    go_wp2_with (at_builtin
                 refine wpList_tight rfl (.tmp 21) (.tmp 22) rfl A _ X [0] m 1 rfl rfl (rX.below (below_drewN (one _ _) _)) HXl.out (by exact rd_lit _ 0) (by rw [HXl.out]; omega) (by simp) (.inl (by simp)) ?_
                 intro A' c' w3 hc' hf hb
                 obtain ⟨g, off, rfl, hg, ho⟩ := hf.own (by simp)
                 have hb3 := below_step hb)
    have hg' : W.heap.size ≤ g := by simp at hg; omega
    refine (addTo_n g off (m + 1) c' B n n (X ++ [0]) Y w3 ho (rY.below hb3) (rY.offOf hg') (dX.append (Nm.Dig.mk (by omega) Nm.Dig.nil)) dY (by rw [List.length_append, HXl.out]; rfl) HYl.out (by omega) (by omega)).mono ?_
    rintro e w4 ⟨rs, o, rfl, hrl, hrd, ho1, hv, hwr⟩
    have hsum := Nm.add_fits dX dY HXl.out (by rw [HYl.out]; omega) ho1 hv.out
    rw [VX.out, VY.out] at hsum
    have hb4 : Below W.heap.size W w4 := hwr.below hb3 hg' hb3.size
    have Hsum := Lib.hid hsum
    clear hsum
    go_wp2_with fail
    refine (fromDigits_n W.heap.size (some ⟨g, off, none⟩) (m + 1) c' rs w4 (.inr ⟨g, off, rfl, hg', hwr.own⟩) hrd hrl.out hc' (by omega)).mono ?_
    rintro e w5 ⟨rfl, hf5, hb5⟩
    rw [Hsum.out] at hf5 ⊢
    have hb5' : Below W.heap.size W w5 := up hb4 hb5
    obtain ⟨k1, k2⟩ := seen hb5'
    have hc5 : w5.cell? ⟨w.heap.size + 1 + 1, 0, none⟩ = some (.slice none 0 0) := (k1 _ _ (by rw [HWs.out]; omega)).trans hW2
    have hf6 : w5.frozen? ⟨w.heap.size + 1 + 1, 0, none⟩ = false := (k2 _ _ (by rw [HWs.out]; omega)).trans hWf
    clear k1 k2 hW hW0 hW1 hW2 hWf
    go_wp2_with fail
    refine bodyPost_ret (v := nt (some ⟨g, off, none⟩) (Nm.nat (Nm.val xs + Nm.val ys)).length (Nm.nat (Nm.val xs + Nm.val ys)).length) (by simp [results, Tryz.results41, go_sem, hc5]) rfl ⟨_, _, rfl, Nat.le_refl _, ?_, ?_⟩
    · exact (hf5.mono (by have := HWs.out; omega)).setCell hc5 (by simp)
    · exact (up hWb hb5').setCell (by show w.heap.size ≤ w.heap.size + 1 + 1; omega) _
end Go.Proofs.YtjfehdkfogdpgaaGreatDoor
namespace Go.Proofs.YtjfehdkfogdpgaaGreatDoor
open Go.RowKit
theorem sub_fits {xs ys rs : List Nat} {m n o : Nat} (hxd : Nm.Dig xs) (hyd : Nm.Dig ys) (hrd : Nm.Dig rs) (hm : Nm.tlen xs = m) (hn : Nm.tlen ys = n) (hl : rs.length = m) (ho : o ≤ 1) (hle : Nm.val ys ≤ Nm.val xs)
    (h : Nm.val rs + Nm.val ((ys.take n).take m) = Nm.val (xs.take m) + 4294967296 ^ m * o) : Nm.val rs = Nm.val xs - Nm.val ys := by
  have hnm : n ≤ m := by
    rcases Nat.lt_or_ge m n with h1 | h1
    · have e1 := Nm.tlen_eq hxd
      have e2 := Nm.tlen_eq hyd
      have := Nm.lt_of_len (a := Nm.val xs) (b := Nm.val ys) (by omega)
      omega
    · exact h1
  rw [List.take_of_length_le (l := ys.take n) (by rw [List.length_take]; omega)] at h
  rw [← hm, ← hn, Nm.val_tlen, Nm.val_tlen, hm] at h
  have h1 := Nm.val_lt hrd
  rw [hl] at h1
  generalize 4294967296 ^ m = P at h h1
  generalize Nm.val xs = x at *
  generalize Nm.val ys = y at *
  generalize Nm.val rs = r at *
  rcases Nat.eq_zero_or_pos o with h5 | h5
  · rw [h5, Nat.mul_zero] at h
    omega
  · obtain rfl : o = 1 := by omega
    rw [Nat.mul_one] at h
    omega
set_option maxHeartbeats 400000 in
theorem subtractFrom_nil (A B : Option Addr) (c m d : Nat) (w : World) :
    Calls Tryz.prog 79 #[.slice A 0 c, .slice B m d] w fun e w' => e = .returned (.tuple #[]) ∧ w = w' := by
  go_enter Tryz.func79, Tryz.ntmps79
  go_wp2_with fail
  go_loop [9] (fun i => i = .int .i64 0) (fun _ => 0)
  case atStart => rfl
  case round =>
    subst hrel
    go_wp2_with fail
    go_end0
    exact ⟨rfl, rfl⟩
def Old (Bs : Nat) (A : Option Addr) (zs : List Nat) : Prop := ∀ g, Bs ≤ g → Off g A zs
theorem Rd.old {w : World} {A : Option Addr} {zs : List Nat} (h : Rd w A zs) : Old w.heap.size A zs := fun _ hg => h.offOf hg
theorem subtractFrom_fr (Bs : Nat) (A B : Option Addr) (n c m d : Nat) (zs ys : List Nat) (w : World) (h : Fr Bs w A zs) (hy : Rd w B ys) (hf : Old Bs B ys) (hzd : Nm.Dig zs) (hyd : Nm.Dig ys) (hzn : zs.length = n) (hym : ys.length = m) (hm : n ≤ 1000) (hn : m ≤ 1000) (hB : Bs ≤ w.heap.size) :
    Calls Tryz.prog 79 #[.slice A n c, .slice B m d] w fun e w' => ∃ (rs : List Nat) (o : Nat), e = .returned (.tuple #[]) ∧ Hid (rs.length = n) ∧ Nm.Dig rs ∧ o ≤ 1 ∧ Hid (Nm.val rs + Nm.val (ys.take n) = Nm.val zs + 4294967296 ^ n * o) ∧ Fr Bs w' A rs ∧ Below Bs w w' := by
  subst hzn hym
  rcases h with rfl | ⟨g, off, rfl, hg, ho⟩
  · refine (subtractFrom_nil A B c ys.length d w).mono ?_
    rintro e w' ⟨rfl, rfl⟩
    exact ⟨[], 0, rfl, rfl, Nm.Dig.nil, Nat.zero_le _, by show _ = _; simp [Nm.val], Fr.nil _ _ _, Below.refl _ _⟩
  · refine (subtractFrom_any g off c B d zs ys w ho hy (hf g hg) hzd hyd hm hn).mono ?_
    rintro e w' ⟨rs, o, rfl, h1, h2, h3, h4, h5⟩
    exact ⟨rs, o, rfl, h1, h2, h3, h4, .inr ⟨g, off, rfl, hg, h5.own⟩, h5.below (Below.refl _ _) hg hB⟩
theorem trim_n {A : Option Addr} {c m : Nat} {zs : List Nat} {w : World} (h : Rd w A zs) (hc : zs.length ≤ c) (hm : zs.length ≤ 1000) (ht : Hid (Nm.tlen zs = m)) :
    Calls Tryz.prog 76 #[.slice A zs.length c] w fun e w' => e = .returned (.slice A m m) ∧ w = w' := by
  have := trim_any A c zs w h hc hm; rwa [ht.out] at this
set_option maxHeartbeats 400000 in
theorem sub_any (A B : Option Addr) (c d : Nat) (xs ys : List Nat) (w : World) (hx : Rd w A xs) (hy : Rd w B ys) (hxd : Nm.Dig xs) (hyd : Nm.Dig ys) (hc : xs.length ≤ c) (hd : ys.length ≤ d) (hm : xs.length ≤ 900) (hn : ys.length ≤ 900) :
    Calls Tryz.prog 42 #[nt A xs.length c, nt B ys.length d] w fun e w' => ∃ A' c', e = .returned (.tuple #[nt A' (Nm.nat (Nm.val xs - Nm.val ys)).length c', .bool (decide (Nm.val ys ≤ Nm.val xs))]) ∧ (Nm.nat (Nm.val xs - Nm.val ys)).length ≤ c' ∧ Fr w.heap.size w' A' (Nm.nat (Nm.val xs - Nm.val ys)) ∧ Below w.heap.size w w' := by
  obtain ⟨W, hW, hWs, hW0, hW1, hW2, hWf, hWb⟩ := three_cells w (Value.slice A xs.length c) (Value.slice B ys.length d) (Value.slice none 0 0) 24
  have hx' := hx.below hWb
  have hy' := hy.below hWb
  have hcmp := Lib.hid (cmp_any A B c d xs ys W hx' hy' hxd hyd hc hd (by omega) (by omega))
  have HWs := Lib.hid hWs
  clear hWs
  by_cases hlt : Nm.val xs < Nm.val ys
  · have hci : cmpI (Nm.val xs) (Nm.val ys) = -1 := by unfold cmpI; rw [if_pos (by omega)]
    have h0 : Nm.val xs - Nm.val ys = 0 := by omega
    have h1 : decide (Nm.val ys ≤ Nm.val xs) = false := decide_eq_false (by omega)
    rw [hci] at hcmp
    rw [h0, h1, Nm.nat_zero]
    clear hci h0 h1
    go_enter Tryz.func42, Tryz.ntmps42
    go_wp2_with fail
    refine hcmp.out.mono ?_
    rintro e w1 ⟨rfl, hb⟩
    obtain ⟨k1, k2⟩ := seen hb
    have hc5 : w1.cell? ⟨w.heap.size + 1 + 1, 0, none⟩ = some (.slice none 0 0) := (k1 _ _ (by rw [HWs.out]; omega)).trans hW2
    have hf6 : w1.frozen? ⟨w.heap.size + 1 + 1, 0, none⟩ = false := (k2 _ _ (by rw [HWs.out]; omega)).trans hWf
    clear k1 k2 hW hW0 hW1 hW2 hWf
    go_wp2_with fail
    refine bodyPost_ret (v := .tuple #[nt none 0 0, .bool false]) (by simp [results, Tryz.results42, go_sem, hc5]) rfl ⟨none, 0, rfl, Nat.le_refl _, Fr.nil _ _ _, ?_⟩
    exact (up hWb hb).setCell (by show w.heap.size ≤ w.heap.size + 1 + 1; omega) _
  · have hci : ∃ z : Int, cmpI (Nm.val xs) (Nm.val ys) = z ∧ 0 ≤ z := ⟨_, rfl, by unfold cmpI; rw [if_neg (by omega)]; split <;> omega⟩
    obtain ⟨z, hz, hz0⟩ := hci
    have h1 : decide (Nm.val ys ≤ Nm.val xs) = true := decide_eq_true (by omega)
    rw [hz] at hcmp
    rw [h1]
    clear hz h1
    go_enter Tryz.func42, Tryz.ntmps42
    go_wp2_with fail
    refine hcmp.out.mono ?_
    rintro e w1 ⟨rfl, hb⟩
    obtain ⟨k1, k2⟩ := seen hb
    have e0 : w1.cell? ⟨w.heap.size, 0, none⟩ = some (Value.slice A xs.length c) := (k1 _ _ (by rw [HWs.out]; omega)).trans hW0
    have hx1 := hx'.below hb
    obtain ⟨m, hmx⟩ : ∃ m, Nm.tlen xs = m := ⟨_, rfl⟩
    obtain ⟨n, hny⟩ : ∃ n, Nm.tlen ys = n := ⟨_, rfl⟩
    have htx := Nm.tlen_le xs
    have hty := Nm.tlen_le ys
    have hXl : (xs.take m).length = m := by rw [List.length_take]; omega
    have hYl : (ys.take n).length = n := by rw [List.length_take]; omega
    rw [hmx] at htx
    rw [hny] at hty
    have Hmx := Lib.hid hmx
    have Hny := Lib.hid hny
    have HXl := Lib.hid hXl
    have HYl := Lib.hid hYl
    clear hmx hny hXl hYl
    have K := Lib.hid (And.intro k1 k2)
    clear k1 k2
    go_wp2_with fail
    refine (trim_n hx1 hc (by omega) Hmx).mono ?_
    rintro e w2 ⟨rfl, rfl⟩
    go_wp2_with fail
    refine (clone_any A m (xs.take m) _ (hx1.take m) HXl.out (by rw [HXl.out]; omega)).mono ?_
    rintro e w2 ⟨A2, c2, rfl, hc2, hf2, hb2⟩
    have hb2' := up hb hb2
    have e1 : w2.cell? ⟨w.heap.size + 1, 0, none⟩ = some (Value.slice B ys.length d) := ((seen hb2').1 _ _ (by rw [HWs.out]; omega)).trans hW1
    have hy2 := hy'.below hb2'
    clear e0
    go_wp2_with fail
    refine (trim_n hy2 hd (by omega) Hny).mono ?_
    rintro e w3 ⟨rfl, rfl⟩
    go_wp2_with fail
    refine (subtractFrom_fr W.heap.size A2 B m c2 n n (xs.take m) (ys.take n) _ (hf2.mono hb.size) (hy2.take n) (hy'.take n).old (hxd.take m) (hyd.take n) HXl.out HYl.out (by omega) (by omega) hb2'.size).mono ?_
    rintro e w4 ⟨rs, o, rfl, hrl, hrd, ho1, hv, hf4, hb4⟩
    have hb4' := hb2'.trans hb4
    have hval := sub_fits hxd hyd hrd Hmx.out Hny.out hrl.out ho1 (by omega) hv.out
    have Hval := Lib.hid hval
    clear hval
    go_wp2_with fail
    refine (fromDigits_n W.heap.size A2 m c2 rs _ hf4 hrd hrl.out hc2 (by omega)).mono ?_
    rintro e w5 ⟨rfl, hf5, hb5⟩
    rw [Hval.out] at hf5 ⊢
    have hb5' : Below W.heap.size W w5 := up hb4' hb5
    obtain ⟨k1, k2⟩ := seen hb5'
    have hc5 : w5.cell? ⟨w.heap.size + 1 + 1, 0, none⟩ = some (.slice none 0 0) := (k1 _ _ (by rw [HWs.out]; omega)).trans hW2
    have hf6 : w5.frozen? ⟨w.heap.size + 1 + 1, 0, none⟩ = false := (k2 _ _ (by rw [HWs.out]; omega)).trans hWf
    clear k1 k2 hW hW0 hW1 hW2 hWf
    go_wp2_with fail
    refine bodyPost_ret (v := .tuple #[nt A2 (Nm.nat (Nm.val xs - Nm.val ys)).length (Nm.nat (Nm.val xs - Nm.val ys)).length, .bool true]) (by simp [results, Tryz.results42, go_sem, hc5]) rfl ⟨_, _, rfl, Nat.le_refl _, ?_, ?_⟩
    · exact (hf5.mono hWb.size).setCell hc5 (by simp)
    · exact (up hWb hb5').setCell (by show w.heap.size ≤ w.heap.size + 1 + 1; omega) _
end Go.Proofs.YtjfehdkfogdpgaaGreatDoor
namespace Go.Proofs.YtjfehdkfogdpgaaGreatDoor
open Go.RowKit
theorem prod_le {D f : Nat} (hD : D < 4294967296) (hf : f < 4294967296) : D * f ≤ 18446744065119617025 := by
  have h1 : D * f ≤ 4294967295 * 4294967295 := Nat.mul_le_mul (by omega) (by omega)
  omega
set_option maxHeartbeats 400000 in
theorem addTimes_any (g off c : Nat) (B : Option Addr) (d f : Nat) (zs ys : List Nat) (w : World) (ho : Own w g off zs) (hy : Rd w B ys) (hfar : Off g B ys) (hzd : Nm.Dig zs) (hyd : Nm.Dig ys) (hl0 : zs.length = ys.length) (hm : ys.length ≤ 1000) (hf : f < 4294967296) :
    Calls Tryz.prog 98 #[.slice (some ⟨g, off, none⟩) ys.length c, .slice B ys.length d, .int .u32 f] w fun e w' => ∃ (rs : List Nat) (o : Nat), e = .returned (.int .u32 o) ∧ Hid (rs.length = ys.length) ∧ Nm.Dig rs ∧ o < 4294967296 ∧ Hid (Nm.val rs + 4294967296 ^ ys.length * o = Nm.val zs + Nm.val ys * f) ∧ Wr w w' g off rs := by
  have HL := Lib.hid hl0
  clear hl0
  go_enter Tryz.func98, Tryz.ntmps98
  go_wp2_with fail
  go_loopw [7, 12] (fun cy i wr => ∃ (k o : Nat) (rs : List Nat), k ≤ ys.length ∧ i = .int .i64 k ∧ cy = .int .u64 o ∧ o < 4294967296 ∧ Hid (rs.length = ys.length) ∧ Nm.Dig rs ∧ Hid (∀ j, k ≤ j → rs[j]? = zs[j]?) ∧ Hid (Nm.val (rs.take k) + 4294967296 ^ k * o = Nm.val (zs.take k) + Nm.val (ys.take k) * f) ∧ Wr w wr g off rs) (fun _ i _ => ys.length - (intOf i).toNat)
  case atStart => exact ⟨0, 0, zs, Nat.zero_le _, rfl, rfl, by omega, HL.out, hzd, fun _ _ => rfl, by show _ = _; simp [Nm.val], Wr.refl ho⟩
  case round =>
    obtain ⟨k, o, rs, hk, rfl, rfl, hco, hl, hrd, hrest, hv, hw⟩ := hrel
    by_cases hlt : k < ys.length
    · have hkr : k < rs.length := by rw [hl.out]; exact hlt
      have hkz : k < zs.length := by rw [HL.out]; exact hlt
      have c1 := hw.own.1 k hkr
      have f1 := hw.own.2 k hkr
      obtain ⟨x, hx⟩ : ∃ x, rs[k] = x := ⟨_, rfl⟩
      rw [hx] at c1
      have hxlt : x < 4294967296 := by rw [← hx]; exact hrd.at_ hkr
      have hzk : zs[k] = x := by
        have := hrest.out k (Nat.le_refl _)
        rw [List.getElem?_eq_getElem hkr, List.getElem?_eq_getElem hkz] at this
        injection this with this
        rw [← this, hx]
      have Hzk := Lib.hid hzk
      clear hx hzk
      obtain ⟨g', off', hB, hr⟩ := (hy.wr hw hfar).at_ hlt
      have c2 := hr k hlt
      obtain ⟨D, hD⟩ : ∃ D, ys[k] = D := ⟨_, rfl⟩
      rw [hD] at c2
      have hDlt : D < 4294967296 := by rw [← hD]; exact hyd.at_ hlt
      have HD := Lib.hid hD
      have hple := prod_le hDlt hf
      obtain ⟨p, hp⟩ : ∃ p, D * f = p := ⟨_, rfl⟩
      rw [hp] at hple
      have hpi : (D : Int) * (f : Int) = (p : Int) := by rw [← hp]; simp
      have HP := Lib.hid hp
      have hsum : ∀ (s o' : Nat), s + 4294967296 * o' = o + (p + x) →
          Hid (Nm.val ((rs.set k s).take (k + 1)) + 4294967296 ^ (k + 1) * o' = Nm.val (zs.take (k + 1)) + Nm.val (ys.take (k + 1)) * f) := by
        intro s o' h2
        show _ = _
        have e1 := Nm.val_take_succ (rs.set k s) k (by simpa using hkr)
        rw [take_set_other] at e1
        have e2 := Nm.val_take_succ zs k hkz
        rw [Hzk.out] at e2
        have e3 := Nm.val_take_succ ys k hlt
        rw [HD.out] at e3
        have e4 := hv.out
        have e5 := congrArg (fun t => 4294967296 ^ k * t) h2
        simp only [Nat.mul_add] at e5
        rw [e1, e2, e3, Nat.pow_succ, Nat.mul_assoc, Nat.add_mul, Nat.mul_assoc _ D f, HP.out]
        simp only [List.getElem_set_self]
        omega
      have Hsum := Lib.hid hsum
      have hwset := fun s => hw.set k hkr s
      have Hws := Lib.hid hwset
      subst hB
      clear hr hD hp hsum hwset
      go_wp2_with fail
      have hmod : (((o : Int) + ((p : Int) + (x : Int))) % 4294967296) = (((o + (p + x)) % 4294967296 : Nat) : Int) := by omega
      have hdiv : (((o : Int) + ((p : Int) + (x : Int))) / 4294967296) = (((o + (p + x)) / 4294967296 : Nat) : Int) := by omega
      rw [hmod, hdiv]
      refine ⟨⟨k + 1, (o + (p + x)) / 4294967296, rs.set k ((o + (p + x)) % 4294967296), by omega, by go_num, rfl, by omega, ?_, hrd.set k (by omega), ?_, Hsum.out _ _ (by omega), Hws.out _⟩, by simp [intOf]; omega⟩
      · show _ = _
        rw [List.length_set]; exact hl.out
      · intro j hj
        rw [List.getElem?_set_ne (by omega)]
        exact hrest.out j (by omega)
    · go_wp2_with fail
      go_ret
      refine ⟨rs, o, rfl, hl, hrd, hco, ?_, hw⟩
      have hkk : k = ys.length := by omega
      have h1 := hv.out
      rw [hkk, List.take_of_length_le (Nat.le_of_eq hl.out), List.take_of_length_le (Nat.le_of_eq HL.out), List.take_of_length_le (Nat.le_refl _)] at h1
      exact h1
end Go.Proofs.YtjfehdkfogdpgaaGreatDoor
namespace Go.Proofs.YtjfehdkfogdpgaaGreatDoor
open Go.RowKit
namespace Nm
theorem val_zeros {T : List Nat} (h : ∀ x ∈ T, x = 0) : val T = 0 := by
  induction T with
  | nil => rfl
  | cons t T ih =>
    have h1 := h t (by simp)
    have h2 := ih (fun x hx => h x (by simp [hx]))
    simp only [val]; omega
theorem val_replicate (n : Nat) : val (List.replicate n 0) = 0 := val_zeros (fun _ hx => (List.mem_replicate.1 hx).2)
theorem dig_replicate (n : Nat) : Dig (List.replicate n 0) := fun _ hx => by rw [(List.mem_replicate.1 hx).2]; omega
theorem mul_step {ps rs : List Nat} {k n N o x y : Nat} (hl : ps.length = N) (hk : k + n + 1 ≤ N) (hrl : rs.length = n) (hz : ∀ j, k + n ≤ j → j < N → ps[j]? = some 0)
    (hv : val rs + 4294967296 ^ n * o = val ((ps.drop k).take n) + y * x) :
    val ((ps.take k ++ rs ++ ps.drop (k + n)).set (k + n) o) = val ps + 4294967296 ^ k * (x * y) := by
  have hz0 : ∀ z ∈ ps.drop (k + n), z = 0 := by
    intro z hz1
    obtain ⟨j, hj, rfl⟩ := List.mem_iff_getElem.1 hz1
    have hj' : j < ps.length - (k + n) := by simpa using hj
    have := hz (k + n + j) (by omega) (by omega)
    rw [List.getElem?_eq_getElem (by omega)] at this
    rw [List.getElem_drop]
    exact Option.some.inj this
  have h1 : (ps.take k ++ rs).length = k + n := by rw [List.length_append, List.length_take, hrl]; omega
  have h2 : (ps.take k ++ rs ++ ps.drop (k + n)).set (k + n) o = ps.take k ++ rs ++ (ps.drop (k + n)).set 0 o := by
    rw [List.set_append_right _ _ (by rw [h1]; exact Nat.le_refl _), h1, Nat.sub_self]
  have h3 : val ((ps.drop (k + n)).set 0 o) = o := by
    have hne : ps.drop (k + n) ≠ [] := by intro e; have := congrArg List.length e; simp at this; omega
    obtain ⟨t, T, hT⟩ := List.exists_cons_of_ne_nil hne
    rw [hT]
    simp only [List.set_cons_zero, val]
    rw [val_zeros (T := T) (fun z hz => hz0 z (by rw [hT]; simp [hz]))]
    omega
  have h4 : val ps = val (ps.take k) + 4294967296 ^ k * val ((ps.drop k).take n) := by
    conv => lhs; rw [← List.take_append_drop k ps]
    rw [val_append, List.length_take, Nat.min_eq_left (by omega)]
    congr 2
    conv => lhs; rw [← List.take_append_drop n (ps.drop k)]
    rw [val_append, List.drop_drop, val_zeros (T := ps.drop (k + n)) hz0, Nat.mul_zero, Nat.add_zero]
  rw [h2, val_append, h1, h3, val_append, List.length_take, Nat.min_eq_left (by omega), h4, Nat.pow_add, Nat.mul_assoc]
  have h5 := congrArg (fun t => 4294967296 ^ k * t) hv
  simp only [Nat.mul_add] at h5
  rw [Nat.mul_comm x y]
  omega
end Nm
theorem Own.splice {w w' : World} {g off k : Nat} {ps rs : List Nat} (h : Own w g off ps) (hw : Wr w w' g (off + k) rs) (hk : k + rs.length ≤ ps.length) : Own w' g off (ps.take k ++ rs ++ ps.drop (k + rs.length)) := by
  have hlen : (ps.take k ++ rs ++ ps.drop (k + rs.length)).length = ps.length := by simp; omega
  refine ⟨fun i hi => ?_, fun i hi => by rw [hw.soft]; exact h.2 i (by omega)⟩
  have hi' : i < ps.length := by omega
  rcases Nat.lt_or_ge i k with h1 | h1
  · rw [hw.rest _ (.inl (by omega)), h.1 i hi']
    congr 3
    rw [List.getElem_append_left (by simp; omega), List.getElem_append_left (by simp; omega), List.getElem_take]
  · rcases Nat.lt_or_ge i (k + rs.length) with h2 | h2
    · have := hw.own.1 (i - k) (by omega)
      rw [show off + k + (i - k) = off + i from by omega] at this
      rw [this]
      congr 3
      rw [List.getElem_append_left (by simp; omega), List.getElem_append_right (by simp; omega)]
      congr 1
      simp; omega
    · rw [hw.rest _ (.inr (by omega)), h.1 i hi']
      congr 3
      rw [List.getElem_append_right (by simp; omega), List.getElem_drop]
      congr 1
      simp; omega
theorem Own.part {w : World} {g off : Nat} {ps : List Nat} (h : Own w g off ps) (k n : Nat) : Own w g (off + k) ((ps.drop k).take n) := by
  refine ⟨fun i hi => ?_, fun i hi => ?_⟩
  · have hi' : i < n ∧ i < ps.length - k := by simp at hi; omega
    have := h.1 (k + i) (by omega)
    rw [Nat.add_assoc, this]
    congr 3
    rw [List.getElem_take, List.getElem_drop]
  · have hi' : i < n ∧ i < ps.length - k := by simp at hi; omega
    rw [Nat.add_assoc]
    exact h.2 (k + i) (by omega)
theorem make32 (n c : Nat) (hnc : n ≤ c) (hc : c ≤ 100000) (z y : Int) (hz : z = (n : Int)) (hy : y = (c : Int)) (W : World) :
    (Instr.makeSlice 22 (.int .i64 z) (.int .i64 y)).run Tryz.prog W = .ok (.slice (some ⟨W.heap.size, 0, none⟩) n c) (W.alloc (.cells (madeCells #[Value.int .u32 0] c) 59)) := by
  obtain ⟨i, hi, hz0, hs, hby⟩ := info35_parts
  subst hz hy
  have hr := run_make (P := Tryz.prog) W 22 59 i _ Tryz.underlying22 hi hz0 .i64 .i64 n c (by omega) (by omega) (by rw [hby]; omega) (by omega)
  simp only [Int.toNat_natCast, hs, Nat.mul_one] at hr
  exact hr
theorem slice32 (g off N C i j : Nat) (a b : Int) (ha : a = (i : Int)) (hb : b = (j : Int)) (h1 : i ≤ j) (h2 : j ≤ C) (h3 : i < C) (W : World) :
    (Instr.sliceAt 22 (.slice (some ⟨g, off, none⟩) N C) (some (.int .i64 a)) (some (.int .i64 b)) none).run Tryz.prog W = .ok (.slice (some ⟨g, off + i, none⟩) (j - i) (C - i)) W := by
  obtain ⟨t, ht, _, hs, _⟩ := info35_parts
  subst ha hb
  have hu : Tryz.prog.underlying 22 = some (.slice (Tryz.prog.elem 22)) := by kernel_rfl
  have he : Tryz.prog.elem 22 = 59 := by kernel_rfl
  rw [run_sliceAt_slice (h := hu), run_slice_lh (ht := hu) (h0 := by omega) (h1 := by omega) (h2 := by omega), he]
  simp [sliced, sizeOf, typeInfo, ht, hs, Addr.add_lit, show C ≠ i from by omega]
theorem own_made (W : World) (c : Nat) : Own (W.alloc (.cells (madeCells #[Value.int .u32 0] c) 59)) W.heap.size 0 (List.replicate c 0) :=
  Row.new W 59 _ _ fun i hi => by
    have hi' : i < c := by simpa using hi
    have h1 := toList_madeCells_one (Value.int .u32 0) c
    rw [← Array.getElem?_toList, h1, List.getElem?_replicate, if_pos hi']
    simp
end Go.Proofs.YtjfehdkfogdpgaaGreatDoor
namespace Go.Proofs.YtjfehdkfogdpgaaGreatDoor
open Go.RowKit
theorem addTimes_n (g off n c : Nat) (B : Option Addr) (m d f : Nat) (zs ys : List Nat) (w : World) (ho : Own w g off zs) (hy : Rd w B ys) (hfar : Off g B ys) (hzd : Nm.Dig zs) (hyd : Nm.Dig ys) (hl0 : zs.length = n) (hyl : ys.length = n) (hmn : m = n) (hm : n ≤ 1000) (hf : f < 4294967296) :
    Calls Tryz.prog 98 #[.slice (some ⟨g, off, none⟩) n c, .slice B m d, .int .u32 f] w fun e w' => ∃ (rs : List Nat) (o : Nat), e = .returned (.int .u32 o) ∧ Hid (rs.length = n) ∧ Nm.Dig rs ∧ o < 4294967296 ∧ Hid (Nm.val rs + 4294967296 ^ n * o = Nm.val zs + Nm.val ys * f) ∧ Wr w w' g off rs := by
  subst hmn hyl
  exact addTimes_any g off c B d f zs ys w ho hy hfar hzd hyd hl0 hm hf
set_option maxHeartbeats 400000 in
theorem mul_any (A B : Option Addr) (c d : Nat) (xs ys : List Nat) (w : World) (hx : Rd w A xs) (hy : Rd w B ys) (hxd : Nm.Dig xs) (hyd : Nm.Dig ys) (hc : xs.length ≤ c) (hd : ys.length ≤ d) (hm : xs.length ≤ 400) (hn : ys.length ≤ 400) :
    Calls Tryz.prog 74 #[nt A xs.length c, nt B ys.length d] w fun e w' => ∃ A' c', e = .returned (nt A' (Nm.nat (Nm.val xs * Nm.val ys)).length c') ∧ (Nm.nat (Nm.val xs * Nm.val ys)).length ≤ c' ∧ Fr w.heap.size w' A' (Nm.nat (Nm.val xs * Nm.val ys)) ∧ Below w.heap.size w w' := by
  obtain ⟨W, hW, hWs, hW0, hW1, hW2, hWf, hWb⟩ := three_cells w (Value.slice A xs.length c) (Value.slice B ys.length d) (Value.slice none 0 0) 24
  have hx' := hx.below hWb
  have hy' := hy.below hWb
  have htx := Nm.tlen_le xs
  have hty := Nm.tlen_le ys
  obtain ⟨m, hmx⟩ : ∃ m, Nm.tlen xs = m := ⟨_, rfl⟩
  obtain ⟨n, hny⟩ : ∃ n, Nm.tlen ys = n := ⟨_, rfl⟩
  have QX := trim_q hx' hc (by omega) hmx
  have QY := trim_q hy' hd (by omega) hny
  obtain ⟨X, hX⟩ : ∃ X, xs.take m = X := ⟨_, rfl⟩
  obtain ⟨Y, hY⟩ : ∃ Y, ys.take n = Y := ⟨_, rfl⟩
  have hXl : X.length = m := by rw [← hX, List.length_take]; omega
  have hYl : Y.length = n := by rw [← hY, List.length_take]; omega
  have rX : Rd W A X := by rw [← hX]; exact hx'.take m
  have rY : Rd W B Y := by rw [← hY]; exact hy'.take n
  have dX : Nm.Dig X := by rw [← hX]; exact hxd.take m
  have dY : Nm.Dig Y := by rw [← hY]; exact hyd.take n
  have vX : Nm.val X = Nm.val xs := by rw [← hX, ← hmx]; exact Nm.val_tlen xs
  have vY : Nm.val Y = Nm.val ys := by rw [← hY, ← hny]; exact Nm.val_tlen ys
  rw [hmx] at htx
  rw [hny] at hty
  have HWs := Lib.hid hWs
  have HXl := Lib.hid hXl
  have HYl := Lib.hid hYl
  have VX := Lib.hid vX
  have VY := Lib.hid vY
  have hmk := fun W => make32 (m + n) (m + n) (Nat.le_refl _) (by omega) ((m : Int) + (n : Int)) ((m : Int) + (n : Int)) (by omega) (by omega) W
  clear hXl hYl vX vY hX hY hmx hny hx hy hx' hy' hxd hyd hWs
  go_enter Tryz.func74, Tryz.ntmps74
  go_wp2_with fail
  go_quiet ((first | (go_at_call 76; with_reducible exact QX.out _) | (go_at_call 76; with_reducible exact QY.out _)))
  go_wp2_with fail
  have hbase : Below W.heap.size W ((W.drewN nq).alloc (Obj.cells (madeCells #[Value.int IntKind.u32 0] (m + n)) 59)) := (below_drewN (Below.refl _ _) _).alloc (Nat.le_refl _) _
  go_loopw [24] (fun i wr => ∃ (k : Nat) (ps : List Nat), k ≤ m ∧ i = .int .i64 k ∧ Hid (ps.length = m + n) ∧ Nm.Dig ps ∧ Hid (∀ j, k + n ≤ j → j < m + n → ps[j]? = some 0) ∧ Hid (Nm.val ps = Nm.val (X.take k) * Nm.val Y) ∧ Own wr W.heap.size 0 ps ∧ Below W.heap.size W wr) (fun i _ => m - (intOf i).toNat)
  case atStart => exact ⟨0, List.replicate (m + n) 0, Nat.zero_le _, rfl, by show _ = _; simp, Nm.dig_replicate _, fun j _ hj => by rw [List.getElem?_replicate, if_pos hj], by show _ = _; rw [Nm.val_replicate]; simp [Nm.val], own_made (W.drewN nq) (m + n), hbase⟩
  case round =>
    obtain ⟨k, ps, hk, rfl, hl, hpd, hz, hv, hown, hb⟩ := hrel
    by_cases hlt : k < m
    · obtain ⟨g', off', hA, hr⟩ := (rX.below hb).at_ (i := k) (by rw [HXl.out]; exact hlt)
      have hkX : k < X.length := by rw [HXl.out]; exact hlt
      have c2 := hr k hkX
      obtain ⟨x, hx⟩ : ∃ x, X[k] = x := ⟨_, rfl⟩
      rw [hx] at c2
      have hxlt : x < 4294967296 := by rw [← hx]; exact dX.at_ hkX
      have Hx := Lib.hid hx
      have hsl := fun V => slice32 W.heap.size 0 (m + n) (m + n) k (k + n) (k : Int) ((k : Int) + (n : Int)) rfl (by omega) (by omega) (by omega) (by omega) V
      have hix := fun V => index32 V W.heap.size 0 (m + n) (m + n) (k + n) ((k : Int) + (n : Int)) (by omega) (by omega)
      subst hA
      clear hr hx
      go_wp2_with fail
      refine (addTimes_n W.heap.size k n (m + n - k) B n n x ((ps.drop k).take n) Y wr (by have := hown.part k n; rwa [Nat.zero_add] at this) (rY.below hb) (rY.offOf (Nat.le_refl _)) ((hpd.drop k).take n) dY (by have := hl.out; simp; omega) HYl.out rfl (by omega) hxlt).mono ?_
      rintro e w2 ⟨rs, o, rfl, hrl, hrd, ho1, hv2, hwr⟩
      have hown2 := hown.splice (k := k) (by rw [Nat.zero_add]; exact hwr) (by rw [hrl.out, hl.out]; omega)
      rw [hrl.out] at hown2
      have hlen2 : (ps.take k ++ rs ++ ps.drop (k + n)).length = m + n := by have := hl.out; have := hrl.out; simp; omega
      have hb2 : Below W.heap.size W w2 := hwr.below hb (Nat.le_refl _) hb.size
      obtain ⟨v3, c3⟩ : ∃ v3 : Nat, w2.cell? ⟨W.heap.size, 0 + (k + n), none⟩ = some (.int .u32 (v3 : Int)) := ⟨_, hown2.1 (k + n) (by rw [hlen2]; omega)⟩
      have f3 := hown2.2 (k + n) (by rw [hlen2]; omega)
      rw [Nat.zero_add] at c3 f3
      have hval := Nm.mul_step hl.out (by omega) hrl.out hz.out hv2.out
      have Hval := Lib.hid hval
      have Hlen2 := Lib.hid hlen2
      clear hval hlen2
      go_wp2_with fail
      go_roundw
      case rel =>
        refine ⟨k + 1, (ps.take k ++ rs ++ ps.drop (k + n)).set (k + n) o, by omega, by go_num, ?_, ?_, ?_, ?_, ?_, ?_⟩
        · show _ = _; rw [List.length_set]; exact Hlen2.out
        · exact (((hpd.take k).append hrd).append (hpd.drop _)).set _ ho1
        · intro j hj1 hj2
          rw [List.getElem?_set_ne (by omega), List.getElem?_append_right (by have := hl.out; have := hrl.out; simp; omega), List.getElem?_drop]
          have := hz.out j (by omega) hj2
          rw [← this]
          congr 1
          have := hl.out; have := hrl.out
          simp; omega
        · show _ = _
          rw [Hval.out, hv.out, Nm.val_take_succ X k hkX, Hx.out, Nat.add_mul, Nat.mul_assoc]
        · have := hown2.set (k + n) o
          rwa [Nat.zero_add] at this
        · exact hb2.setCell (Nat.le_refl _) _
      case measure => simp [intOf]; omega
    · have hkk : k = m := by omega
      have hval : Nm.val ps = Nm.val xs * Nm.val ys := by
        have h1 := hv.out
        rw [hkk, List.take_of_length_le (Nat.le_of_eq HXl.out), VX.out, VY.out] at h1
        exact h1
      have Hval := Lib.hid hval
      clear hkk hval
      go_wp2_with fail
      refine (fromDigits_n W.heap.size (some ⟨W.heap.size, 0, none⟩) (m + n) (m + n) ps _ (.inr ⟨_, _, rfl, Nat.le_refl _, hown⟩) hpd hl.out (Nat.le_refl _) (by omega)).mono ?_
      rintro e w5 ⟨rfl, hf5, hb5⟩
      rw [Hval.out] at hf5 ⊢
      have hb5' : Below W.heap.size W w5 := up hb hb5
      obtain ⟨k1, k2⟩ := seen hb5'
      have hc5 : w5.cell? ⟨w.heap.size + 1 + 1, 0, none⟩ = some (.slice none 0 0) := (k1 _ _ (by rw [HWs.out]; omega)).trans hW2
      have hf6 : w5.frozen? ⟨w.heap.size + 1 + 1, 0, none⟩ = false := (k2 _ _ (by rw [HWs.out]; omega)).trans hWf
      clear k1 k2 hW hW0 hW1 hW2 hWf
      go_wp2_with fail
      refine bodyPost_ret (v := nt (some ⟨W.heap.size, 0, none⟩) (Nm.nat (Nm.val xs * Nm.val ys)).length (Nm.nat (Nm.val xs * Nm.val ys)).length) (by simp [results, Tryz.results74, go_sem, hc5]) rfl ⟨_, _, rfl, Nat.le_refl _, ?_, ?_⟩
      · exact (hf5.mono hWb.size).setCell hc5 (by simp)
      · exact (up hWb hb5').setCell (by show w.heap.size ≤ w.heap.size + 1 + 1; omega) _
end Go.Proofs.YtjfehdkfogdpgaaGreatDoor
namespace Go.Proofs.YtjfehdkfogdpgaaGreatDoor
open Go.RowKit
namespace Nm
def blen (x : Nat) : Nat := if x = 0 then 0 else Nat.log2 x + 1
theorem blen_half {x : Nat} (h : 0 < x) : blen x = blen (x / 2) + 1 := by
  unfold blen
  rw [if_neg (by omega)]
  by_cases h1 : x < 2
  · obtain rfl : x = 1 := by omega
    rfl
  · rw [if_neg (by omega), Nat.log2_def, if_pos (by omega)]
theorem blen_256 {x : Nat} (h : 256 ≤ x) : blen x = blen (x / 256) + 8 := by
  rw [blen_half (x := x) (by omega), blen_half (x := x / 2) (by omega), blen_half (x := x / 2 / 2) (by omega), blen_half (x := x / 2 / 2 / 2) (by omega), blen_half (x := x / 2 / 2 / 2 / 2) (by omega), blen_half (x := x / 2 / 2 / 2 / 2 / 2) (by omega),
    blen_half (x := x / 2 / 2 / 2 / 2 / 2 / 2) (by omega), blen_half (x := x / 2 / 2 / 2 / 2 / 2 / 2 / 2) (by omega), show x / 2 / 2 / 2 / 2 / 2 / 2 / 2 / 2 = x / 256 from by omega]
theorem blen_lt {x k : Nat} (h : x < 2 ^ k) : blen x ≤ k := by
  unfold blen
  split
  · omega
  · have := (Nat.log2_lt (n := x) (k := k) (by omega)).2 h
    omega
end Nm
theorem wpList_index_str {P : Program} {w : World} {ops : Array Oper} {rest : List Oper} {o : Oper} {a : Act} {Q : Exit → Act → World → Prop} (hgd : o.guard = none) (S : ByteArray) (t : Operand)
    (ho : o.op = .index 9 (.const (.string S)) t) (h9 : P.underlying 9 = some .string) (i : Nat) (z : Int) (hz : z = (i : Int)) (b : UInt8) (hv : a.eval t = .int .u8 z) (hS : S[i]? = some b)
    (h : wpList P ops Q rest (a.put o.dst (.int .u8 b.toNat)) w) : wpList P ops Q (o :: rest) a w :=
  wpList_plain hgd fun _ hK => by
    subst hz
    have hr : (Instr.index 9 (.string S) (.int .u8 (i : Int))).run P w = .ok (.int .u8 b.toNat) w := by
      simp [Instr.index, asIntOf, run_underlying h9, hS]
    have hc : a.eval (.const (.string S)) = .string S := rfl
    unfold Oper.wp execOp
    simp only [ho, hv, hc, Sem.run_bind, hr, Result.andThen_ok, Sem.run_pure]
    exact hK _ _ h
set_option maxRecDepth 1000000 in
set_option maxHeartbeats 400000 in
theorem len32_any (x : Nat) (w : World) (hx : x < 4294967296) :
    Calls Tryz.prog 101 #[.int .u32 x] w fun e w' => e = .returned (.int .i64 (Nm.blen x)) ∧ w = w' := by
  have h9 : Tryz.prog.underlying 9 = some .string := by kernel_rfl
  go_enter Tryz.func101, Tryz.ntmps101
  have hT : ∃ S : ByteArray, S = (ByteArray.mk (List.append (List.append ([0, 1, 2, 2, 3, 3, 3, 3, 4, 4, 4, 4, 4, 4, 4, 4, 5, 5, 5, 5, 5, 5, 5, 5, 5, 5, 5, 5, 5, 5, 5, 5, 6, 6, 6, 6, 6, 6, 6, 6, 6, 6, 6, 6, 6, 6, 6, 6, 6, 6, 6, 6, 6, 6, 6, 6, 6, 6, 6, 6, 6, 6, 6, 6] : List UInt8) [7, 7, 7, 7, 7, 7, 7, 7, 7, 7, 7, 7, 7, 7, 7, 7, 7, 7, 7, 7, 7, 7, 7, 7, 7, 7, 7, 7, 7, 7, 7, 7, 7, 7, 7, 7, 7, 7, 7, 7, 7, 7, 7, 7, 7, 7, 7, 7, 7, 7, 7, 7, 7, 7, 7, 7, 7, 7, 7, 7, 7, 7, 7, 7]) (List.append [8, 8, 8, 8, 8, 8, 8, 8, 8, 8, 8, 8, 8, 8, 8, 8, 8, 8, 8, 8, 8, 8, 8, 8, 8, 8, 8, 8, 8, 8, 8, 8, 8, 8, 8, 8, 8, 8, 8, 8, 8, 8, 8, 8, 8, 8, 8, 8, 8, 8, 8, 8, 8, 8, 8, 8, 8, 8, 8, 8, 8, 8, 8, 8] [8, 8, 8, 8, 8, 8, 8, 8, 8, 8, 8, 8, 8, 8, 8, 8, 8, 8, 8, 8, 8, 8, 8, 8, 8, 8, 8, 8, 8, 8, 8, 8, 8, 8, 8, 8, 8, 8, 8, 8, 8, 8, 8, 8, 8, 8, 8, 8, 8, 8, 8, 8, 8, 8, 8, 8, 8, 8, 8, 8, 8, 8, 8, 8])).toArray) ∧ ∀ i, i < 256 → S[i]? = some (UInt8.ofNat (Nm.blen i)) := by
    refine ⟨_, rfl, ?_⟩
    have h : (List.range 256).all (fun i => decide ((ByteArray.mk (List.append (List.append ([0, 1, 2, 2, 3, 3, 3, 3, 4, 4, 4, 4, 4, 4, 4, 4, 5, 5, 5, 5, 5, 5, 5, 5, 5, 5, 5, 5, 5, 5, 5, 5, 6, 6, 6, 6, 6, 6, 6, 6, 6, 6, 6, 6, 6, 6, 6, 6, 6, 6, 6, 6, 6, 6, 6, 6, 6, 6, 6, 6, 6, 6, 6, 6] : List UInt8) [7, 7, 7, 7, 7, 7, 7, 7, 7, 7, 7, 7, 7, 7, 7, 7, 7, 7, 7, 7, 7, 7, 7, 7, 7, 7, 7, 7, 7, 7, 7, 7, 7, 7, 7, 7, 7, 7, 7, 7, 7, 7, 7, 7, 7, 7, 7, 7, 7, 7, 7, 7, 7, 7, 7, 7, 7, 7, 7, 7, 7, 7, 7, 7]) (List.append [8, 8, 8, 8, 8, 8, 8, 8, 8, 8, 8, 8, 8, 8, 8, 8, 8, 8, 8, 8, 8, 8, 8, 8, 8, 8, 8, 8, 8, 8, 8, 8, 8, 8, 8, 8, 8, 8, 8, 8, 8, 8, 8, 8, 8, 8, 8, 8, 8, 8, 8, 8, 8, 8, 8, 8, 8, 8, 8, 8, 8, 8, 8, 8] [8, 8, 8, 8, 8, 8, 8, 8, 8, 8, 8, 8, 8, 8, 8, 8, 8, 8, 8, 8, 8, 8, 8, 8, 8, 8, 8, 8, 8, 8, 8, 8, 8, 8, 8, 8, 8, 8, 8, 8, 8, 8, 8, 8, 8, 8, 8, 8, 8, 8, 8, 8, 8, 8, 8, 8, 8, 8, 8, 8, 8, 8, 8, 8])).toArray)[i]? = some (UInt8.ofNat (Nm.blen i)))) = true := by decide +kernel
    intro i hi
    simpa using List.all_eq_true.1 h i (List.mem_range.2 hi)
  obtain ⟨S, hS, hT⟩ := hT
  rw [← hS]
  clear hS
  have hT : ∀ i, i < 256 → ∃ b : UInt8, S[i]? = some b ∧ b.toNat = Nm.blen i := fun i hi => ⟨_, hT i hi, by
    have := Nm.blen_lt (x := i) (k := 8) (by omega)
    rw [UInt8.toNat_ofNat']; omega⟩
  rcases Nat.lt_or_ge x 65536 with h1 | h1
  · have b1 : decide ((65536 : Int) ≤ (x : Int)) = false := decide_eq_false (by omega)
    rcases Nat.lt_or_ge x 256 with h2 | h2
    · have b2 : decide ((256 : Int) ≤ (x : Int)) = false := decide_eq_false (by omega)
      obtain ⟨b, hbS, hbn⟩ := hT (x) (by omega)
      have hfin : ((0 : Nat) : Int) + (b.toNat : Int) = (Nm.blen x : Int) := by omega
      have Hb := Lib.hid hbS
      have hb8 : (b.toNat : Int) < 256 := by have := b.toNat_lt; omega
      have Hf := Lib.hid hfin
      have b3 : (x : Int) < 256 := by omega
      clear hT hbS hfin hbn h1 hx h2
      go_wp2_with (with_reducible refine wpList_index_str rfl S (.tmp 15) rfl h9 (x) _ (by omega) _ rfl Hb.out ?_)
      go_ret
      exact ⟨ret_int (by rw [← Hf.out]; simp), rfl⟩
    · have b2 : decide ((256 : Int) ≤ (x : Int)) = true := decide_eq_true (by omega)
      obtain ⟨b, hbS, hbn⟩ := hT (x / 256) (by omega)
      have hfin : ((8 : Nat) : Int) + (b.toNat : Int) = (Nm.blen x : Int) := by rw [Nm.blen_256 h2]; omega
      have Hb := Lib.hid hbS
      have hb8 : (b.toNat : Int) < 256 := by have := b.toNat_lt; omega
      have Hf := Lib.hid hfin
      have b3 : (x : Int) / 256 < 256 := by omega
      clear hT hbS hfin hbn h1 hx h2
      go_wp2_with (with_reducible refine wpList_index_str rfl S (.tmp 15) rfl h9 (x / 256) _ (by omega) _ rfl Hb.out ?_)
      go_ret
      exact ⟨ret_int (by rw [← Hf.out]; simp), rfl⟩
  · have b1 : decide ((65536 : Int) ≤ (x : Int)) = true := decide_eq_true (by omega)
    rcases Nat.lt_or_ge (x / 65536) 256 with h2 | h2
    · have b2 : decide ((256 : Int) ≤ (x : Int) / 65536) = false := decide_eq_false (by omega)
      obtain ⟨b, hbS, hbn⟩ := hT (x / 65536) (by omega)
      have hfin : ((16 : Nat) : Int) + (b.toNat : Int) = (Nm.blen x : Int) := by rw [Nm.blen_256 (x := x) (by omega), Nm.blen_256 (x := x / 256) (by omega), show x / 256 / 256 = x / 65536 from by omega]; omega
      have Hb := Lib.hid hbS
      have hb8 : (b.toNat : Int) < 256 := by have := b.toNat_lt; omega
      have Hf := Lib.hid hfin
      have b3 : (x : Int) / 65536 < 256 := by omega
      clear hT hbS hfin hbn h1 hx h2
      go_wp2_with (with_reducible refine wpList_index_str rfl S (.tmp 15) rfl h9 (x / 65536) _ (by omega) _ rfl Hb.out ?_)
      go_ret
      exact ⟨ret_int (by rw [← Hf.out]; simp), rfl⟩
    · have b2 : decide ((256 : Int) ≤ (x : Int) / 65536) = true := decide_eq_true (by omega)
      obtain ⟨b, hbS, hbn⟩ := hT (x / 65536 / 256) (by omega)
      have hfin : ((24 : Nat) : Int) + (b.toNat : Int) = (Nm.blen x : Int) := by rw [Nm.blen_256 (x := x) (by omega), Nm.blen_256 (x := x / 256) (by omega), show x / 256 / 256 = x / 65536 from by omega, Nm.blen_256 (x := x / 65536) h2]; omega
      have Hb := Lib.hid hbS
      have hb8 : (b.toNat : Int) < 256 := by have := b.toNat_lt; omega
      have Hf := Lib.hid hfin
      have b3 : (x : Int) / 65536 / 256 < 256 := by omega
      clear hT hbS hfin hbn h1 hx h2
      go_wp2_with (with_reducible refine wpList_index_str rfl S (.tmp 15) rfl h9 (x / 65536 / 256) _ (by omega) _ rfl Hb.out ?_)
      go_ret
      exact ⟨ret_int (by rw [← Hf.out]; simp), rfl⟩
end Go.Proofs.YtjfehdkfogdpgaaGreatDoor
namespace Go.Proofs.YtjfehdkfogdpgaaGreatDoor
open Go.RowKit
namespace Nm
theorem pow_two (k : Nat) : 4294967296 ^ k = 2 ^ (32 * k) := by
  rw [Nat.pow_mul]
theorem blen_top {a d k : Nat} (ha : a < 4294967296 ^ k) (hd : 0 < d) : blen (a + 4294967296 ^ k * d) = 32 * k + blen d := by
  rw [pow_two] at *
  have hp : 0 < 2 ^ (32 * k) := Nat.pow_pos (by omega)
  have hge : 2 ^ (32 * k) * 1 ≤ 2 ^ (32 * k) * d := Nat.mul_le_mul_left _ hd
  have h1 := Nat.log2_self_le (n := d) (by omega)
  have h2 := Nat.lt_log2_self (n := d)
  have h3 : (a + 2 ^ (32 * k) * d).log2 = 32 * k + d.log2 := by
    rw [Nat.log2_eq_iff (by omega), Nat.pow_add, Nat.add_assoc, Nat.pow_add 2 (32 * k)]
    constructor
    · have := Nat.mul_le_mul_left (2 ^ (32 * k)) h1
      omega
    · have : 2 ^ (32 * k) * (d + 1) ≤ 2 ^ (32 * k) * 2 ^ (d.log2 + 1) := Nat.mul_le_mul_left _ h2
      rw [Nat.mul_add] at this
      omega
  unfold blen
  rw [if_neg (by omega), if_neg (by omega), h3]
  omega
end Nm
set_option maxHeartbeats 400000 in
theorem bits_any (A : Option Addr) (c : Nat) (xs : List Nat) (w : World) (hx : Rd w A xs) (hxd : Nm.Dig xs) (hc : xs.length ≤ c) (hm : xs.length ≤ 900) :
    Calls Tryz.prog 81 #[nt A xs.length c] w fun e w' => e = .returned (.int .i64 (Nm.blen (Nm.val xs))) ∧ Below w.heap.size w w' := by
  have hx' := hx.alloc (Obj.cells #[Value.slice A xs.length c] 24)
  have htx := Nm.tlen_le xs
  obtain ⟨m, hmx⟩ : ∃ m, Nm.tlen xs = m := ⟨_, rfl⟩
  have Hmx := Lib.hid hmx
  rcases Nat.eq_zero_or_pos m with h0 | h0
  · subst h0
    have hv : (Nm.blen (Nm.val xs)) = 0 := by
      have := Nm.val_tlen xs
      rw [hmx] at this
      rw [← this]; rfl
    rw [hv]
    clear hv hmx
    go_enter Tryz.func81, Tryz.ntmps81
    go_wp2_with fail
    refine (trim_n hx' hc (by omega) Hmx).mono ?_
    rintro e w1 ⟨rfl, rfl⟩
    go_wp2_with fail
    go_ret
    exact ⟨rfl, one _ _⟩
  · obtain ⟨k, rfl⟩ : ∃ k, m = k + 1 := ⟨m - 1, by omega⟩
    have hk : k < xs.length := by omega
    obtain ⟨g, off, hA, hr⟩ := hx'.at_ hk
    have c1 := hr k hk
    obtain ⟨x, hxk⟩ : ∃ x, xs[k] = x := ⟨_, rfl⟩
    rw [hxk] at c1
    have hxlt : x < 4294967296 := by rw [← hxk]; exact hxd.at_ hk
    have hv : 32 * k + Nm.blen x = Nm.blen (Nm.val xs) := by
      rw [← Nm.val_tlen xs, hmx, Nm.val_take_succ xs k hk, hxk]
      have h1 := Nm.val_lt (hxd.take k)
      rw [List.length_take, Nat.min_eq_left (by omega)] at h1
      rw [Nm.blen_top h1]
      have := Nm.tlen_last xs k hmx hk
      omega
    rw [← hv]
    have hbl := Nm.blen_lt (x := x) (k := 32) (by omega)
    have hb0 : ((↑(k + 1) : Int) == 0) = false := digit_ne (by omega)
    have ix := fun W => index32 W g off (k + 1) (k + 1) k (((k + 1 : Nat) : Int) - 1) (by omega) (by omega)
    clear hv hmx hxk hr
    subst hA
    go_enter Tryz.func81, Tryz.ntmps81
    go_wp2_with fail
    refine (trim_n hx' hc (by omega) Hmx).mono ?_
    rintro e w1 ⟨rfl, rfl⟩
    go_wp2_with fail
    refine (len32_any x _ hxlt).mono ?_
    rintro e w1 ⟨rfl, rfl⟩
    go_wp2_with fail
    go_ret
    exact ⟨ret_int (by simp), one _ _⟩
set_option maxHeartbeats 400000 in
theorem div32_any (h l y : Nat) (w : World) (hh : h < y) (hl : l < 4294967296) (hy : y < 4294967296) :
    Calls Tryz.prog 106 #[.int .u32 h, .int .u32 l, .int .u32 y] w fun e w' => ∃ q r n : Nat, e = .returned (.tuple #[.int .u32 q, .int .u32 r]) ∧ Hid (h * 4294967296 + l = q * y + r ∧ r < y ∧ q < 4294967296) ∧ w' = w.drewN n := by
  obtain ⟨N, hN⟩ : ∃ N, h * 4294967296 + l = N := ⟨_, rfl⟩
  have hor : bits .or .u64 ((h : Int) * 4294967296) (l : Int) = (N : Int) := by
    have := u64_or_nat (h * 4294967296) l (by omega) (by omega)
    rw [show ((h : Int) * 4294967296) = ((h * 4294967296 : Nat) : Int) from by omega, this, ← hN]
    have h2 := Nat.shiftLeft_add_eq_or_of_lt (b := l) (i := 32) (by omega) h
    rw [Nat.shiftLeft_eq] at h2
    rw [← h2]
  have hq : N / y < 4294967296 := by
    rw [Nat.div_lt_iff_lt_mul (by omega)]
    omega
  have hr : N % y < y := Nat.mod_lt _ (by omega)
  have hdm := Nat.div_add_mod N y
  have hqi : ((N : Int) / (y : Int)) = ((N / y : Nat) : Int) := by simp
  have hri : ((N : Int) % (y : Int)) = ((N % y : Nat) : Int) := by simp
  have hy0 : 0 < (y : Int) := by omega
  have hb1 : ((y : Int) != 0) = true := by rw [bne_iff_ne]; omega
  have HN := Lib.hid hN
  have Hq := Lib.hid hqi
  have Hr := Lib.hid hri
  have HD := Lib.hid hdm
  have hN64 : N < 18446744073709551616 := by omega
  clear hN hqi hri hdm
  go_enter Tryz.func106, Tryz.ntmps106
  go_wp2_with fail
  go_quiet (fail)
  go_wp2_with fail
  go_ret2
  refine ⟨N / y, N % y, nq, ?_, ?_, rfl⟩
  · have hw : IntKind.u64.wrap ((N : Int) / (y : Int)) % 4294967296 = ((N / y : Nat) : Int) := by
      rw [Hq.out, IntKind.wrap_u64]
      generalize N / y = Z at hq
      omega
    rw [← Hr.out, ← hw]
    rfl
  · show _ ∧ _ ∧ _
    refine ⟨?_, hr, hq⟩
    rw [HN.out, Nat.mul_comm]
    exact HD.out.symm
namespace Nm
theorem val_drop (zs : List Nat) (i : Nat) (h : i < zs.length) : val (zs.drop i) = zs[i] + 4294967296 * val (zs.drop (i + 1)) := by
  rw [List.drop_eq_getElem_cons h]
  rfl
theorem div_step {rs zs : List Nat} {i x q r r' y : Nat} (h1 : i < rs.length) (h2 : i < zs.length) (hx : zs[i] = x) (h : val (rs.drop (i + 1)) * y + r = val (zs.drop (i + 1))) (hq : r * 4294967296 + x = q * y + r') :
    val ((rs.set i q).drop i) * y + r' = val (zs.drop i) := by
  rw [val_drop _ i (by simpa using h1), val_drop zs i h2, hx, ← h, List.drop_set_of_lt (by omega)]
  simp only [List.getElem_set_self, Nat.add_mul, Nat.mul_add, Nat.mul_assoc]
  omega
end Nm
set_option maxHeartbeats 400000 in
theorem divideByDigit_any (g off c y : Nat) (zs : List Nat) (w : World) (ho : Own w g off zs) (hzd : Nm.Dig zs) (hm : zs.length ≤ 1000) (hy0 : 0 < y) (hy : y < 4294967296) :
    Calls Tryz.prog 95 #[.slice (some ⟨g, off, none⟩) zs.length c, .int .u32 y] w fun e w' => ∃ (rs : List Nat) (r : Nat), e = .returned (.int .u32 r) ∧ Hid (rs.length = zs.length) ∧ Nm.Dig rs ∧ r < y ∧ Hid (Nm.val rs * y + r = Nm.val zs) ∧ Wr w w' g off rs := by
  obtain ⟨n, hn⟩ : ∃ n, zs.length = n := ⟨_, rfl⟩
  rw [hn]
  have Hn := Lib.hid hn
  rw [hn] at hm
  clear hn
  go_enter Tryz.func95, Tryz.ntmps95
  go_wp2_with fail
  go_loopw [5, 10] (fun r i wr => ∃ (k p : Nat) (rs : List Nat), k ≤ n ∧ i = .int .i64 k ∧ r = .int .u32 p ∧ p < y ∧ Hid (rs.length = n) ∧ Nm.Dig rs ∧ Hid (∀ j, j < n - k → rs[j]? = zs[j]?) ∧ Hid (Nm.val (rs.drop (n - k)) * y + p = Nm.val (zs.drop (n - k))) ∧ Wr w wr g off rs) (fun _ i _ => n - (intOf i).toNat)
  case atStart => exact ⟨0, 0, zs, Nat.zero_le _, rfl, rfl, hy0, Hn.out, hzd, fun _ _ => rfl, by show _ = _; rw [Nat.sub_zero, ← Hn.out, List.drop_length]; simp [Nm.val], Wr.refl ho⟩
  case round =>
    obtain ⟨k, p, rs, hk, rfl, rfl, hp, hl, hrd, hrest, hv, hw⟩ := hrel
    by_cases hlt : k < n
    · obtain ⟨i, hi⟩ : ∃ i, n = i + 1 + k := ⟨n - 1 - k, by omega⟩
      have hir : i < rs.length := by rw [hl.out]; omega
      have hiz : i < zs.length := by rw [Hn.out]; omega
      have c1 := hw.own.1 i hir
      have f1 := hw.own.2 i hir
      obtain ⟨x, hx⟩ : ∃ x, rs[i] = x := ⟨_, rfl⟩
      rw [hx] at c1
      have hxlt : x < 4294967296 := by rw [← hx]; exact hrd.at_ hir
      have hzk : zs[i] = x := by
        have := hrest.out i (by omega)
        rw [List.getElem?_eq_getElem hir, List.getElem?_eq_getElem hiz] at this
        injection this with this
        rw [← this, hx]
      have Hzk := Lib.hid hzk
      have hv' := hv.out
      rw [show n - k = i + 1 from by omega] at hv'
      have Hv := Lib.hid hv'
      have Hi := Lib.hid hi
      have ix := fun V => index32 V g off n c i ((n : Int) - 1 - (k : Int)) (by omega) (by omega)
      have hin : i < n := by omega
      have hplt : p < 4294967296 := by omega
      clear hx hzk hv' hi
      go_wp2_with fail
      refine (div32_any p x y _ hp hxlt hy).mono ?_
      rintro e w2 ⟨q, r, nd, rfl, hq, rfl⟩
      have hw2 := (hw.drewN nd).set i hir q
      have hr := hq.out.2.1
      have hqlt := hq.out.2.2
      go_wp2_with fail
      go_roundw
      case rel =>
        refine ⟨k + 1, r, rs.set i q, by omega, by go_num, rfl, hr, ?_, hrd.set i hqlt, ?_, ?_, hw2⟩
        · show _ = _
          rw [List.length_set]; exact hl.out
        · intro j hj
          rw [List.getElem?_set_ne (by have := Hi.out; omega)]
          exact hrest.out j (by omega)
        · show _ = _
          rw [show n - (k + 1) = i from by have := Hi.out; omega]
          exact Nm.div_step hir hiz Hzk.out Hv.out hq.out.1
      case measure => simp [intOf]; omega
    · go_wp2_with fail
      go_ret
      refine ⟨rs, p, rfl, hl, hrd, hp, ?_, hw⟩
      have h1 := hv.out
      rw [show n - k = 0 from by omega, List.drop_zero, List.drop_zero] at h1
      exact h1
end Go.Proofs.YtjfehdkfogdpgaaGreatDoor
namespace Go.Proofs.YtjfehdkfogdpgaaGreatDoor
open Go.RowKit
theorem divideByDigit_n (g off n c y : Nat) (zs : List Nat) (w : World) (ho : Own w g off zs) (hzd : Nm.Dig zs) (hzn : zs.length = n) (hm : n ≤ 1000) (hy0 : 0 < y) (hy : y < 4294967296) :
    Calls Tryz.prog 95 #[.slice (some ⟨g, off, none⟩) n c, .int .u32 y] w fun e w' => ∃ (rs : List Nat) (r : Nat), e = .returned (.int .u32 r) ∧ Hid (rs.length = n) ∧ Nm.Dig rs ∧ r < y ∧ Hid (Nm.val rs * y + r = Nm.val zs) ∧ Wr w w' g off rs := by
  subst hzn
  exact divideByDigit_any g off c y zs w ho hzd hm hy0 hy
def DivPost (w : World) (X Y : List Nat) (e : Ending) (w' : World) : Prop :=
  ∃ (A1 A2 : Option Addr) (c1 c2 : Nat) (qs rs : List Nat), e = .returned (.tuple #[.slice A1 qs.length c1, .slice A2 rs.length c2]) ∧ qs.length ≤ c1 ∧ rs.length ≤ c2 ∧ qs.length ≤ X.length ∧ rs.length ≤ max X.length Y.length ∧
    Nm.Dig qs ∧ Nm.Dig rs ∧ Fr w.heap.size w' A1 qs ∧ Fr w.heap.size w' A2 rs ∧ Hid (Nm.val X = Nm.val qs * Nm.val Y + Nm.val rs ∧ Nm.val rs < Nm.val Y) ∧ Below w.heap.size w w'
def DivOk (L : Nat) : Prop := ∀ (A B : Option Addr) (X Y : List Nat) (n m : Nat) (w : World), Rd w A X → Rd w B Y → Nm.Dig X → Nm.Dig Y → X.length = n → Y.length = m → n ≤ 900 → 0 < m → m ≤ L → Nm.tlen Y = m →
  Calls Tryz.prog 85 #[.slice A n n, .slice B m m] w (DivPost w X Y)
theorem val_pos_of_top {Y : List Nat} {m : Nat} (hl : Nm.tlen Y = m) (hm : 0 < m) : 4294967296 ^ (m - 1) ≤ Nm.val Y := by
  have := Nm.tlen_pos_val (zs := Y) (by omega)
  rwa [hl] at this
set_option maxHeartbeats 400000 in
theorem divide_less (A B : Option Addr) (X Y : List Nat) (n m : Nat) (w : World) (hx : Rd w A X) (hxd : Nm.Dig X) (hXl : X.length = n) (hYl : Y.length = m) (hn : n ≤ 900) (ht : Nm.tlen Y = m) (hlt : n < m) :
    Calls Tryz.prog 85 #[.slice A n n, .slice B m m] w (DivPost w X Y) := by
  have hfin : Nm.val X = Nm.val [] * Nm.val Y + Nm.val X ∧ Nm.val X < Nm.val Y := by
    refine ⟨by simp [Nm.val], ?_⟩
    have h1 := Nm.val_lt hxd
    have h2 := val_pos_of_top ht (by omega)
    have h3 : 4294967296 ^ n ≤ 4294967296 ^ (m - 1) := Nat.pow_le_pow_right (by omega) (by omega)
    rw [hXl] at h1
    omega
  have Hf := Lib.hid hfin
  have HXl := Lib.hid hXl
  have HYl := Lib.hid hYl
  clear hfin hXl hYl ht
  go_enter Tryz.func85, Tryz.ntmps85
  go_wp2_with fail
  refine (clone_any A n X _ hx HXl.out (by rw [HXl.out]; omega)).mono ?_
  rintro e w1 ⟨A2, c2, rfl, hc2, hf2, hb2⟩
  go_wp2_with fail
  go_ret2
  refine ⟨none, A2, 0, c2, [], X, ?_, by simp, by rw [HXl.out]; exact hc2, Nat.zero_le _, by omega, Nm.Dig.nil, hxd, Fr.nil _ _ _, hf2, Hf, hb2⟩
  rw [HXl.out]
  rfl
set_option maxHeartbeats 400000 in
theorem divide_one (A B : Option Addr) (X Y : List Nat) (n m : Nat) (w : World) (hx : Rd w A X) (hy : Rd w B Y) (hxd : Nm.Dig X) (hyd : Nm.Dig Y) (hXl : X.length = n) (hYl : Y.length = m) (hn : n ≤ 900) (hm : m = 1) (ht : Nm.tlen Y = m) (hge : 1 ≤ n) :
    Calls Tryz.prog 85 #[.slice A n n, .slice B m m] w (DivPost w X Y) := by
  subst hm
  obtain ⟨y, rfl⟩ : ∃ y, Y = [y] := List.length_eq_one_iff.1 hYl
  have hylt := hyd.cons.1
  have hy0 : 0 < y := by
    have := Nm.tlen_last [y] 0 ht (by simp)
    simp at this; omega
  have HXl := Lib.hid hXl
  obtain ⟨g', off', hB, hr⟩ := hy.at_ (i := 0) (by simp)
  have c1 : w.cell? ⟨g', off', none⟩ = some (.int .u32 (y : Int)) := hr 0 (by simp)
  subst hB
  clear hr hXl hYl ht
  go_enter Tryz.func85, Tryz.ntmps85
  go_wp2_with fail
  refine (clone_any A n X _ hx HXl.out (by rw [HXl.out]; omega)).mono ?_
  rintro e w1 ⟨A2, c2, rfl, hc2, hf2, hb2⟩
  obtain ⟨g, off, rfl, hg, ho⟩ := hf2.own (by intro e; have := HXl.out; rw [e] at this; simp at this; omega)
  have c3 : w1.cell? ⟨g', off', none⟩ = some (.int .u32 (y : Int)) := by
    rw [hb2.cell (p := ⟨g', off', none⟩) (World.block_lt_of_cell? _ _ c1)]; exact c1
  go_wp2_with fail
  refine (divideByDigit_n g off n c2 y X w1 ho hxd HXl.out (by omega) hy0 hylt).mono ?_
  rintro e w2 ⟨qs, r, rfl, hql, hqd, hr, hv, hwr⟩
  have hb3 : Below w.heap.size w w2 := hwr.below hb2 hg hb2.size
  go_wp2_with fail
  go_ret2
  refine ⟨some ⟨g, off, none⟩, some ⟨w2.heap.size, 0, none⟩, c2, 1, qs, [r], ?_, by rw [hql.out]; exact hc2, by simp, by rw [hql.out, HXl.out]; omega, by simp; omega, hqd, Nm.Dig.mk (by omega) Nm.Dig.nil, ?_, ?_, ?_, ?_⟩
  · rw [hql.out]
    rfl
  · exact Fr.alloc (.inr ⟨g, off, rfl, hg, hwr.own⟩) _
  · refine .inr ⟨_, _, rfl, hb3.size, Row.new w2 59 #[.int .u32 (r : Int)] [r] fun i hi => ?_⟩
    obtain rfl : i = 0 := by simpa using hi
    simp
  · show _ ∧ _
    simp only [Nm.val, Nat.mul_zero, Nat.add_zero]
    have := hv.out
    omega
  · exact hb3.alloc hb3.size _
end Go.Proofs.YtjfehdkfogdpgaaGreatDoor
namespace Go.Proofs.YtjfehdkfogdpgaaGreatDoor
open Go.RowKit
theorem four_cells (w : World) (a b c d : Value) (t : TypeId) : ∃ W, (((w.alloc (Obj.cells #[a] t)).alloc (Obj.cells #[b] t)).alloc (Obj.cells #[c] t)).alloc (Obj.cells #[d] t) = W ∧ W.heap.size = w.heap.size + 1 + 1 + 1 + 1 ∧
    W.cell? ⟨w.heap.size, 0, none⟩ = some a ∧ W.cell? ⟨w.heap.size + 1, 0, none⟩ = some b ∧ W.cell? ⟨w.heap.size + 1 + 1, 0, none⟩ = some c ∧ W.frozen? ⟨w.heap.size + 1 + 1, 0, none⟩ = false ∧
    W.cell? ⟨w.heap.size + 1 + 1 + 1, 0, none⟩ = some d ∧ W.frozen? ⟨w.heap.size + 1 + 1 + 1, 0, none⟩ = false ∧ Below w.heap.size w W := by
  obtain ⟨V, hV, hs, h0, h1, h2, hf, hb⟩ := three_cells w a b c t
  rw [hV]
  have hk : Below V.heap.size V (V.alloc (Obj.cells #[d] t)) := one _ _
  obtain ⟨k1, k2⟩ := seen hk
  refine ⟨_, rfl, by simp [hs], (k1 _ _ (by omega)).trans h0, (k1 _ _ (by omega)).trans h1, (k1 _ _ (by omega)).trans h2, (k2 _ _ (by omega)).trans hf, ?_, ?_, up hb hk⟩
  · rw [← hs]; simp
  · rw [← hs]; simp
set_option maxHeartbeats 400000 in
theorem divMod_any (L : Nat) (hL : DivOk L) (A B : Option Addr) (c d : Nat) (xs ys : List Nat) (w : World) (hx : Rd w A xs) (hy : Rd w B ys) (hxd : Nm.Dig xs) (hyd : Nm.Dig ys) (hc : xs.length ≤ c) (hd : ys.length ≤ d) (hm : xs.length ≤ 900) (hn : ys.length ≤ 900)
    (h0 : 0 < Nm.tlen ys) (h1 : Nm.tlen ys ≤ L) :
    Calls Tryz.prog 60 #[nt A xs.length c, nt B ys.length d] w fun e w' => ∃ A1 c1 A2 c2, e = .returned (.tuple #[nt A1 (Nm.nat (Nm.val xs / Nm.val ys)).length c1, nt A2 (Nm.nat (Nm.val xs % Nm.val ys)).length c2, .int .i64 0]) ∧
      (Nm.nat (Nm.val xs / Nm.val ys)).length ≤ c1 ∧ (Nm.nat (Nm.val xs % Nm.val ys)).length ≤ c2 ∧ Fr w.heap.size w' A1 (Nm.nat (Nm.val xs / Nm.val ys)) ∧ Fr w.heap.size w' A2 (Nm.nat (Nm.val xs % Nm.val ys)) ∧ Below w.heap.size w w' := by
  obtain ⟨W, hW, hWs, hW0, hW1, hW2, hWf2, hW3, hWf3, hWb⟩ := four_cells w (Value.slice A xs.length c) (Value.slice B ys.length d) (Value.slice none 0 0) (Value.slice none 0 0) 24
  have hx' := hx.below hWb
  have hy' := hy.below hWb
  have htx := Nm.tlen_le xs
  have hty := Nm.tlen_le ys
  obtain ⟨m, hmx⟩ : ∃ m, Nm.tlen xs = m := ⟨_, rfl⟩
  obtain ⟨n, hny⟩ : ∃ n, Nm.tlen ys = n := ⟨_, rfl⟩
  have QX := trim_q hx' hc (by omega) hmx
  have QY := trim_q hy' hd (by omega) hny
  obtain ⟨X, hX⟩ : ∃ X, xs.take m = X := ⟨_, rfl⟩
  obtain ⟨Y, hY⟩ : ∃ Y, ys.take n = Y := ⟨_, rfl⟩
  have hXl : X.length = m := by rw [← hX, List.length_take]; omega
  have hYl : Y.length = n := by rw [← hY, List.length_take]; omega
  have rX : Rd W A X := by rw [← hX]; exact hx'.take m
  have rY : Rd W B Y := by rw [← hY]; exact hy'.take n
  have dX : Nm.Dig X := by rw [← hX]; exact hxd.take m
  have dY : Nm.Dig Y := by rw [← hY]; exact hyd.take n
  have vX : Nm.val X = Nm.val xs := by rw [← hX, ← hmx]; exact Nm.val_tlen xs
  have vY : Nm.val Y = Nm.val ys := by rw [← hY, ← hny]; exact Nm.val_tlen ys
  have tY : Nm.tlen Y = n := by rw [Nm.tlen_eq dY, vY, ← Nm.tlen_eq hyd, hny]
  rw [hmx] at htx
  rw [hny] at hty h0 h1
  have hdiv : Hid (∀ V, Below W.heap.size W V → Calls Tryz.prog 85 #[.slice A m m, .slice B n n] V (DivPost V X Y)) := fun V hV => hL A B X Y m n V (rX.below hV) (rY.below hV) dX dY hXl hYl (by omega) h0 h1 tY
  have hb0 : ((n : Int) == 0) = false := digit_ne (by omega)
  have HWs := Lib.hid hWs
  have HXl := Lib.hid hXl
  have HYl := Lib.hid hYl
  have VX := Lib.hid vX
  have VY := Lib.hid vY
  clear hXl hYl vX vY hX hY hmx hny hx hy hx' hy' hxd hyd hWs tY
  go_enter Tryz.func60, Tryz.ntmps60
  go_wp2_with fail
  go_quiet ((first | (go_at_call 76; with_reducible exact QX.out _) | (go_at_call 76; with_reducible exact QY.out _)))
  go_wp2_with fail
  refine (hdiv.out _ (below_drewN (Below.refl _ _) _)).mono ?_
  rintro e w1 ⟨A1, A2, c1, c2, qs, rs, rfl, hc1, hc2, hq9, hr9, hqd, hrd, hf1, hf2, hv, hb⟩
  go_wp2_with fail
  have hval : Nm.val qs = Nm.val xs / Nm.val ys ∧ Nm.val rs = Nm.val xs % Nm.val ys := by
    have h2 := hv.out
    rw [VX.out, VY.out] at h2
    obtain ⟨h2, h3⟩ := h2
    constructor
    · rw [h2, Nat.mul_comm, Nat.mul_add_div (by omega), Nat.div_eq_of_lt h3, Nat.add_zero]
    · rw [h2, Nat.mul_comm, Nat.mul_add_mod, Nat.mod_eq_of_lt h3]
  have Hv := Lib.hid hval
  have hql : qs.length ≤ 1000 := by have := HXl.out; omega
  have hrl : rs.length ≤ 1000 := by have := HXl.out; have := HYl.out; omega
  clear hval hq9 hr9
  have hb1 : Below W.heap.size W w1 := up (below_drewN (Below.refl _ _) _) hb
  refine (fromDigits_n W.heap.size A1 qs.length c1 qs _ hf1 hqd rfl hc1 hql).mono ?_
  rintro e w2 ⟨rfl, hf3, hb3⟩
  have hf2' := hf2.below hb3
  have hb2 := up hb1 hb3
  go_wp2_with fail
  refine (fromDigits_n W.heap.size A2 rs.length c2 rs _ hf2' hrd rfl hc2 hrl).mono ?_
  rintro e w3 ⟨rfl, hf4, hb4⟩
  have hf3' := hf3.below hb4
  have hb5 := up hb2 hb4
  rw [Hv.out.1] at hf3' ⊢
  rw [Hv.out.2] at hf4 ⊢
  obtain ⟨k1, k2⟩ := seen hb5
  have e2 : w3.cell? ⟨w.heap.size + 1 + 1, 0, none⟩ = some (.slice none 0 0) := (k1 _ _ (by rw [HWs.out]; omega)).trans hW2
  have e3 : w3.cell? ⟨w.heap.size + 1 + 1 + 1, 0, none⟩ = some (.slice none 0 0) := (k1 _ _ (by rw [HWs.out]; omega)).trans hW3
  have f2 : w3.frozen? ⟨w.heap.size + 1 + 1, 0, none⟩ = false := (k2 _ _ (by rw [HWs.out]; omega)).trans hWf2
  have f3 : w3.frozen? ⟨w.heap.size + 1 + 1 + 1, 0, none⟩ = false := (k2 _ _ (by rw [HWs.out]; omega)).trans hWf3
  clear k1 k2 hW hW0 hW1 hW2 hWf2 hW3 hWf3
  go_wp2_with fail
  refine bodyPost_ret (v := .tuple #[nt A1 (Nm.nat (Nm.val xs / Nm.val ys)).length (Nm.nat (Nm.val xs / Nm.val ys)).length, nt A2 (Nm.nat (Nm.val xs % Nm.val ys)).length (Nm.nat (Nm.val xs % Nm.val ys)).length, .int .i64 0]) (by simp [results, Tryz.results60, go_sem, e2, e3]) rfl
    ⟨_, _, _, _, rfl, Nat.le_refl _, Nat.le_refl _, ?_, ?_, ?_⟩
  · have e3' : (w3.setCell ⟨w.heap.size + 1 + 1, 0, none⟩ (.slice A1 (Nm.nat (Nm.val xs / Nm.val ys)).length (Nm.nat (Nm.val xs / Nm.val ys)).length)).cell? ⟨w.heap.size + 1 + 1 + 1, 0, none⟩ = some (.slice none 0 0) := by
      rw [World.cell?_setCell_other _ _ _ _ (by intro e; injection e; omega)]; exact e3
    exact ((hf3'.mono hWb.size).setCell e2 (by simp)).setCell e3' (by simp)
  · have e3' : (w3.setCell ⟨w.heap.size + 1 + 1, 0, none⟩ (.slice A1 (Nm.nat (Nm.val xs / Nm.val ys)).length (Nm.nat (Nm.val xs / Nm.val ys)).length)).cell? ⟨w.heap.size + 1 + 1 + 1, 0, none⟩ = some (.slice none 0 0) := by
      rw [World.cell?_setCell_other _ _ _ _ (by intro e; injection e; omega)]; exact e3
    exact ((hf4.mono hWb.size).setCell e2 (by simp)).setCell e3' (by simp)
  · exact ((up hWb hb5).setCell (by show w.heap.size ≤ w.heap.size + 1 + 1; omega) _).setCell (by show w.heap.size ≤ w.heap.size + 1 + 1 + 1; omega) _
end Go.Proofs.YtjfehdkfogdpgaaGreatDoor
namespace Go.Proofs.YtjfehdkfogdpgaaGreatDoor
open Go.RowKit
def GcdRel (W : World) (L G : Nat) (gk : Nat) (u v : Value) (wr : World) : Prop :=
  ∃ (A B : Option Addr) (U V : List Nat) (n m : Nat), u = .slice A n n ∧ v = .slice B m m ∧ Hid (U.length = n) ∧ Hid (V.length = m) ∧ n ≤ 900 ∧ m ≤ 900 ∧ m ≤ L ∧ Rd wr A U ∧ Rd wr B V ∧ Nm.Dig U ∧ Nm.Dig V ∧ Hid (Nm.tlen U = n) ∧ Hid (Nm.tlen V = m) ∧ Hid (Nat.gcd (Nm.val U) (Nm.val V) = G) ∧
    Hid (gk = Nm.val V) ∧ Below W.heap.size W wr
set_option maxHeartbeats 400000 in
theorem gcd_any (L : Nat) (hL : DivOk L) (A B : Option Addr) (c d : Nat) (xs ys : List Nat) (w : World) (hx : Rd w A xs) (hy : Rd w B ys) (hxd : Nm.Dig xs) (hyd : Nm.Dig ys) (hc : xs.length ≤ c) (hd : ys.length ≤ d) (hm : xs.length ≤ 900) (hn : ys.length ≤ 900)
    (h1 : Nm.tlen ys ≤ L) :
    Calls Tryz.prog 75 #[nt A xs.length c, nt B ys.length d] w fun e w' => ∃ A' c', e = .returned (nt A' (Nm.nat (Nat.gcd (Nm.val xs) (Nm.val ys))).length c') ∧ (Nm.nat (Nat.gcd (Nm.val xs) (Nm.val ys))).length ≤ c' ∧ Fr w.heap.size w' A' (Nm.nat (Nat.gcd (Nm.val xs) (Nm.val ys))) ∧ Below w.heap.size w w' := by
  obtain ⟨W, hW, hWs, hW0, hW1, hW2, hWf, hWb⟩ := three_cells w (Value.slice A xs.length c) (Value.slice B ys.length d) (Value.slice none 0 0) 24
  have hx' := hx.below hWb
  have hy' := hy.below hWb
  have htx := Nm.tlen_le xs
  have hty := Nm.tlen_le ys
  obtain ⟨m, hmx⟩ : ∃ m, Nm.tlen xs = m := ⟨_, rfl⟩
  obtain ⟨n, hny⟩ : ∃ n, Nm.tlen ys = n := ⟨_, rfl⟩
  have QX := trim_q hx' hc (by omega) hmx
  have QY := trim_q hy' hd (by omega) hny
  obtain ⟨X, hX⟩ : ∃ X, xs.take m = X := ⟨_, rfl⟩
  obtain ⟨Y, hY⟩ : ∃ Y, ys.take n = Y := ⟨_, rfl⟩
  have hXl : X.length = m := by rw [← hX, List.length_take]; omega
  have hYl : Y.length = n := by rw [← hY, List.length_take]; omega
  have rX : Rd W A X := by rw [← hX]; exact hx'.take m
  have rY : Rd W B Y := by rw [← hY]; exact hy'.take n
  have dX : Nm.Dig X := by rw [← hX]; exact hxd.take m
  have dY : Nm.Dig Y := by rw [← hY]; exact hyd.take n
  have vX : Nm.val X = Nm.val xs := by rw [← hX, ← hmx]; exact Nm.val_tlen xs
  have vY : Nm.val Y = Nm.val ys := by rw [← hY, ← hny]; exact Nm.val_tlen ys
  have tX : Nm.tlen X = m := by rw [Nm.tlen_eq dX, vX, ← Nm.tlen_eq hxd, hmx]
  have tY : Nm.tlen Y = n := by rw [Nm.tlen_eq dY, vY, ← Nm.tlen_eq hyd, hny]
  have hstart : ∀ q, GcdRel W L (Nat.gcd (Nm.val xs) (Nm.val ys)) (Nm.val Y) (.slice A m m) (.slice B n n) (W.drewN q) := fun q =>
    ⟨A, B, X, Y, m, n, rfl, rfl, hXl, hYl, by omega, by omega, by omega, rX, rY, dX, dY, tX, tY, by show _ = _; rw [vX, vY], rfl, below_drewN (Below.refl _ _) q⟩
  obtain ⟨G, hG⟩ : ∃ G, Nat.gcd (Nm.val xs) (Nm.val ys) = G := ⟨_, rfl⟩
  rw [hG] at hstart ⊢
  have HS := Lib.hid hstart
  have HWs := Lib.hid hWs
  clear hXl hYl vX vY hX hY hmx hny hx hy hx' hy' hxd hyd hWs tX tY hG hstart rX rY dX dY htx hty h1
  go_enter Tryz.func75, Tryz.ntmps75
  go_wp2_with fail
  go_quiet ((first | (go_at_call 76; with_reducible exact QX.out _) | (go_at_call 76; with_reducible exact QY.out _)))
  go_wp2_with fail
  go_loopg [5, 6] (Nm.val Y) (fun gk u v wr => GcdRel W L G gk u v wr)
  case atStart => exact HS.out _
  case round =>
    obtain ⟨A2, B2, U, V, n2, m2, rfl, rfl, hUl, hVl, hn2, hm2, hmL, rU, rV, dU, dV, tU, tV, hg, hgk, hb⟩ := hrel
    rcases Nat.eq_zero_or_pos m2 with h0 | h0
    · subst h0
      have hval : Nm.val U = G := by
        have h2 := hg.out
        have h3 := Nm.val_tlen V
        rw [tV.out] at h3
        rw [← h3] at h2
        simpa [Nm.val] using h2
      have Hval := Lib.hid hval
      clear hval
      go_wp2_with fail
      refine (clone_any A2 n2 U _ rU hUl.out (by rw [hUl.out]; omega)).mono ?_
      rintro e w1 ⟨A3, c3, rfl, hc3, hf3, hb3⟩
      have hb4 := up hb hb3
      go_wp2_with fail
      refine (fromDigits_n W.heap.size A3 n2 c3 U _ (hf3.mono hb.size) dU hUl.out hc3 (by omega)).mono ?_
      rintro e w5 ⟨rfl, hf5, hb5⟩
      rw [Hval.out] at hf5 ⊢
      have hb5' : Below W.heap.size W w5 := up hb4 hb5
      obtain ⟨k1, k2⟩ := seen hb5'
      have hc5 : w5.cell? ⟨w.heap.size + 1 + 1, 0, none⟩ = some (.slice none 0 0) := (k1 _ _ (by rw [HWs.out]; omega)).trans hW2
      have hf6 : w5.frozen? ⟨w.heap.size + 1 + 1, 0, none⟩ = false := (k2 _ _ (by rw [HWs.out]; omega)).trans hWf
      clear k1 k2 hW hW0 hW1 hW2 hWf
      go_wp2_with fail
      refine bodyPost_ret (v := nt A3 (Nm.nat G).length (Nm.nat G).length) (by simp [results, Tryz.results75, go_sem, hc5]) rfl ⟨_, _, rfl, Nat.le_refl _, ?_, ?_⟩
      · exact (hf5.mono hWb.size).setCell hc5 (by simp)
      · exact (up hWb hb5').setCell (by show w.heap.size ≤ w.heap.size + 1 + 1; omega) _
    · go_wp2_with fail
      refine (hL A2 B2 U V n2 m2 _ rU rV dU dV hUl.out hVl.out hn2 h0 hmL tV.out).mono ?_
      rintro e w1 ⟨A3, A4, c3, c4, qs, rs, rfl, hc3, hc4, hq9, hr9, hqd, hrd, hf3, hf4, hv, hb3⟩
      have hrl : rs.length ≤ 900 := by have := hUl.out; have := hVl.out; omega
      have htr := Nm.tlen_le rs
      obtain ⟨r, hr⟩ : ∃ r, Nm.tlen rs = r := ⟨_, rfl⟩
      rw [hr] at htr
      have Hr := Lib.hid hr
      have hb4 := up hb hb3
      have hlt : Nm.val rs < Nm.val V := hv.out.2
      have hrm : r ≤ m2 := by
        have e1 := Nm.tlen_eq hrd
        have e2 := Nm.tlen_eq dV
        rw [hr] at e1
        rw [tV.out] at e2
        rcases Nat.lt_or_ge m2 r with h5 | h5
        · have := Nm.lt_of_len (a := Nm.val V) (b := Nm.val rs) (by omega)
          omega
        · exact h5
      clear hr hq9 hr9
      go_wp2_with fail
      refine (trim_n hf4.rd hc4 (by omega) Hr).mono ?_
      rintro e w2 ⟨rfl, rfl⟩
      go_wp2_with fail
      go_roundg (Nm.val rs)
      case measure => have := hgk.out; omega
      case rel =>
        refine ⟨B2, A4, V, rs.take r, m2, r, rfl, rfl, hVl, ?_, hm2, by omega, by omega, rV.below hb3, hf4.rd.take r, dV, hrd.take r, tV, ?_, ?_, ?_, hb4⟩
        · show _ = _; rw [List.length_take]; omega
        · show _ = _
          rw [Nm.tlen_eq (hrd.take r), ← Hr.out, Nm.val_tlen, ← Nm.tlen_eq hrd]
        · show _ = _
          have h2 := hv.out.1
          rw [← Hr.out, Nm.val_tlen, ← hg.out, h2, Nat.gcd_comm (Nm.val V), Nat.mul_comm, Nat.gcd_comm (_ + _)]
          rw [Nat.gcd_comm (Nm.val rs), Nat.gcd_mul_left_add_right]
        · show _ = _
          rw [← Hr.out, Nm.val_tlen]
end Go.Proofs.YtjfehdkfogdpgaaGreatDoor
namespace Go.Proofs.YtjfehdkfogdpgaaGreatDoor
open Go.RowKit
def Bt (s : ByteArray) : List Nat := s.data.toList.map (fun b => b.toNat)
theorem Bt_length (s : ByteArray) : (Bt s).length = s.size := by simp [Bt]
theorem Bt_at (s : ByteArray) (k : Nat) (h : k < s.size) : (Bt s)[k]? = some (s[k].toNat) := by
  have : s[k] = s.data[k]'h := rfl
  rw [this]
  simp only [Bt, List.getElem?_map, Array.getElem?_toList]
  rw [Array.getElem?_eq_getElem h]
  rfl
theorem Bt_lt (s : ByteArray) : ∀ c ∈ Bt s, c < 256 := by
  intro c hc
  simp only [Bt, List.mem_map] at hc
  obtain ⟨b, _, rfl⟩ := hc
  exact b.toNat_lt
namespace Nm
def alldec (l : List Nat) : Prop := ∀ c ∈ l, 48 ≤ c ∧ c ≤ 57
instance (l : List Nat) : Decidable (alldec l) := by unfold alldec; infer_instance
def chk (l : List Nat) : Nat := if l.length = 0 then 1 else if 400 < l.length then 3 else if ¬ alldec l then 2 else if l.head? = some 48 ∧ 1 < l.length then 2 else 0
end Nm
set_option maxHeartbeats 400000 in
theorem check_any (s : ByteArray) (w : World) (hs : s.size ≤ 1000000) :
    Calls Tryz.prog 90 #[.string s] w fun e w' => e = .returned (.int .i64 (Nm.chk (Bt s))) ∧ w = w' := by
  have hl := Bt_length s
  rcases Nat.eq_zero_or_pos s.size with h0 | h0
  · have hfin : Nm.chk (Bt s) = 1 := by unfold Nm.chk; rw [if_pos (by omega)]
    rw [hfin]
    have b0 : ((s.size : Int) == 0) = true := by rw [beq_iff_eq]; omega
    clear hfin h0 hl
    go_enter Tryz.func90, Tryz.ntmps90
    go_wp2_with fail
    go_ret
    exact ⟨rfl, rfl⟩
  · have b0 : ((s.size : Int) == 0) = false := digit_ne (by omega)
    rcases Nat.lt_or_ge 400 s.size with h1 | h1
    · have hfin : Nm.chk (Bt s) = 3 := by unfold Nm.chk; rw [if_neg (by omega), if_pos (by omega)]
      rw [hfin]
      clear hfin hl
      go_enter Tryz.func90, Tryz.ntmps90
      go_wp2_with fail
      go_ret
      exact ⟨rfl, rfl⟩
    · have Hl := Lib.hid hl
      clear hl
      go_enter Tryz.func90, Tryz.ntmps90
      go_wp2_with fail
      go_loop [12] (fun i => ∃ k : Nat, k ≤ s.size ∧ i = .int .i64 k ∧ Hid (∀ j c, j < k → (Bt s)[j]? = some c → 48 ≤ c ∧ c ≤ 57)) (fun i => s.size - (intOf i).toNat)
      case atStart => exact ⟨0, Nat.zero_le _, rfl, fun j c hj => absurd hj (by omega)⟩
      case round =>
        obtain ⟨k, hk, rfl, hd⟩ := hrel
        by_cases hlt : k < s.size
        · have hat := Bt_at s k hlt
          obtain ⟨c, hc⟩ : ∃ c : Nat, s[k].toNat = c := ⟨_, rfl⟩
          rw [hc] at hat
          have Hat := Lib.hid hat
          clear hat
          have hbad : (c < 48 ∨ 57 < c) → Nm.chk (Bt s) = 2 := by
            intro h
            unfold Nm.chk
            rw [if_neg (by have := Hl.out; omega), if_neg (by have := Hl.out; omega), if_pos]
            intro hall
            have := hall c (List.mem_of_getElem? Hat.out)
            omega
          have Hbad := Lib.hid hbad
          have hnext : (48 ≤ c ∧ c ≤ 57) → ∀ j d, j < k + 1 → (Bt s)[j]? = some d → 48 ≤ d ∧ d ≤ 57 := by
            intro h j d hj hd2
            rcases Nat.lt_or_ge j k with h5 | h5
            · exact hd.out j d h5 hd2
            · obtain rfl : j = k := by omega
              rw [Hat.out] at hd2
              injection hd2 with hd2
              omega
          have Hnext := Lib.hid hnext
          clear hbad hnext
          go_wp2_with fail
          · go_ret
            exact ⟨ret_int (by rw [Hbad.out (by omega)]; rfl), rfl⟩
          · exact ⟨⟨k + 1, by omega, by go_num, Hnext.out (by omega)⟩, by simp [intOf]; omega⟩
          · go_ret
            exact ⟨ret_int (by rw [Hbad.out (by omega)]; rfl), rfl⟩
        · have hall : Nm.alldec (Bt s) := by
            intro c hc
            obtain ⟨j, hj, hjc⟩ := List.mem_iff_getElem.1 hc
            exact hd.out j c (by have := Hl.out; omega) (by rw [List.getElem?_eq_getElem hj, hjc])
          have h00 : (Bt s).head? = some (s[0].toNat) := by rw [List.head?_eq_getElem?]; exact Bt_at s 0 h0
          have hfin : Nm.chk (Bt s) = if s[0].toNat = 48 ∧ 1 < s.size then 2 else 0 := by
            unfold Nm.chk
            rw [if_neg (by have := Hl.out; omega), if_neg (by have := Hl.out; omega), if_neg (by simpa using hall), h00, Hl.out]
            simp
          have Hfin := Lib.hid hfin
          clear hfin hall h00
          go_wp2_with fail
          all_goals (go_ret; exact ⟨ret_int (by rw [Hfin.out]; first | rw [if_pos (by omega)]; rfl | rw [if_neg (by omega)]; rfl), rfl⟩)
end Go.Proofs.YtjfehdkfogdpgaaGreatDoor
namespace Go.Proofs.YtjfehdkfogdpgaaGreatDoor
open Go.RowKit
namespace Nm
def dval (l : List Nat) : Nat := l.foldl (fun a c => 10 * a + (c - 48)) 0
theorem dval_snoc (l : List Nat) (c : Nat) : dval (l ++ [c]) = 10 * dval l + (c - 48) := by simp [dval]
theorem dfold (m : List Nat) (a : Nat) : m.foldl (fun a c => 10 * a + (c - 48)) a = 10 ^ m.length * a + m.foldl (fun a c => 10 * a + (c - 48)) 0 := by
  induction m generalizing a with
  | nil => simp
  | cons c m ih =>
    simp only [List.foldl_cons, List.length_cons, Nat.pow_succ]
    rw [ih (10 * a + (c - 48)), ih (10 * 0 + (c - 48)), Nat.mul_add, ← Nat.mul_assoc]
    simp only [Nat.mul_zero, Nat.zero_add]
    omega
theorem dval_append (l m : List Nat) : dval (l ++ m) = 10 ^ m.length * dval l + dval m := by
  simp only [dval, List.foldl_append]
  exact dfold m _
theorem alldec.take {l : List Nat} (h : alldec l) (k : Nat) : alldec (l.take k) := fun c hc => h c (List.mem_of_mem_take hc)
theorem alldec.drop {l : List Nat} (h : alldec l) (k : Nat) : alldec (l.drop k) := fun c hc => h c (List.mem_of_mem_drop hc)
theorem dval_lt (l : List Nat) (h : alldec l) : dval l < 10 ^ l.length := by
  induction l with
  | nil => simp [dval]
  | cons c l ih =>
    have h1 := h c (by simp)
    have h2 := ih (fun x hx => h x (by simp [hx]))
    have h3 := dval_append [c] l
    have h4 : dval [c] = c - 48 := by simp [dval]
    rw [List.singleton_append, h4] at h3
    rw [h3, List.length_cons, Nat.pow_succ]
    have h5 : 10 ^ l.length * (c - 48) ≤ 10 ^ l.length * 9 := Nat.mul_le_mul_left _ (by omega)
    omega
theorem dval_take_succ (l : List Nat) (k : Nat) (c : Nat) (h : l[k]? = some c) : dval (l.take (k + 1)) = 10 * dval (l.take k) + (c - 48) := by
  obtain ⟨hk, hc⟩ := List.getElem?_eq_some_iff.1 h
  rw [List.take_succ_eq_append_getElem hk, dval_snoc, hc]
end Nm
set_option maxHeartbeats 400000 in
theorem group_any (s : ByteArray) (w : World) (hs : s.size ≤ 9) (hd : Nm.alldec (Bt s)) :
    Calls Tryz.prog 92 #[.string s] w fun e w' => e = .returned (.int .u32 (Nm.dval (Bt s))) ∧ w = w' := by
  have hl := Bt_length s
  have Hl := Lib.hid hl
  clear hl
  go_enter Tryz.func92, Tryz.ntmps92
  go_wp2_with fail
  go_loop [3, 7] (fun n i => ∃ k d : Nat, k ≤ s.size ∧ i = .int .i64 k ∧ n = .int .u32 d ∧ Hid (d = Nm.dval ((Bt s).take k))) (fun _ i => s.size - (intOf i).toNat)
  case atStart => exact ⟨0, 0, Nat.zero_le _, rfl, rfl, rfl⟩
  case round =>
    obtain ⟨k, d, hk, rfl, rfl, hdk⟩ := hrel
    by_cases hlt : k < s.size
    · have hat := Bt_at s k hlt
      obtain ⟨c, hc⟩ : ∃ c : Nat, s[k].toNat = c := ⟨_, rfl⟩
      rw [hc] at hat
      have hcd := hd c (List.mem_of_getElem? hat)
      have hsn := Nm.dval_take_succ (Bt s) k c hat
      have hb : d < 100000000 := by
        have h1 := Nm.dval_lt _ (hd.take k)
        rw [← hdk.out, List.length_take, Nat.min_eq_left (by have := Hl.out; omega)] at h1
        have h2 : 10 ^ k ≤ 10 ^ 8 := Nat.pow_le_pow_right (by omega) (by omega)
        omega
      have Hsn := Lib.hid hsn
      have hc1 : 48 ≤ (c : Int) := by omega
      have hc2 : (c : Int) ≤ 57 := by omega
      have hb2 : (d : Int) < 100000000 := by omega
      clear hat hsn hcd
      go_wp2_with fail
      refine ⟨⟨k + 1, 10 * d + (c - 48), by omega, by go_num, ?_, ?_⟩, by simp [intOf]; omega⟩
      · congr 1; omega
      · show _ = _
        rw [Hsn.out, ← hdk.out]
    · have hkk : k = s.size := by omega
      have hfin : d = Nm.dval (Bt s) := by
        rw [hdk.out, hkk, List.take_of_length_le (by have := Hl.out; omega)]
      have Hf := Lib.hid hfin
      clear hkk hfin
      go_wp2_with fail
      go_ret
      exact ⟨ret_int (by rw [← Hf.out]), rfl⟩
theorem addTimes_big (g off n c : Nat) (B : Option Addr) (zs ys : List Nat) (w : World) (ho : Own w g off zs) (hy : Rd w B ys) (hfar : Off g B ys) (hzd : Nm.Dig zs) (hyd : Nm.Dig ys) (hl0 : zs.length = n) (hyl : ys.length = n) (hm : n ≤ 1000) :
    Calls Tryz.prog 98 #[.slice (some ⟨g, off, none⟩) n c, .slice B n n, .int .u32 1000000000] w fun e w' => ∃ (rs : List Nat) (o : Nat), e = .returned (.int .u32 o) ∧ Hid (rs.length = n) ∧ Nm.Dig rs ∧ o < 4294967296 ∧ Hid (Nm.val rs + 4294967296 ^ n * o = Nm.val zs + Nm.val ys * 1000000000) ∧ Wr w w' g off rs := by
  have h := addTimes_n g off n c B n n 1000000000 zs ys w ho hy hfar hzd hyd hl0 hyl rfl hm (by omega)
  rwa [show (((1000000000 : Nat) : Int)) = 1000000000 from rfl] at h
theorem slice_to (g off N C j : Nat) (b : Int) (hb : b = (j : Int)) (h2 : j ≤ C) (h3 : 0 < C) (W : World) :
    (Instr.sliceAt 22 (.slice (some ⟨g, off, none⟩) N C) none (some (.int .i64 b)) none).run Tryz.prog W = .ok (.slice (some ⟨g, off, none⟩) j C) W := by
  obtain ⟨t, ht, _, hs, _⟩ := info35_parts
  subst hb
  have hu : Tryz.prog.underlying 22 = some (.slice (Tryz.prog.elem 22)) := by kernel_rfl
  have he : Tryz.prog.elem 22 = 59 := by kernel_rfl
  rw [run_sliceAt_slice (h := hu), run_slice_h (ht := hu) (h0 := by omega) (h2 := by omega), he]
  simp [sliced, sizeOf, typeInfo, ht, hs, Addr.add_lit, show C ≠ 0 from by omega]
theorem plus_lim {n x o r z p : Nat} {rs ps : List Nat} (h1 : Nm.val (ps.take n) + 4294967296 ^ n * x = r) (h2 : Nm.val rs + 4294967296 ^ n * o = Nm.val (ps.take n) + z * 1000000000) (hz : z < 4294967296 ^ n) (hr : r < 1000000000) (hp : p = x + o) :
    Nm.val rs + 4294967296 ^ n * p = z * 1000000000 + r ∧ p < 1000000000 := by
  subst hp
  rw [Nat.mul_add]
  have hpos : 0 < 4294967296 ^ n := Nat.pow_pos (by omega)
  have h3 : Nm.val rs + (4294967296 ^ n * x + 4294967296 ^ n * o) = z * 1000000000 + r := by omega
  refine ⟨h3, ?_⟩
  rcases Nat.lt_or_ge (x + o) 1000000000 with h | h
  · exact h
  · have h4 : 4294967296 ^ n * 1000000000 ≤ 4294967296 ^ n * (x + o) := Nat.mul_le_mul_left _ h
    rw [Nat.mul_add] at h4
    omega
theorem set_last {rs ps : List Nat} {n p : Nat} (hr : rs.length = n) (hp : ps.length = n + 1) : Nm.val ((rs ++ ps.drop n).set n p) = Nm.val rs + 4294967296 ^ n * p := by
  rw [List.set_append_right _ _ (by omega), hr, Nat.sub_self, Nm.val_append, hr]
  obtain ⟨x, hx⟩ : ∃ x, ps.drop n = [x] := List.length_eq_one_iff.1 (by simp; omega)
  rw [hx]
  simp [Nm.val]
set_option maxHeartbeats 400000 in
theorem timesGroupPlus_any (A : Option Addr) (n r : Nat) (zs : List Nat) (w : World) (hz : Rd w A zs) (hzd : Nm.Dig zs) (hzl : zs.length = n) (hn : n ≤ 400) (hr : r < 1000000000) :
    Calls Tryz.prog 91 #[.slice A n n, .int .u32 r] w fun e w' => ∃ (A' : Option Addr) (rs : List Nat), e = .returned (.slice A' (n + 1) (n + 1)) ∧ Hid (rs.length = n + 1) ∧ Nm.Dig rs ∧ Hid (Nm.val rs = Nm.val zs * 1000000000 + r) ∧ Fr w.heap.size w' A' rs ∧ Below w.heap.size w w' := by
  have hmk := fun W => make32 (n + 1) (n + 1) (Nat.le_refl _) (by omega) ((n : Int) + 1) ((n : Int) + 1) (by omega) (by omega) W
  have HZl := Lib.hid hzl
  clear hzl
  have hm0 : (madeCells #[Value.int IntKind.u32 0] (n + 1))[0]? = some (Value.int IntKind.u32 0) := by
    have h1 := toList_madeCells_one (Value.int .u32 0) (n + 1)
    rw [← Array.getElem?_toList, h1, List.getElem?_replicate, if_pos (by omega)]
  have hown : Own (w.alloc (Obj.cells ((madeCells #[Value.int IntKind.u32 0] (n + 1)).setIfInBounds 0 (Value.int IntKind.u32 (r : Int))) 59)) w.heap.size 0 (r :: List.replicate n 0) :=
    Row.new w 59 _ _ fun i hi => by
      have h1 := toList_madeCells_one (Value.int .u32 0) (n + 1)
      have hi' : i < n + 1 := by simpa using hi
      rw [Array.getElem?_setIfInBounds]
      cases i with
      | zero => simp [size_madeCells]
      | succ i =>
        rw [if_neg (by omega), ← Array.getElem?_toList, h1, List.getElem?_replicate, if_pos hi']
        simp
  have hbel : Below w.heap.size w (w.alloc (Obj.cells ((madeCells #[Value.int IntKind.u32 0] (n + 1)).setIfInBounds 0 (Value.int IntKind.u32 (r : Int))) 59)) := one _ _
  have hsz : (w.alloc (Obj.cells ((madeCells #[Value.int IntKind.u32 0] (n + 1)).setIfInBounds 0 (Value.int IntKind.u32 (r : Int))) 59)).heap.size = w.heap.size + 1 := by simp
  go_enter Tryz.func91, Tryz.ntmps91
  go_wp2_with fail
  generalize (w.alloc (Obj.cells ((madeCells #[Value.int IntKind.u32 0] (n + 1)).setIfInBounds 0 (Value.int IntKind.u32 (r : Int))) 59)) = W at *
  obtain ⟨ps, hps⟩ : ∃ ps, r :: List.replicate n 0 = ps := ⟨_, rfl⟩
  rw [hps] at hown
  have hpl : ps.length = n + 1 := by rw [← hps]; simp
  have hpd : Nm.Dig ps := by rw [← hps]; exact Nm.Dig.mk (by omega) (Nm.dig_replicate n)
  have hpv : Nm.val ps = r := by rw [← hps]; simp only [Nm.val]; rw [Nm.val_replicate]; omega
  have hnp : n < ps.length := by omega
  obtain ⟨x, hx⟩ : ∃ x, ps[n] = x := ⟨_, rfl⟩
  have c1 := hown.1 n hnp
  have f1 := hown.2 n hnp
  rw [hx, Nat.zero_add] at c1
  rw [Nat.zero_add] at f1
  have hxlt : x < 4294967296 := by rw [← hx]; exact hpd.at_ hnp
  have hps2 : Nm.val (ps.take n) + 4294967296 ^ n * x = r := by
    have h1 := Nm.val_take_succ ps n hnp
    rw [List.take_of_length_le (by omega), hpv, hx] at h1
    exact h1.symm
  have Hps := Lib.hid hps2
  have Hpl := Lib.hid hpl
  clear hps hpl hpv hx hps2 hmk hm0
  have hzW := hz.below hbel
  have hpart : Own W w.heap.size 0 (ps.take n) := by have := hown.part 0 n; simpa using this
  have ix := fun V => index32 V w.heap.size 0 (n + 1) (n + 1) n (n : Int) rfl (by omega)
  have sl := fun V => slice_to w.heap.size 0 (n + 1) (n + 1) n (n : Int) rfl (by omega) (by omega) V
  have hzlt : Nm.val zs < 4294967296 ^ n := by have := Nm.val_lt hzd; rwa [HZl.out] at this
  go_region_with ((go_at_call 98; refine (addTimes_big w.heap.size 0 n (n + 1) A (ps.take n) zs W.drew hpart hzW (hz.offOf (Nat.le_refl _)) (hpd.take n) hzd (by have := Hpl.out; simp; omega) HZl.out (by omega)).mono ?_; rintro e w2 ⟨rs, o, rfl, hrl, hrd, ho1, hv, hwr⟩; have c2 : w2.cell? ⟨w.heap.size, n, none⟩ = some (.int .u32 (x : Int)) := (hwr.rest n (.inr (by rw [hrl.out]; omega))).trans c1; have f2 : w2.frozen? ⟨w.heap.size, n, none⟩ = false := (hwr.soft n).trans f1; have hlim := (plus_lim Hps.out hv.out hzlt hr rfl).2))
  all_goals
    have hf2 := plus_lim Hps.out hv.out hzlt hr rfl
    have hown2 : Own w2 w.heap.size 0 (rs ++ ps.drop n) := by
      have := hown.splice (k := 0) (w' := w2) (rs := rs) (by rw [Nat.zero_add]; exact ⟨⟨hwr.grown.os, hwr.grown.tape, hwr.grown.output, hwr.grown.size, hwr.grown.block⟩, hwr.size, hwr.own, hwr.rest, hwr.soft⟩) (by rw [hrl.out, Hpl.out]; omega)
      simpa [hrl.out] using this
    have hset := hown2.set n (x + o)
    have hwrap : IntKind.u32.wrap ((x : Int) + (o : Int)) = ((x + o : Nat) : Int) := by rw [IntKind.wrap_u32]; omega
    rw [Nat.zero_add] at hset
    have hb2 : Below w.heap.size w w2 := hwr.below (below_drewN hbel 1) (Nat.le_refl _) (by show _ ≤ W.heap.size; omega)
    have hF := Lib.hid (And.intro hf2 (And.intro hset hb2))
    clear hf2 hown2 hset
    go_wp2_with fail
    go_ret
    refine ⟨some ⟨w.heap.size, 0, none⟩, (rs ++ ps.drop n).set n (x + o), rfl, ?_, ?_, ?_, .inr ⟨_, _, rfl, Nat.le_refl _, ?_⟩, ?_⟩
    · show _ = _
      have := hrl.out; have := Hpl.out
      simp; omega
    · exact (hrd.append (hpd.drop n)).set _ (by omega)
    · show _ = _
      rw [set_last hrl.out Hpl.out]
      exact hF.out.1.1
    · rw [hwrap]
      exact hF.out.2.1
    · exact hF.out.2.2.setCell (Nat.le_refl _) _
end Go.Proofs.YtjfehdkfogdpgaaGreatDoor
namespace Go.Proofs.YtjfehdkfogdpgaaGreatDoor
open Go.RowKit
theorem Bt_extract (s : ByteArray) (a b : Nat) (hb : b ≤ s.size) : Bt (s.extract a b) = ((Bt s).take b).drop a := by
  have hsz : (s.extract a b).size = b - a := by simp; omega
  apply List.ext_getElem?
  intro j
  rw [List.getElem?_drop, List.getElem?_take]
  rcases Nat.lt_or_ge j (b - a) with h | h
  · rw [Bt_at _ j (by omega), if_pos (by omega), Bt_at s (a + j) (by omega)]
    congr 2
    simp [ByteArray.getElem_extract]
  · rw [List.getElem?_eq_none (by rw [Bt_length]; omega)]
    split
    · rw [List.getElem?_eq_none]
      omega
    · rfl
theorem cell_new (w : World) (v : Value) (t : TypeId) : (w.alloc (Obj.cells #[v] t)).cell? ⟨w.heap.size, 0, none⟩ = some v ∧ (w.alloc (Obj.cells #[v] t)).frozen? ⟨w.heap.size, 0, none⟩ = false := by simp
set_option maxHeartbeats 400000 in
theorem parse_bad (s : ByteArray) (w : World) (hs : s.size ≤ 1000000) (hbad : Nm.chk (Bt s) ≠ 0) :
    Calls Tryz.prog 68 #[.string s] w fun e w' => e = .returned (.tuple #[nt none 0 0, .int .i64 (Nm.chk (Bt s))]) ∧ Below w.heap.size w w' := by
  have hc := Lib.hid (fun W => check_any s W hs)
  have hb0 : ((Nm.chk (Bt s) : Int) != 0) = true := by rw [bne_iff_ne]; omega
  go_enter Tryz.func68, Tryz.ntmps68
  go_wp2_with fail
  refine (hc.out _).mono ?_
  rintro e w1 ⟨rfl, rfl⟩
  go_wp2_with fail
  refine bodyPost_ret (v := .tuple #[nt none 0 0, .int .i64 (Nm.chk (Bt s))]) (by simp [results, Tryz.results68, go_sem]) rfl ⟨rfl, ?_⟩
  exact one _ _
set_option maxHeartbeats 400000 in
theorem parse_good (s : ByteArray) (w : World) (hs : s.size ≤ 1000000) (hgood : Nm.chk (Bt s) = 0) :
    Calls Tryz.prog 68 #[.string s] w fun e w' => ∃ A c, e = .returned (.tuple #[nt A (Nm.nat (Nm.dval (Bt s))).length c, .int .i64 0]) ∧ (Nm.nat (Nm.dval (Bt s))).length ≤ c ∧ Fr w.heap.size w' A (Nm.nat (Nm.dval (Bt s))) ∧ Below w.heap.size w w' := by
  have hall : Nm.alldec (Bt s) ∧ (Bt s).length ≤ 400 := by
    unfold Nm.chk at hgood
    split at hgood
    · omega
    · split at hgood
      · omega
      · split at hgood
        · omega
        · rename_i h2 h3
          exact ⟨by simpa using h3, by omega⟩
  obtain ⟨hall, h400⟩ := hall
  have hsl := Bt_length s
  have hc := Lib.hid (fun W => by have := check_any s W hs; rw [hgood] at this; exact this)
  have Hall := Lib.hid hall
  have Hsl := Lib.hid hsl
  clear hgood hall
  obtain ⟨W, hW⟩ : ∃ W, w.alloc (Obj.cells #[Value.slice none 0 0] 24) = W := ⟨_, rfl⟩
  obtain ⟨e0, f0⟩ := cell_new w (Value.slice none 0 0) 24
  have hb0 := one w (Obj.cells #[Value.slice none 0 0] 24)
  have hWs : (w.alloc (Obj.cells #[Value.slice none 0 0] 24)).heap.size = w.heap.size + 1 := by simp
  rw [hW] at e0 f0 hb0 hWs
  have HWs := Lib.hid hWs
  have h4 : s.size ≤ 400 := by omega
  clear hWs h400 hsl
  go_enter Tryz.func68, Tryz.ntmps68
  go_wp2_with fail
  refine (hc.out _).mono ?_
  rintro e w1 ⟨rfl, rfl⟩
  go_wp2_with fail
  go_loopg [0, 5] s.size (fun gk sv zv wr => ∃ (cur : ByteArray) (A : Option Addr) (n : Nat) (zs done : List Nat), sv = .string cur ∧ zv = .slice A n n ∧ Hid (gk = cur.size) ∧ Hid (Bt s = done ++ Bt cur) ∧ Hid (Nm.val zs = Nm.dval done) ∧ Hid (zs.length = n) ∧ n ≤ done.length ∧ Nm.Dig zs ∧ Fr W.heap.size wr A zs ∧ Hid (done = [] ∨ cur.size % 9 = 0) ∧ Below W.heap.size W wr)
  case atStart => exact ⟨s, none, 0, [], [], rfl, rfl, rfl, rfl, rfl, rfl, Nat.le_refl _, Nm.Dig.nil, Fr.nil _ _ _, .inl rfl, Below.refl _ _⟩
  case round =>
    obtain ⟨cur, A, n, zs, done, rfl, rfl, hgk, hsplit, hval, hzl, hnd, hzd, hf, hmod, hb⟩ := hrel
    have hlen : done.length + cur.size = s.size := by
      have := congrArg List.length hsplit.out
      rw [List.length_append, Bt_length, Bt_length] at this
      omega
    have hn4 : n + cur.size ≤ 400 := by omega
    rcases Nat.eq_zero_or_pos cur.size with h0 | h0
    · have hfin : Nm.val zs = Nm.dval (Bt s) := by
        have h1 := hsplit.out
        have h2 : Bt cur = [] := List.eq_nil_of_length_eq_zero (by rw [Bt_length]; exact h0)
        rw [h2, List.append_nil] at h1
        rw [h1]; exact hval.out
      have Hfin := Lib.hid hfin
      have hb2 : ((cur.size : Int)) ≤ 0 := by omega
      clear hfin h0 hlen
      go_wp2_with fail
      refine (fromDigits_n W.heap.size A n n zs _ hf hzd hzl.out (Nat.le_refl _) (by omega)).mono ?_
      rintro e w5 ⟨rfl, hf5, hb5⟩
      rw [Hfin.out] at hf5 ⊢
      have hb5' : Below W.heap.size W w5 := up hb hb5
      obtain ⟨k1, k2⟩ := seen hb5'
      have hc5 : w5.cell? ⟨w.heap.size, 0, none⟩ = some (.slice none 0 0) := (k1 _ _ (by rw [HWs.out]; omega)).trans e0
      have hf6 : w5.frozen? ⟨w.heap.size, 0, none⟩ = false := (k2 _ _ (by rw [HWs.out]; omega)).trans f0
      clear k1 k2 hW e0 f0
      go_wp2_with fail
      refine bodyPost_ret (v := .tuple #[nt A (Nm.nat (Nm.dval (Bt s))).length (Nm.nat (Nm.dval (Bt s))).length, .int .i64 0]) (by simp [results, Tryz.results68, go_sem, hc5]) rfl ⟨_, _, rfl, Nat.le_refl _, ?_, ?_⟩
      · exact (hf5.mono hb0.size).setCell hc5 (by simp)
      · exact (up hb0 hb5').setCell (Nat.le_refl _) _
    · obtain ⟨g, hg⟩ : ∃ g, (cur.size - 1) % 9 + 1 = g := ⟨_, rfl⟩
      have hgz : ((cur.size : Int) - 1) % 9 + 1 = (g : Int) := by omega
      have hg1 : 1 ≤ g := by omega
      have hg9 : g ≤ 9 := by omega
      have hgc : g ≤ cur.size := by omega
      have Hlen := Lib.hid hlen
      have Hg := Lib.hid hg
      have Hgz := Lib.hid hgz
      clear hlen hg hgz
      go_wp2_with fail
      have hsz1 : (cur.extract 0 ((cur.size - 1) % 9 + 1)).size = g := by rw [Hg.out]; simp; omega
      have hB1 : Bt (cur.extract 0 ((cur.size - 1) % 9 + 1)) = (Bt cur).take g := by rw [Hg.out, Bt_extract _ _ _ hgc, List.drop_zero]
      have hallc : Nm.alldec (Bt cur) := fun c hc => Hall.out c (by rw [hsplit.out]; exact List.mem_append_right _ hc)
      have hr := Nm.dval_lt _ (hallc.take g)
      have hrl : ((Bt cur).take g).length = g := by rw [List.length_take, Bt_length]; omega
      have hr9 : 10 ^ g ≤ 10 ^ 9 := Nat.pow_le_pow_right (by omega) hg9
      refine (group_any _ wr (by omega) (by rw [hB1]; exact hallc.take g)).mono ?_
      rintro e w2 ⟨rfl, rfl⟩
      rw [hB1]
      obtain ⟨r, hrr⟩ : ∃ r, Nm.dval ((Bt cur).take g) = r := ⟨_, rfl⟩
      rw [hrr] at hr ⊢
      rw [hrl] at hr
      have Hrr := Lib.hid hrr
      have HB1 := Lib.hid hB1
      have hr1 : r < 1000000000 := by omega
      have Hrl := Lib.hid hrl
      have hval2 : Nm.val zs * 1000000000 + r = Nm.dval (done ++ (Bt cur).take g) := by
        rw [Nm.dval_append, hrl, hval.out, hrr]
        rcases hmod.out with h | h
        · subst h; simp [Nm.dval]
        · have : g = 9 := by have := Hg.out; omega
          subst this; omega
      have Hval2 := Lib.hid hval2
      clear hsz1 hB1 hr hr9 hrl hrr hval2 hallc
      go_wp2_with fail
      refine (timesGroupPlus_any A n r zs wr hf.rd hzd hzl.out (by omega) hr1).mono ?_
      rintro e w2 ⟨A2, rs, rfl, hrsl, hrsd, hrsv, hf2, hb2⟩
      go_wp2_with fail
      have hsz2 : (cur.extract ((cur.size - 1) % 9 + 1) cur.size).size = cur.size - g := by rw [Hg.out]; simp
      have hB2 : Bt (cur.extract ((cur.size - 1) % 9 + 1) cur.size) = (Bt cur).drop g := by
        rw [Hg.out, Bt_extract _ _ _ (Nat.le_refl _), List.take_of_length_le (Nat.le_of_eq (Bt_length cur))]
      go_roundg (cur.size - g)
      case measure => have := hgk.out; omega
      case rel =>
        refine ⟨cur.extract ((cur.size - 1) % 9 + 1) cur.size, A2, n + 1, rs, done ++ (Bt cur).take g, rfl, rfl, hsz2.symm, ?_, ?_, hrsl, ?_, hrsd, hf2.mono hb.size, ?_, up hb hb2⟩
        · show _ = _
          rw [hB2, List.append_assoc, List.take_append_drop]
          exact hsplit.out
        · show _ = _
          rw [← Hval2.out, hrsv.out]
        · rw [List.length_append, Hrl.out]; omega
        · right
          rw [hsz2]
          have := Hg.out
          omega
end Go.Proofs.YtjfehdkfogdpgaaGreatDoor
namespace Go.Proofs.YtjfehdkfogdpgaaGreatDoor
open Go.RowKit
def Row8 (w : World) (g off : Nat) (bs : List Nat) : Prop := ∀ i (h : i < bs.length), w.cell? ⟨g, off + i, none⟩ = some (.int .u8 (bs[i] : Int))
def Own8 (w : World) (g off : Nat) (bs : List Nat) : Prop := Row8 w g off bs ∧ ∀ i, i < bs.length → w.frozen? ⟨g, off + i, none⟩ = false
theorem u62 : Tryz.prog.underlying 91 = some (.slice 5) := by kernel_rfl
theorem info5 : (Tryz.prog.info? 5).map (fun i => (i.zero, i.size, i.bytes)) = some (some (.int .u8 0), 1, 1) := by kernel_rfl
theorem info5_parts : ∃ i, Tryz.prog.info? 5 = some i ∧ i.zero = some (.int .u8 0) ∧ i.size = 1 ∧ i.bytes = 1 := by
  have h := info5
  cases hi : Tryz.prog.info? 5 with
  | none => rw [hi] at h; cases h
  | some i =>
    rw [hi] at h
    simp at h
    exact ⟨i, rfl, h⟩
theorem index8 (W : World) (g off n c i : Nat) (z : Int) (hz : z = (i : Int)) (hi : i < n) : (Instr.indexAt 91 (.slice (some ⟨g, off, none⟩) n c) (.int .i64 z)).run Tryz.prog W = .ok (.pointer (some ⟨g, off + i, none⟩)) W := by
  obtain ⟨j, hj, _, hs, _⟩ := info5_parts
  subst hz
  simp [Instr.indexAt, run_underlying u62, asIntOf, sizeOf, typeInfo, hj, hs, hi, Addr.add_lit]
theorem slice_to8 (g off N C j : Nat) (b : Int) (hb : b = (j : Int)) (h2 : j ≤ C) (h3 : 0 < C) (W : World) :
    (Instr.sliceAt 91 (.slice (some ⟨g, off, none⟩) N C) none (some (.int .i64 b)) none).run Tryz.prog W = .ok (.slice (some ⟨g, off, none⟩) j C) W := by
  obtain ⟨t, ht, _, hs, _⟩ := info5_parts
  subst hb
  have hu : Tryz.prog.underlying 91 = some (.slice (Tryz.prog.elem 91)) := by kernel_rfl
  have he : Tryz.prog.elem 91 = 5 := by kernel_rfl
  rw [run_sliceAt_slice (h := hu), run_slice_h (ht := hu) (h0 := by omega) (h2 := by omega), he]
  simp [sliced, sizeOf, typeInfo, ht, hs, Addr.add_lit, show C ≠ 0 from by omega]
set_option maxHeartbeats 400000 in
theorem trimRightByte_any (g off n c k : Nat) (bs : List Nat) (w : World) (hr : Row8 w g off bs) (hn : bs.length = n) (hnc : n ≤ c) (hc : 0 < c) (hm : n ≤ 100000) (hkn : k ≤ n) (hz : ∀ i, k ≤ i → i < n → bs[i]? = some 48) (hk : ∀ i, k = i + 1 → bs[i]? ≠ some 48) :
    Calls Tryz.prog 107 #[.slice (some ⟨g, off, none⟩) n c, .int .u8 48] w fun e w' => e = .returned (.slice (some ⟨g, off, none⟩) k c) ∧ w = w' := by
  have HN := Lib.hid hn
  have HZ := Lib.hid hz
  have HK := Lib.hid hk
  clear hn hz hk
  go_enter Tryz.func107, Tryz.ntmps107
  go_wp2_with fail
  go_loop [0] (fun s => ∃ j : Nat, k ≤ j ∧ j ≤ n ∧ s = .slice (some ⟨g, off, none⟩) j c) (fun s => match s with | .slice _ j _ => j | _ => 0)
  case atStart => exact ⟨n, hkn, Nat.le_refl _, rfl⟩
  case round =>
    obtain ⟨j, hj1, hj2, rfl⟩ := hrel
    rcases Nat.eq_zero_or_pos j with h0 | h0
    · subst h0
      have hk0 : k = 0 := by omega
      have HK0 := Lib.hid hk0
      clear hk0
      go_wp2_with fail
      go_ret
      exact ⟨by rw [HK0.out]; rfl, rfl⟩
    · obtain ⟨i, rfl⟩ : ∃ i, j = i + 1 := ⟨j - 1, by omega⟩
      have hi : i < bs.length := by rw [HN.out]; omega
      have c1 := hr i hi
      obtain ⟨x, hx⟩ : ∃ x, bs[i] = x := ⟨_, rfl⟩
      rw [hx] at c1
      have hat : bs[i]? = some x := by rw [List.getElem?_eq_getElem hi, hx]
      have Hat := Lib.hid hat
      have ix := fun V => index8 V g off (i + 1) c i (((i + 1 : Nat) : Int) - 1) (by omega) (by omega)
      have sl := fun V => slice_to8 g off (i + 1) c i (((i + 1 : Nat) : Int) - 1) (by omega) (by omega) hc V
      clear hx hat
      by_cases hx48 : x = 48
      · have hb : ((x : Int) == 48) = true := by rw [beq_iff_eq]; omega
        have hki : k ≤ i := by
          rcases Nat.lt_or_ge i k with h5 | h5
          · exfalso
            obtain rfl : k = i + 1 := by omega
            exact HK.out i rfl (by rw [Hat.out, hx48])
          · exact h5
        clear hx48
        go_wp2_with fail
        exact ⟨⟨i, hki, by omega, rfl⟩, Nat.lt_succ_self i⟩
      · have hb : ((x : Int) == 48) = false := by rw [beq_eq_false_iff_ne]; omega
        have hki : k = i + 1 := by
          rcases Nat.lt_or_ge i k with h5 | h5
          · omega
          · exfalso
            have := HZ.out i h5 (by omega)
            rw [Hat.out] at this
            injection this with this
            exact hx48 this
        have HKI := Lib.hid hki
        clear hx48 hki
        go_wp2_with fail
        go_ret
        exact ⟨by rw [HKI.out]; rfl, rfl⟩
set_option maxRecDepth 100000 in
set_option maxHeartbeats 400000 in
theorem trimRight_any (g off n c k : Nat) (bs : List Nat) (w : World) (hr : Row8 w g off bs) (hn : bs.length = n) (hn0 : 0 < n) (hnc : n ≤ c) (hm : n ≤ 100000) (hkn : k ≤ n) (hz : ∀ i, k ≤ i → i < n → bs[i]? = some 48) (hk : ∀ i, k = i + 1 → bs[i]? ≠ some 48) :
    Calls Tryz.prog 96 #[.slice (some ⟨g, off, none⟩) n c, .string ⟨#[48]⟩] w fun e w' => e = .returned (.slice (some ⟨g, off, none⟩) k c) ∧ w = w' := by
  have hcall := Lib.hid (trimRightByte_any g off n c k bs w hr hn hnc (by omega) hm hkn hz hk)
  have hb0 : ((n : Int) == 0) = false := digit_ne (by omega)
  clear hz hk hn hr
  go_enter Tryz.func96, Tryz.ntmps96
  go_wp2_with fail
  refine hcall.out.mono ?_
  rintro e w1 ⟨rfl, rfl⟩
  go_wp2_with fail
  go_ret
  exact ⟨rfl, rfl⟩
theorem Own8.set {w : World} {g off : Nat} {bs : List Nat} (h : Own8 w g off bs) (k x : Nat) : Own8 (w.setCell ⟨g, off + k, none⟩ (.int .u8 (x : Int))) g off (bs.set k x) := by
  refine ⟨fun i hi => ?_, fun i hi => by rw [World.frozen?_setCell]; exact h.2 i (by simpa using hi)⟩
  have hi' : i < bs.length := by simpa using hi
  by_cases hk : k = i
  · subst hk
    rw [World.cell?_setCell_same (u := _) _ _ _ (h.1 k hi')]
    simp
  · rw [World.cell?_setCell_other _ _ _ _ (by intro e; injection e; omega), h.1 i hi']
    simp [hk]
theorem grown_set {a w : World} {g : Nat} (h : a.grownBy w (some g)) (o : Nat) (u : Value) : a.grownBy (w.setCell ⟨g, o, none⟩ u) (some g) :=
  ⟨h.os, h.tape, h.output, by simpa using h.size, fun i hi hne => by
    rw [Below.heap_setCell _ _ _ _ (by rintro rfl; exact hne rfl)]
    exact h.block i hi hne⟩
set_option maxHeartbeats 400000 in
theorem reverse_any (g off n c : Nat) (bs : List Nat) (w : World) (ho : Own8 w g off bs) (hn : bs.length = n) (hm : n ≤ 100000) :
    Calls Tryz.prog 97 #[.slice (some ⟨g, off, none⟩) n c] w fun e w' => e = .returned (.tuple #[]) ∧ Own8 w' g off bs.reverse ∧ w.grownBy w' (some g) := by
  have HN := Lib.hid hn
  clear hn
  go_enter Tryz.func97, Tryz.ntmps97
  go_wp2_with fail
  go_loopw [2, 3] (fun iv jv wr => ∃ (k : Nat) (z : Int) (cs : List Nat), iv = .int .i64 k ∧ jv = .int .i64 z ∧ Hid (z = (n : Int) - 1 - (k : Int)) ∧ k ≤ n ∧ 2 * k ≤ n + 1 ∧ Hid (cs.length = n) ∧ Hid (∀ i, i < n → cs[i]? = if i < k ∨ n - k ≤ i then bs[n - 1 - i]? else bs[i]?) ∧ Own8 wr g off cs ∧ w.grownBy wr (some g)) (fun iv _ _ => n + 1 - (intOf iv).toNat)
  case atStart => exact ⟨0, (n : Int) - 1, bs, rfl, rfl, by show _ = _; simp, Nat.zero_le _, by omega, HN.out, fun i hi => by rw [if_neg (by omega)], ho, World.grownBy.refl w _⟩
  case round =>
    obtain ⟨k, z, cs, rfl, rfl, hz, hk, hk2, hl, hcs, hown, hgr⟩ := hrel
    by_cases hlt : (k : Int) < z
    · obtain ⟨j, rfl⟩ : ∃ j : Nat, z = (j : Int) := ⟨z.toNat, by omega⟩
      have hj : j + k + 1 = n := by have := hz.out; omega
      have hkj : k < j := by omega
      have hjn : (j : Int) ≤ 100000 := by omega
      have hkc : k < cs.length := by rw [hl.out]; omega
      have hjc : j < cs.length := by rw [hl.out]; omega
      have c1 := hown.1 k hkc
      have c2 := hown.1 j hjc
      have f1 := hown.2 k hkc
      have f2 := hown.2 j hjc
      obtain ⟨x, hx⟩ : ∃ x, cs[k] = x := ⟨_, rfl⟩
      obtain ⟨y, hy⟩ : ∃ y, cs[j] = y := ⟨_, rfl⟩
      rw [hx] at c1
      rw [hy] at c2
      have Hx := Lib.hid hx
      have Hy := Lib.hid hy
      have Hj := Lib.hid hj
      have ix1 := fun V => index8 V g off n c k (k : Int) rfl (by omega)
      have ix2 := fun V => index8 V g off n c j (j : Int) rfl (by omega)
      clear hx hy hj
      go_wp2_with fail
      go_region
      go_wp2_with fail
      have hown2 := (hown.set k y).set j x
      have hgr2 := grown_set (grown_set hgr (off + k) (.int .u8 (y : Int))) (off + j) (.int .u8 (x : Int))
      go_roundw
      case rel =>
        refine ⟨k + 1, (j : Int) - 1, (cs.set k y).set j x, by go_num, rfl, ?_, by have := Hj.out; omega, by have := Hj.out; omega, ?_, ?_, ?_, ?_⟩
        · show _ = _; have := hz.out; omega
        · show _ = _; rw [List.length_set, List.length_set]; exact hl.out
        · intro i hi
          have h0 := hcs.out i hi
          have hJ := Hj.out
          by_cases e1 : i = j
          · subst e1
            rw [List.getElem?_set_self (by rw [List.length_set]; exact hjc), if_pos (by omega)]
            have h2 := hcs.out k (by omega)
            rw [if_neg (by omega), List.getElem?_eq_getElem hkc, Hx.out] at h2
            rw [show n - 1 - i = k from by omega, ← h2]
          · rw [List.getElem?_set_ne (Ne.symm e1)]
            by_cases e2 : i = k
            · subst e2
              rw [List.getElem?_set_self hkc, if_pos (by omega)]
              have h2 := hcs.out j (by omega)
              rw [if_neg (by omega), List.getElem?_eq_getElem hjc, Hy.out] at h2
              rw [show n - 1 - i = j from by omega, ← h2]
            · rw [List.getElem?_set_ne (Ne.symm e2), h0]
              by_cases e3 : i < k ∨ n - k ≤ i
              · rw [if_pos e3, if_pos (by omega)]
              · rw [if_neg e3, if_neg (by omega)]
        · exact hown2
        · exact ⟨hgr2.os, hgr2.tape, hgr2.output, hgr2.size, hgr2.block⟩
      case measure => have := Hj.out; simp [intOf]; omega
    · go_wp2_with fail
      go_end0
      refine ⟨rfl, ?_, hgr⟩
      have hrev : cs = bs.reverse := by
        refine List.ext_getElem? fun i => ?_
        rcases Nat.lt_or_ge i n with h5 | h5
        · rw [hcs.out i h5, List.getElem?_reverse (by rw [HN.out]; exact h5), HN.out]
          have := hz.out
          split
          · rfl
          · rw [show n - 1 - i = i from by omega]
        · rw [List.getElem?_eq_none (by rw [hl.out]; exact h5), List.getElem?_eq_none (by rw [List.length_reverse, HN.out]; exact h5)]
      rw [← hrev]
      exact hown
end Go.Proofs.YtjfehdkfogdpgaaGreatDoor
namespace Go.Proofs.YtjfehdkfogdpgaaGreatDoor
namespace Nm
def digs (k v : Nat) : List Nat := (List.range k).map (fun i => 48 + v / 10 ^ i % 10)
theorem digs_length (k v : Nat) : (digs k v).length = k := by simp [digs]
theorem digs_at (k v i : Nat) (h : i < k) : (digs k v)[i]? = some (48 + v / 10 ^ i % 10) := by simp [digs, h]
theorem digs_succ (k v : Nat) : digs (k + 1) v = digs k v ++ [48 + v / 10 ^ k % 10] := by simp [digs, List.range_succ]
theorem digs_add (a b v : Nat) : digs (a + b) v = digs a v ++ digs b (v / 10 ^ a) := by
  induction b with
  | zero => simp [digs]
  | succ b ih =>
    rw [← Nat.add_assoc, digs_succ, ih, digs_succ, List.append_assoc, Nat.pow_add, Nat.div_div_eq_div_mul]
theorem digs_mod (q r t : Nat) (ht : t ≤ 9) : digs t (q * 1000000000 + r) = digs t r := by
  refine List.ext_getElem? fun i => ?_
  rcases Nat.lt_or_ge i t with h | h
  · rw [digs_at _ _ _ h, digs_at _ _ _ h]
    have h1 : 1000000000 = 10 ^ i * (10 * 10 ^ (8 - i)) := by
      rw [← Nat.pow_succ', ← Nat.pow_add, show i + (8 - i + 1) = 9 from by omega]
    have h2 : (q * 1000000000 + r) / 10 ^ i = 10 * (q * 10 ^ (8 - i)) + r / 10 ^ i := by
      rw [h1, ← Nat.mul_assoc, Nat.mul_comm q, Nat.mul_assoc, Nat.mul_add_div (Nat.pow_pos (by omega))]
      rw [← Nat.mul_assoc q 10, Nat.mul_comm q 10, Nat.mul_assoc]
    rw [h2, Nat.mul_add_mod]
  · rw [List.getElem?_eq_none (by rw [digs_length]; exact h), List.getElem?_eq_none (by rw [digs_length]; exact h)]
theorem digs_lt (k v : Nat) : ∀ c ∈ digs k v, 48 ≤ c ∧ c ≤ 57 := by
  intro c hc
  simp only [digs, List.mem_map] at hc
  obtain ⟨i, _, rfl⟩ := hc
  omega
theorem digs_take (k n v : Nat) (h : k ≤ n) : (digs n v).take k = digs k v := by
  refine List.ext_getElem? fun i => ?_
  rw [List.getElem?_take]
  split
  · rw [digs_at _ _ _ (by omega), digs_at _ _ _ (by omega)]
  · rw [List.getElem?_eq_none (by rw [digs_length]; omega)]
def nd (v : Nat) : Nat := if h : v = 0 then 0 else nd (v / 10) + 1
termination_by v
decreasing_by omega
theorem nd_zero : nd 0 = 0 := by rw [nd]; simp
theorem nd_pos {v : Nat} (h : v ≠ 0) : nd v = nd (v / 10) + 1 := by rw [nd]; simp [h]
theorem lt_nd (v : Nat) : v < 10 ^ nd v := by
  induction v using Nat.strongRecOn with
  | _ v ih =>
    by_cases h : v = 0
    · subst h; simp [nd_zero]
    · rw [nd_pos h, Nat.pow_succ]
      have := ih (v / 10) (by omega)
      omega
theorem nd_le {v : Nat} (h : v ≠ 0) : 10 ^ (nd v - 1) ≤ v := by
  induction v using Nat.strongRecOn with
  | _ v ih =>
    rw [nd_pos h, Nat.add_sub_cancel]
    by_cases h1 : v / 10 = 0
    · rw [h1, nd_zero]; simp; omega
    · have := ih (v / 10) (by omega) h1
      have hp : nd (v / 10) = nd (v / 10) - 1 + 1 := by rw [nd_pos h1]; simp
      rw [hp, Nat.pow_succ]
      omega
theorem nd_le_of_lt {v k : Nat} (h : v < 10 ^ k) : nd v ≤ k := by
  by_cases h0 : v = 0
  · subst h0; simp [nd_zero]
  · have h1 := nd_le h0
    rcases Nat.lt_or_ge k (nd v) with h2 | h2
    · have : 10 ^ k ≤ 10 ^ (nd v - 1) := Nat.pow_le_pow_right (by omega) (by omega)
      omega
    · exact h2
theorem nd_gt {v : Nat} (h : v ≠ 0) : 0 < nd v := by rw [nd_pos h]; omega
theorem top_ne {v : Nat} (h : v ≠ 0) : v / 10 ^ (nd v - 1) % 10 ≠ 0 := by
  have h1 := nd_le h
  have h2 := lt_nd v
  have h3 := nd_gt h
  have h4 : 10 ^ nd v = 10 ^ (nd v - 1) * 10 := by rw [← Nat.pow_succ, show (nd v - 1).succ = nd v from by omega]
  have hp : 0 < 10 ^ (nd v - 1) := Nat.pow_pos (by omega)
  have h5 : v / 10 ^ (nd v - 1) < 10 := by rw [Nat.div_lt_iff_lt_mul hp, Nat.mul_comm, ← h4]; exact h2
  have h6 : 1 ≤ v / 10 ^ (nd v - 1) := by rw [Nat.le_div_iff_mul_le hp]; omega
  rw [Nat.mod_eq_of_lt h5]; omega
theorem zero_above {v i : Nat} (h : nd v ≤ i) : v / 10 ^ i = 0 := by
  apply Nat.div_eq_of_lt
  have h1 := lt_nd v
  have : 10 ^ nd v ≤ 10 ^ i := Nat.pow_le_pow_right (by omega) h
  omega
def dec (v : Nat) : List Nat := if v = 0 then [48] else (digs (nd v) v).reverse
end Nm
end Go.Proofs.YtjfehdkfogdpgaaGreatDoor
namespace Go.Proofs.YtjfehdkfogdpgaaGreatDoor
open Go.RowKit
def bcells (bs : List Nat) : List Value := bs.map fun z : Nat => .int .u8 (z : Int)
theorem bcells_snoc (bs : List Nat) (z : Nat) : bcells (bs ++ [z]) = bcells bs ++ [.int .u8 (z : Int)] := by simp [bcells]
theorem wpList_rev {w : World} {ops : Array Oper} {rest : List Oper} {o : Oper} {a : Act} {Q : Exit → Act → World → Prop} (hgd : o.guard = none) (s x : Operand)
    (ho : o.op = .call { callee := .builtin .append, args := #[s, x], argTypes := #[91, 91] }) (B : Nat) (v : Value) (m : Nat) (bs : List Nat) (z : Nat) (ad : Addr) (d : Nat) (hs : a.eval s = v) (hx : a.eval x = .slice (some ad) 1 d)
    (hown : w.ownsRow B 5 1 v m (bcells bs)) (hc : w.cell? ad = some (.int .u8 (z : Int))) (hm : m ≤ 100000) (hB : B ≤ w.heap.size)
    (h : ∀ v' w', w'.ownsRow B 5 1 v' (m + 1) (bcells (bs ++ [z])) → w.grownBy w' v.ownBlock → (v'.ownBlock = v.ownBlock ∨ v'.ownBlock = some w.heap.size) → wpList Tryz.prog ops Q rest (a.put o.dst v') w') : wpList Tryz.prog ops Q (o :: rest) a w := by
  obtain ⟨i, hi, hz, hs5, hby⟩ := info5_parts
  obtain ⟨v', w', hrun, h1, h2, _, h3⟩ := run_append_own_at (P := Tryz.prog) w B 91 o.type 5 i _ 1 1 u62 hi hz hs5 hby rfl (by omega) v m (bcells bs) hown ad 1 d [.int .u8 (z : Int)] rfl
    (by intro j u hj
        cases j with
        | zero => simp at hj; subst hj; rw [Addr.add_zero']; exact hc
        | succ j => simp at hj) (by simp [Value.oneCell']) (by simp only [maxLen]; omega) (by omega) hB
  exact wpList_append32 hgd s x ho hs hx hrun (h v' w' (by rw [bcells_snoc]; exact h1) h2 h3)
def Apart (v : Value) (A : Option Addr) (zs : List Nat) : Prop := ∀ g, v.ownBlock = some g → Off g A zs
theorem trim_nn {A : Option Addr} {n c m : Nat} {zs : List Nat} {w : World} (h : Rd w A zs) (hn : zs.length = n) (hc : n ≤ c) (hm : n ≤ 1000) (ht : Hid (Nm.tlen zs = m)) :
    Calls Tryz.prog 76 #[.slice A n c] w fun e w' => e = .returned (.slice A m m) ∧ w = w' := by
  subst hn
  exact trim_n h hc hm ht
theorem Fr.other {B : Nat} {w w' : World} {A : Option Addr} {zs : List Nat} {row : Option Nat} (h : Fr B w A zs) (hg : w.grownBy w' row) (ho : ∀ g, row = some g → Off g A zs) : Fr B w' A zs := by
  rcases h with h | ⟨g, off, hA, hB, hown⟩
  · exact .inl h
  · rcases Nat.eq_zero_or_pos zs.length with h0 | h0
    · exact .inl (List.eq_nil_of_length_eq_zero h0)
    · refine .inr ⟨g, off, hA, hB, hown.of_block (hg.block g (hown.1.lt h0) fun e => ?_)⟩
      rcases ho g e.symm with h1 | ⟨g', o', h1, h2⟩
      · rw [h1] at h0; simp at h0
      · rw [hA] at h1; injection h1 with h1; injection h1 with h1; exact h2 h1.symm
theorem Fr.offOf {B : Nat} {w : World} {A : Option Addr} {zs : List Nat} (h : Fr B w A zs) {g : Nat} (hg : w.heap.size ≤ g) : Off g A zs := h.rd.offOf hg
theorem byte_cell (w : World) (q : Nat) : (w.alloc (Obj.cells #[Value.int IntKind.u8 (48 + (q : Int) % 10)] 5)).cell? ⟨w.heap.size, 0, none⟩ = some (.int .u8 ((48 + q % 10 : Nat) : Int)) := by
  simp
theorem grown_alloc {w w' : World} {o : Obj} {row : Option Nat} (h : (w.alloc o).grownBy w' row) : w.grownBy w' row :=
  ⟨h.os, h.tape, h.output, Nat.le_trans (by simp) h.size, fun k hk hne => (h.block k (by simp; omega) hne).trans (Below.heap_alloc w o k hk)⟩
def OutRel (B V : Nat) (w : World) (gk : Nat) (rest rev : Value) (wr : World) : Prop :=
  ∃ (A2 : Option Addr) (n c2 j : Nat) (zs : List Nat) (v : Value), rest = .slice A2 n c2 ∧ rev = v ∧ Hid (zs.length = n) ∧ n ≤ c2 ∧ n ≤ 900 ∧ Nm.Dig zs ∧ Hid (Nm.tlen zs = n) ∧ Fr B wr A2 zs ∧ wr.ownsRow B 5 1 v (9 * j) (bcells (Nm.digs (9 * j) V)) ∧ Apart v A2 zs ∧
    Hid (Nm.val zs = V / 10 ^ (9 * j)) ∧ Hid (gk = Nm.val zs) ∧ Below B w wr ∧ B ≤ wr.heap.size ∧ 9 * j ≤ 30000
def InRel (B V j r : Nat) (A2 : Option Addr) (zs : List Nat) (w : World) (gk : Nat) (rev low iv : Value) (wr : World) : Prop :=
  ∃ (t q : Nat) (v : Value), t ≤ 9 ∧ Hid (gk = 9 - t) ∧ rev = v ∧ low = .int .u32 (q : Int) ∧ Hid (q = r / 10 ^ t) ∧ q < 1000000000 ∧ iv = .int .i64 (t : Int) ∧ wr.ownsRow B 5 1 v (9 * j + t) (bcells (Nm.digs (9 * j) V ++ Nm.digs t r)) ∧ Fr B wr A2 zs ∧ Apart v A2 zs ∧ Below B w wr ∧ B ≤ wr.heap.size
theorem pow_bound {k L V : Nat} (h : 10 ^ k ≤ V) (hL : V < 2 ^ L) : k < L := by
  rcases Nat.lt_or_ge k L with h1 | h1
  · exact h1
  · have h2 : 2 ^ L ≤ 2 ^ k := Nat.pow_le_pow_right (by omega) h1
    have h3 : 2 ^ k ≤ 10 ^ k := Nat.pow_le_pow_left (by omega) k
    omega
set_option maxHeartbeats 1000000 in
theorem format_any (A : Option Addr) (c : Nat) (xs : List Nat) (w : World) (hx : Rd w A xs) (hxd : Nm.Dig xs) (hc : xs.length ≤ c) (hm : xs.length ≤ 900) :
    Calls Tryz.prog 72 #[nt A xs.length c] w fun e w' => ∃ s : ByteArray, e = .returned (.string s) ∧ Bt s = Nm.dec (Nm.val xs) ∧ Below w.heap.size w w' := by
  have hx' := hx.alloc (Obj.cells #[Value.slice A xs.length c] 24)
  have htx := Nm.tlen_le xs
  obtain ⟨m, hmx⟩ : ∃ m, Nm.tlen xs = m := ⟨_, rfl⟩
  have Hmx := Lib.hid hmx
  obtain ⟨X, hX⟩ : ∃ X, xs.take m = X := ⟨_, rfl⟩
  have hXl : X.length = m := by rw [← hX, List.length_take]; omega
  have rX : Rd (w.alloc (Obj.cells #[Value.slice A xs.length c] 24)) A X := by rw [← hX]; exact hx'.take m
  have dX : Nm.Dig X := by rw [← hX]; exact hxd.take m
  have vX : Nm.val X = Nm.val xs := by rw [← hX, ← hmx]; exact Nm.val_tlen xs
  have tX : Nm.tlen X = m := by rw [Nm.tlen_eq dX, vX, ← Nm.tlen_eq hxd, hmx]
  rw [hmx] at htx
  have HXl := Lib.hid hXl
  have VX := Lib.hid vX
  have TX := Lib.hid tX
  obtain ⟨V, hV⟩ : ∃ V, Nm.val xs = V := ⟨_, rfl⟩
  rw [hV] at VX ⊢
  clear hmx hX hXl vX tX hV
  go_enter Tryz.func72, Tryz.ntmps72
  go_wp2_with fail
  refine (trim_n hx' hc (by omega) Hmx).mono ?_
  rintro e w1 ⟨rfl, rfl⟩
  go_wp2_with fail
  refine (clone_any A m X _ rX HXl.out (by rw [HXl.out]; omega)).mono ?_
  rintro e w1 ⟨A1, c1, rfl, hc1, hf1, hb1⟩
  have hb1' : Below w.heap.size w w1 := up (one _ _) hb1
  rcases Nat.eq_zero_or_pos m with h0 | h0
  · have hfin : V = 0 := by
      have h1 := HXl.out
      rw [h0] at h1
      have h2 := List.eq_nil_of_length_eq_zero h1
      rw [← VX.out, h2]; rfl
    have Hfin := Lib.hid hfin
    have hb0 : ((m : Int) == 0) = true := by rw [beq_iff_eq]; omega
    clear hfin h0
    go_wp2_with fail
    go_ret
    exact ⟨⟨#[48]⟩, rfl, by rw [Hfin.out]; rfl, hb1'⟩
  · have hb0 : ((m : Int) == 0) = false := digit_ne (by omega)
    go_wp2_with fail
    obtain ⟨L, hL, hVL⟩ : ∃ L, L ≤ 28800 ∧ Hid (V < 2 ^ L) := ⟨32 * m, by omega, by
      show _ < _
      rw [← Nm.pow_two, ← VX.out, ← HXl.out]; exact Nm.val_lt dX⟩
    have hstart : OutRel w.heap.size V w V (.slice A1 m c1) (.slice none 0 0) w1 :=
      ⟨A1, m, c1, 0, X, .slice none 0 0, rfl, rfl, HXl.out, hc1, by omega, dX, TX.out, hf1.base (one _ _), World.ownsRow_nil _ _ _ _, fun g h => by simp [Value.ownBlock] at h, by show _ = _; rw [VX.out]; simp, by show _ = _; rw [VX.out], hb1', hb1'.size, by omega⟩
    have hV0 : V ≠ 0 := by
      rw [← VX.out]
      intro e
      have := Nm.tlen_eq dX
      rw [e, Nm.nat_zero, TX.out] at this
      simp at this; omega
    have HS := Lib.hid hstart
    have HV0 := Lib.hid hV0
    obtain ⟨B, hB⟩ : ∃ B, w.heap.size = B := ⟨_, rfl⟩
    rw [hB] at HS ⊢
    have HBe := Lib.hid hB
    clear hstart hV0 hf1 hb1 rX hx hx' h0 dX hB
    go_wp2_with fail
    go_loopg [3, 4] V (fun gk rest rev wr => OutRel B V w gk rest rev wr)
    case atStart => exact HS.out
    case round =>
      obtain ⟨A2, n, c2, j, zs, v, rfl, hve, hzl, hnc, hn9, hzd, htl, hf, hown, hap, hval, hgk, hb, hB, hj3⟩ := hrel
      obtain rfl := hve.symm
      rcases Nat.eq_zero_or_pos n with hn0 | hn0
      · subst hn0
        have hlt : V < 10 ^ (9 * j) := by
          have h1 := hval.out
          have h2 := hzl.out
          have h3 := List.eq_nil_of_length_eq_zero h2
          rw [h3] at h1
          rcases Nat.lt_or_ge V (10 ^ (9 * j)) with h5 | h5
          · exact h5
          · have h6 : 0 < V / 10 ^ (9 * j) := Nat.div_pos h5 (Nat.pow_pos (by omega))
            rw [← h1] at h6
            simp [Nm.val] at h6
        have hnd := Nm.nd_le_of_lt hlt
        have hnd0 := Nm.nd_gt HV0.out
        obtain ⟨gb, cap, hvb, hgb, _⟩ := hown.form (by omega)
        subst hvb
        have hcap : 9 * j ≤ cap := by
          rcases hown.2 with ⟨h1, _⟩ | ⟨g1, cap1, cur1, h1, _, _, h2, _⟩
          · cases h1
          · injection h1 with _ _ h3; omega
        have hrow : Own8 wr gb 0 (Nm.digs (9 * j) V) := by
          refine ⟨fun i hi => ?_, fun i hi => by rw [Nat.zero_add]; exact hown.frozenAt i⟩
          have hi' : i < 9 * j := by rw [Nm.digs_length] at hi; exact hi
          rw [Nat.zero_add, hown.cellAt i (by omega)]
          simp only [bcells, List.getElem?_map, List.getElem?_eq_getElem hi, Option.map_some]
        obtain ⟨k, hk⟩ : ∃ k, Nm.nd V = k := ⟨_, rfl⟩
        rw [hk] at hnd hnd0
        have htake := Nm.digs_take k (9 * j) V hnd
        have hrow2 : Own8 wr gb 0 (Nm.digs k V) := by
          rw [← htake]
          exact ⟨fun i hi => by simpa using hrow.1 i (by simp at hi; omega), fun i hi => hrow.2 i (by simp at hi; omega)⟩
        have hcall := Lib.hid (trimRight_any gb 0 (9 * j) cap k (Nm.digs (9 * j) V) wr hrow.1 (Nm.digs_length _ _) (by omega) hcap (by omega) hnd (fun i h1 h2 => by
            rw [Nm.digs_at _ _ _ h2, Nm.zero_above (by omega)]) (fun i h1 => by
            subst h1
            rw [Nm.digs_at _ _ _ (by omega)]
            intro e
            injection e with e
            have h7 := Nm.top_ne HV0.out
            rw [hk, Nat.add_sub_cancel] at h7
            omega))
        have Hk := Lib.hid hk
        clear hlt hk htake
        go_wp2_with fail
        refine hcall.out.mono ?_
        rintro e w2 ⟨rfl, rfl⟩
        go_wp2_with fail
        refine (reverse_any gb 0 k cap (Nm.digs k V) _ hrow2 (Nm.digs_length _ _) (by omega)).mono ?_
        rintro e w3 ⟨rfl, hrev, hgr⟩
        have hb3 : Below B w w3 := hb.grown hgr hB (fun k' hk' => by injection hk' with hk'; omega)
        have hu5 : Tryz.prog.underlying 5 = some (.int .u8) := by kernel_rfl
        have hu9 : Tryz.prog.underlying 9 = some .string := by kernel_rfl
        have hrl : (Nm.digs k V).reverse.length = k := by rw [List.length_reverse, Nm.digs_length]
        have hcells : ∀ (R : List Nat), Row8 w3 gb 0 R → ∀ i, i < R.length → w3.cell? ⟨gb, 0 + i, none⟩ = some (.int .u8 ((R.map (fun z : Nat => (z : Int))).getD i 0)) := fun R hR i hi => by
          rw [hR i hi]
          simp [List.getD, List.getElem?_eq_getElem hi]
        have hconv := run_convert_bytes_arg (P := Tryz.prog) w3 91 5 u62 hu5 gb 0 k cap ((Nm.digs k V).reverse.map (fun z : Nat => (z : Int))) (by simp [Nm.digs_length]) (fun i hi => hcells _ hrev.1 i (by omega)) 9 hu9
        obtain ⟨st, hst⟩ : ∃ st, strOfNums ((Nm.digs k V).reverse.map (fun z : Nat => (z : Int))) = st := ⟨_, rfl⟩
        rw [hst] at hconv
        have hBt : Bt st = Nm.dec V := by
          rw [← hst]
          unfold Bt Nm.dec
          rw [if_neg HV0.out, Hk.out, strOfNums_data, List.map_map, List.map_map]
          conv => rhs; rw [← List.map_id (Nm.digs k V).reverse]
          refine List.map_congr_left fun z hz => ?_
          have := Nm.digs_lt k V z (by simpa using hz)
          simp
          omega
        have HBt := Lib.hid hBt
        clear hst hBt hrl hcells
        go_wp2_with fail
        go_ret
        exact ⟨st, rfl, HBt.out, by rw [HBe.out]; exact hb3⟩
      · have hzne : zs ≠ [] := by intro e; have := hzl.out; rw [e] at this; simp at this; omega
        obtain ⟨g, off, rfl, hg, ho⟩ := hf.own hzne
        have hvpos : 0 < Nm.val zs := by
          have := Nm.tlen_pos_val (zs := zs) (by rw [htl.out]; exact hn0)
          have : 0 < 4294967296 ^ (Nm.tlen zs - 1) := Nat.pow_pos (by omega)
          omega
        have hj9 : 9 * j < L := by
          refine pow_bound (V := V) ?_ hVL.out
          rcases Nat.lt_or_ge V (10 ^ (9 * j)) with h5 | h5
          · have := hval.out
            rw [Nat.div_eq_of_lt h5] at this
            omega
          · exact h5
        have hvne : v.ownBlock ≠ some g := by
          intro e
          rcases hap g e with h5 | ⟨g', o', h5, h6⟩
          · exact hzne h5
          · injection h5 with h5; injection h5 with h5; exact h6 h5.symm
        have Hvpos := Lib.hid hvpos
        have Hvne := Lib.hid hvne
        clear hzne hvpos hvne
        go_wp2_with fail
        refine (divideByDigit_n g off n c2 1000000000 zs wr ho hzd hzl.out (by omega) (by omega) (by omega)).mono ?_
        rintro e w2 ⟨rs, r, rfl, hrl, hrd, hr, hv, hwr⟩
        have hown2 := hown.kept hwr.grown (.inr Hvne.out)
        have hf2 : Fr B w2 (some ⟨g, off, none⟩) rs := .inr ⟨g, off, rfl, hg, hwr.own⟩
        have hb2 : Below B w w2 := hwr.below hb hg hB
        have hB2 : B ≤ w2.heap.size := by rw [hwr.size]; exact hB
        have hdm : Nm.val rs = Nm.val zs / 1000000000 ∧ r = Nm.val zs % 1000000000 := by
          have h2 := hv.out
          constructor
          · rw [← h2, Nat.mul_comm, Nat.mul_add_div (by omega), Nat.div_eq_of_lt hr, Nat.add_zero]
          · rw [← h2, Nat.mul_comm, Nat.mul_add_mod, Nat.mod_eq_of_lt hr]
        obtain ⟨nn, hnn⟩ : ∃ nn, Nm.tlen rs = nn := ⟨_, rfl⟩
        have htr := Nm.tlen_le rs
        rw [hnn, hrl.out] at htr
        have hap2 : Apart v (some ⟨g, off, none⟩) (rs.take nn) := fun g' h' => .inr ⟨g, off, rfl, fun e => Hvne.out (by rw [h', e])⟩
        have HD := Lib.hid hdm
        have Hnn := Lib.hid hnn
        clear hdm hnn
        go_wp2_with fail
        refine (trim_nn hf2.rd hrl.out hnc (by omega) Hnn).mono ?_
        rintro e w3 ⟨rfl, rfl⟩
        have hstart : InRel B V j r (some ⟨g, off, none⟩) (rs.take nn) w 9 v (.int .u32 (r : Int)) (.int .i64 0) w2 :=
          ⟨0, r, v, by omega, rfl, rfl, rfl, by show _ = _; simp, hr, rfl, by simpa [Nm.digs] using hown2, hf2.take nn, hap2, hb2, hB2⟩
        have HS2 := Lib.hid hstart
        clear hstart
        go_wp2_with fail
        go_loopg [4, 5, 21] 9 (fun gk2 rev low iv wr2 => InRel B V j r (some ⟨g, off, none⟩) (rs.take nn) w gk2 rev low iv wr2)
        case atStart => exact HS2.out
        case round =>
          obtain ⟨t, q, v2, ht, hgk2, hve2, rfl, hq, hqlt, rfl, hown3, hf3, hap3, hb3, hB3⟩ := hrel
          obtain rfl := hve2.symm
          by_cases ht9 : t < 9
          · go_wp2_with (at_builtin
                         refine wpList_rev rfl (.tmp 23) (.tmp 28) rfl B v2 (9 * j + t) (Nm.digs (9 * j) V ++ Nm.digs t r) (48 + q % 10) _ 1 rfl rfl (hown3.alloc _) (by exact byte_cell _ q) (by omega) (by simp; omega) ?_
                         intro v4 w4 hown4 hg4 hat4)
            have hg5 := grown_alloc hg4
            have hoff : ∀ g', v4.ownBlock = some g' → Off g' (some ⟨g, off, none⟩) (rs.take nn) := by
              intro g' h'
              rcases hat4 with e | e
              · exact hap3 g' (by rw [← e]; exact h')
              · rw [h'] at e
                injection e with e
                exact hf3.offOf (by rw [e]; simp)
            have hf5 := hf3.other hg5 (fun g' h' => hap3 g' h')
            have hb5 : Below B w w4 := hb3.grown hg5 hB3 (fun k' hk' => (hown3.lt k' hk').1)
            have hB5 : B ≤ w4.heap.size := Nat.le_trans hB3 hg5.size
            have hd1 : Nm.digs (9 * j) V ++ Nm.digs t r ++ [48 + q % 10] = Nm.digs (9 * j) V ++ Nm.digs (t + 1) r := by
              rw [Nm.digs_succ, ← hq.out, List.append_assoc]
            rw [hd1, Nat.add_assoc] at hown4
            clear hd1
            go_roundg (8 - t)
            case measure => have := hgk2.out; omega
            case rel =>
              refine ⟨t + 1, q / 10, v4, by omega, ?_, rfl, by simp, ?_, by omega, by go_num, hown4, hf5, hoff, hb5, hB5⟩
              · show _ = _; omega
              · show _ = _
                rw [hq.out, Nat.pow_succ, Nat.div_div_eq_div_mul]
          · have ht10 : t = 9 := by omega
            have hT := Lib.hid ht10
            have hfin : OutRel B V w (Nm.val rs) (.slice (some ⟨g, off, none⟩) nn nn) v2 wr := by
              subst ht10
              have hd2 : Nm.digs (9 * j) V ++ Nm.digs 9 r = Nm.digs (9 * (j + 1)) V := by
                rw [show 9 * (j + 1) = 9 * j + 9 from by omega, Nm.digs_add, ← hval.out]
                have h5 := hv.out
                rw [← h5, Nm.digs_mod _ _ _ (Nat.le_refl _)]
              rw [hd2, show 9 * j + 9 = 9 * (j + 1) from by omega] at hown3
              refine ⟨some ⟨g, off, none⟩, nn, nn, j + 1, rs.take nn, v2, rfl, rfl, ?_, Nat.le_refl _, by omega, hrd.take nn, ?_, hf3, hown3, hap3, ?_, ?_, hb3, hB3, by omega⟩
              · show _ = _; rw [List.length_take, hrl.out]; omega
              · show _ = _
                rw [Nm.tlen_eq (hrd.take nn), ← Hnn.out, Nm.val_tlen, ← Nm.tlen_eq hrd]
              · show _ = _
                rw [← Hnn.out, Nm.val_tlen, HD.out.1, hval.out, Nat.div_div_eq_div_mul, show (1000000000 : Nat) = 10 ^ 9 from rfl, ← Nat.pow_add, show 9 * j + 9 = 9 * (j + 1) from by omega]
              · show _ = _
                rw [← Hnn.out, Nm.val_tlen]
            have HF := Lib.hid hfin
            clear hfin ht10
            go_wp2_with fail
            go_roundg (Nm.val rs)
            case measure => have := hgk.out; have := HD.out.1; have := Hvpos.out; omega
            case rel => exact HF.out
end Go.Proofs.YtjfehdkfogdpgaaGreatDoor
namespace Go.Proofs.YtjfehdkfogdpgaaGreatDoor
open Go.RowKit
theorem Nm.lit {V : Nat} (zs : List Nat) (hv : V = Nm.val zs) (hd : Nm.Dig zs) (ht : Nm.tlen zs = zs.length) : Nm.nat V = zs := by
  rw [hv]; exact (Nm.eq_nat hd ht).symm
structure Num (w : World) (A : Option Addr) (n c : Nat) (zs : List Nat) : Prop where
  rd : Rd w A zs
  len : zs.length = n
  cap : n ≤ c
  dig : Nm.Dig zs
  small : n ≤ 400
theorem Num.below {w w' : World} {A : Option Addr} {n c : Nat} {zs : List Nat} (h : Num w A n c zs) (hb : Below w.heap.size w w') : Num w' A n c zs := ⟨h.rd.below hb, h.len, h.cap, h.dig, h.small⟩
section
variable {w : World} {A B : Option Addr} {n m c d : Nat} {xs ys : List Nat}
theorem add_n (hx : Num w A n c xs) (hy : Num w B m d ys) (rs : List Nat) (hr : Nm.nat (Nm.val xs + Nm.val ys) = rs) :
    Calls Tryz.prog 41 #[nt A n c, nt B m d] w fun e w' => ∃ A' c', e = .returned (nt A' rs.length c') ∧ rs.length ≤ c' ∧ Fr w.heap.size w' A' rs ∧ Below w.heap.size w w' := by
  obtain ⟨h1, rfl, h2, h3, h4⟩ := hx
  obtain ⟨k1, rfl, k2, k3, k4⟩ := hy
  subst hr
  exact add_any A B c d xs ys w h1 k1 h3 k3 h2 k2 (by omega) (by omega)
theorem mul_n (hx : Num w A n c xs) (hy : Num w B m d ys) (rs : List Nat) (hr : Nm.nat (Nm.val xs * Nm.val ys) = rs) :
    Calls Tryz.prog 74 #[nt A n c, nt B m d] w fun e w' => ∃ A' c', e = .returned (nt A' rs.length c') ∧ rs.length ≤ c' ∧ Fr w.heap.size w' A' rs ∧ Below w.heap.size w w' := by
  obtain ⟨h1, rfl, h2, h3, h4⟩ := hx
  obtain ⟨k1, rfl, k2, k3, k4⟩ := hy
  subst hr
  exact mul_any A B c d xs ys w h1 k1 h3 k3 h2 k2 (by omega) (by omega)
theorem sub_n (hx : Num w A n c xs) (hy : Num w B m d ys) (rs : List Nat) (b : Bool) (hr : Nm.nat (Nm.val xs - Nm.val ys) = rs) (hb : decide (Nm.val ys ≤ Nm.val xs) = b) :
    Calls Tryz.prog 42 #[nt A n c, nt B m d] w fun e w' => ∃ A' c', e = .returned (.tuple #[nt A' rs.length c', .bool b]) ∧ rs.length ≤ c' ∧ Fr w.heap.size w' A' rs ∧ Below w.heap.size w w' := by
  obtain ⟨h1, rfl, h2, h3, h4⟩ := hx
  obtain ⟨k1, rfl, k2, k3, k4⟩ := hy
  subst hr hb
  exact sub_any A B c d xs ys w h1 k1 h3 k3 h2 k2 (by omega) (by omega)
theorem same_n (hx : Num w A n c xs) (hy : Num w B m d ys) (b : Bool) (hb : decide (xs = ys) = b) :
    Calls Tryz.prog 45 #[nt A n c, nt B m d] w fun e w' => e = .returned (.bool b) ∧ Below w.heap.size w w' := by
  obtain ⟨h1, rfl, h2, h3, h4⟩ := hx
  obtain ⟨k1, rfl, k2, k3, k4⟩ := hy
  subst hb
  exact same_any A B c d xs ys w h1 k1 (by omega) (by omega)
theorem divMod_n (L : Nat) (hL : DivOk L) (hx : Num w A n c xs) (hy : Num w B m d ys) (h0 : 0 < Nm.tlen ys) (hl : Nm.tlen ys ≤ L) (qs rs : List Nat) (hq : Nm.nat (Nm.val xs / Nm.val ys) = qs) (hr : Nm.nat (Nm.val xs % Nm.val ys) = rs) :
    Calls Tryz.prog 60 #[nt A n c, nt B m d] w fun e w' => ∃ A1 c1 A2 c2, e = .returned (.tuple #[nt A1 qs.length c1, nt A2 rs.length c2, .int .i64 0]) ∧ qs.length ≤ c1 ∧ rs.length ≤ c2 ∧ Fr w.heap.size w' A1 qs ∧ Fr w.heap.size w' A2 rs ∧ Below w.heap.size w w' := by
  obtain ⟨h1, rfl, h2, h3, h4⟩ := hx
  obtain ⟨k1, rfl, k2, k3, k4⟩ := hy
  subst hq hr
  exact divMod_any L hL A B c d xs ys w h1 k1 h3 k3 h2 k2 (by omega) (by omega) h0 hl
theorem gcd_n (L : Nat) (hL : DivOk L) (hx : Num w A n c xs) (hy : Num w B m d ys) (hl : Nm.tlen ys ≤ L) (rs : List Nat) (hr : Nm.nat (Nat.gcd (Nm.val xs) (Nm.val ys)) = rs) :
    Calls Tryz.prog 75 #[nt A n c, nt B m d] w fun e w' => ∃ A' c', e = .returned (nt A' rs.length c') ∧ rs.length ≤ c' ∧ Fr w.heap.size w' A' rs ∧ Below w.heap.size w w' := by
  obtain ⟨h1, rfl, h2, h3, h4⟩ := hx
  obtain ⟨k1, rfl, k2, k3, k4⟩ := hy
  subst hr
  exact gcd_any L hL A B c d xs ys w h1 k1 h3 k3 h2 k2 (by omega) (by omega) hl
theorem bits_n (hx : Num w A n c xs) (v : Nat) (hv : Nm.blen (Nm.val xs) = v) :
    Calls Tryz.prog 81 #[nt A n c] w fun e w' => e = .returned (.int .i64 (v : Int)) ∧ Below w.heap.size w w' := by
  obtain ⟨h1, rfl, h2, h3, h4⟩ := hx
  subst hv
  exact bits_any A c xs w h1 h3 h2 (by omega)
theorem format_n (hx : Num w A n c xs) :
    Calls Tryz.prog 72 #[nt A n c] w fun e w' => ∃ s : ByteArray, e = .returned (.string s) ∧ Bt s = Nm.dec (Nm.val xs) ∧ Below w.heap.size w w' := by
  obtain ⟨h1, rfl, h2, h3, h4⟩ := hx
  exact format_any A c xs w h1 h3 h2 (by omega)
theorem of_n (v : Nat) (rs : List Nat) (hv : v < 18446744073709551616) (hr : Nm.nat v = rs) :
    Calls Tryz.prog 61 #[.int .u64 v] w fun e w' => ∃ A' c', e = .returned (nt A' rs.length c') ∧ rs.length ≤ c' ∧ Fr w.heap.size w' A' rs ∧ Below w.heap.size w w' := by
  subst hr
  exact of_any v w hv
end
theorem Fr.num {B : Nat} {w : World} {A : Option Addr} {c : Nat} {zs : List Nat} (h : Fr B w A zs) (hc : zs.length ≤ c) (hd : Nm.Dig zs) (hm : zs.length ≤ 400) : Num w A zs.length c zs := ⟨h.rd, rfl, hc, hd, hm⟩
structure Var (w : World) (b : Nat) (A : Option Addr) (n c : Nat) (zs : List Nat) : Prop where
  lt : b < w.heap.size
  cell : w.cell? ⟨b, 0, none⟩ = some (.slice A n c)
  num : Num w A n c zs
theorem Var.below {w w' : World} {b : Nat} {A : Option Addr} {n c : Nat} {zs : List Nat} (h : Var w b A n c zs) (hb : Below w.heap.size w w') : Var w' b A n c zs :=
  ⟨Nat.lt_of_lt_of_le h.lt hb.size, ((seen hb).1 _ _ h.lt).trans h.cell, h.num.below hb⟩
theorem Var.new {w : World} {A : Option Addr} {n c : Nat} {zs : List Nat} (h : Num w A n c zs) : Var (w.alloc (Obj.cells #[Value.slice A n c] 24)) w.heap.size A n c zs :=
  ⟨by simp, by simp, h.below (one _ _)⟩
theorem Var.at_ {w : World} {A : Option Addr} {b n c : Nat} {zs : List Nat} (h : Num w A n c zs) (hb : b = w.heap.size) : Var (w.alloc (Obj.cells #[Value.slice A n c] 24)) b A n c zs := by
  subst hb
  exact Var.new h
theorem Bt_inj {s t : ByteArray} (h : Bt s = Bt t) : s = t := by
  obtain ⟨⟨a⟩⟩ := s
  obtain ⟨⟨b⟩⟩ := t
  congr 2
  refine List.ext_getElem? fun i => ?_
  have h1 := congrArg (fun l => l[i]?) h
  simp only [Bt, List.getElem?_map] at h1
  cases ha : a[i]? <;> cases hb : b[i]? <;> simp_all
  exact UInt8.toNat_inj.1 h1
theorem nd_eq {v k : Nat} (h1 : 10 ^ k ≤ v) (h2 : v < 10 ^ (k + 1)) : Nm.nd v = k + 1 := by
  have h3 := Nm.nd_le_of_lt h2
  rcases Nat.lt_or_ge k (Nm.nd v) with h | h
  · omega
  · have h4 := Nm.lt_nd v
    have : 10 ^ Nm.nd v ≤ 10 ^ k := Nat.pow_le_pow_right (by omega) h
    omega
end Go.Proofs.YtjfehdkfogdpgaaGreatDoor
namespace Go.Proofs.YtjfehdkfogdpgaaGreatDoor
open Go.RowKit
structure Fact where
  holds : Value → World → Prop
  stable : ∀ v w w', holds v w → Below w.heap.size w w' → holds v w'
def Fact.any : Fact := ⟨fun _ _ => True, fun _ _ _ _ _ => trivial⟩
def Fact.eq (u : Value) : Fact := ⟨fun v _ => v = u, fun _ _ _ h _ => h⟩
abbrev fF : Fact := Fact.eq (Value.bool false)
abbrev fT : Fact := Fact.eq (Value.bool true)
abbrev fI (z : Int) : Fact := Fact.eq (Value.int IntKind.i64 z)
def Fact.num (zs : List Nat) : Fact := ⟨fun v w => ∃ A c, v = nt A zs.length c ∧ Num w A zs.length c zs, fun _ _ _ ⟨A, c, h, hn⟩ hb => ⟨A, c, h, hn.below hb⟩⟩
def Fact.row (zs : List Nat) : Fact := ⟨fun v w => ∃ A c, v = .slice A zs.length c ∧ Rd w A zs, fun _ _ _ ⟨A, c, h, hn⟩ hb => ⟨A, c, h, hn.below hb⟩⟩
def Fact.var (zs : List Nat) : Fact := ⟨fun v w => ∃ b A c, v = .pointer (some ⟨b, 0, none⟩) ∧ Var w b A zs.length c zs, fun _ _ _ ⟨b, A, c, h, hn⟩ hb => ⟨b, A, c, h, hn.below hb⟩⟩
section
variable (ops : Array Oper) (Q : Exit → Act → World → Prop) (F : Nat → Fact) (base : List Nat) (N : Nat)
def Ob (o : Oper) : Prop := ∀ (a : Act) (w : World) (K : Act → World → Prop), a.tmps.size = N → (∀ t ∈ base, (F t).holds (a.tmps.getD t undef) w) →
  (∀ e ∈ o.after, Region.binds .any e = true → ∀ t, (ops[e.on]?).bind Oper.dst = some t → (F t).holds (a.tmps.getD t undef) w) →
  (∀ v w', Below w.heap.size w w' → (∀ t, o.dst = some t → (F t).holds v w') → K (a.put o.dst v) w') →
  (if Region.wanted o (yielded ops a.tmps) = true then Oper.wp Tryz.prog o a w K Q else K (a.put o.dst undef) w)
def formOk : Bool := (List.range ops.size).all fun i => match ops[i]? with
  | none => true
  | some o => (o.after.all fun e => !Region.binds .any e || decide (e.on < i)) && (match o.dst with
    | none => true
    | some t => decide (t < N) && !base.contains t && (List.range ops.size).all fun j => j == i || (ops[j]?).bind Oper.dst != some t)
structure Inv (a0 : Act) (w0 : World) (listed : Array Bool) (a : Act) (w : World) : Prop where
  lsize : listed.size = ops.size
  tsize : a.tmps.size = N
  defers : a.defers = a0.defers
  base : ∀ t ∈ base, (F t).holds (a.tmps.getD t undef) w
  done : ∀ (i t : Nat), listed.getD i false = true → (ops[i]?).bind Oper.dst = some t → (F t).holds (a.tmps.getD t undef) w
  other : ∀ (t : Nat), (∀ (i : Nat), (ops[i]?).bind Oper.dst ≠ some t) → a.tmps.getD t undef = a0.tmps.getD t undef
  below : Below w0.heap.size w0 w
end
section
variable {ops : Array Oper} {Q : Exit → Act → World → Prop} {F : Nat → Fact} {base : List Nat} {N : Nat}
theorem formOk_at (h : formOk ops base N = true) {i : Nat} {o : Oper} (ho : ops[i]? = some o) :
    (∀ e ∈ o.after, Region.binds .any e = true → e.on < i) ∧ ∀ t, o.dst = some t → t < N ∧ t ∉ base ∧ ∀ j, j ≠ i → (ops[j]?).bind Oper.dst ≠ some t := by
  have hi : i < ops.size := (Array.getElem?_eq_some_iff.1 ho).1
  have h1 := List.all_eq_true.1 h i (List.mem_range.2 hi)
  simp only [ho, Bool.and_eq_true] at h1
  refine ⟨fun e he hb => ?_, fun t ht => ?_⟩
  · have := Array.all_eq_true_iff_forall_mem.1 h1.1 e he
    simpa [hb] using this
  · have h2 := h1.2
    rw [ht] at h2
    simp only [Bool.and_eq_true, decide_eq_true_eq, Bool.not_eq_true'] at h2
    refine ⟨h2.1.1, fun hm => ?_, fun j hj e => ?_⟩
    · have := h2.1.2
      rw [List.contains_iff_mem.2 hm] at this
      cases this
    · have hjs : j < ops.size := by
        rcases Nat.lt_or_ge j ops.size with h5 | h5
        · exact h5
        · rw [Array.getElem?_eq_none h5] at e; cases e
      have := List.all_eq_true.1 h2.2 j (List.mem_range.2 hjs)
      simp only [Bool.or_eq_true, beq_iff_eq, bne_iff_ne, ne_eq] at this
      rcases this with h5 | h5
      · exact hj h5
      · exact h5 e
theorem getD_put_same {a : Act} {t : Nat} {v : Value} (h : t < a.tmps.size) : (a.put (some t) v).tmps.getD t undef = v := by
  simp [Act.put, Array.getD, h]
theorem getD_put_other {a : Act} {d : Option Nat} {t : Nat} {v : Value} (h : d ≠ some t) : (a.put d v).tmps.getD t undef = a.tmps.getD t undef := by
  cases d with
  | none => rfl
  | some s =>
    have : s ≠ t := fun e => h (by rw [e])
    simp only [Act.put, Array.getD_eq_getD_getElem?, Array.getElem?_setIfInBounds, if_neg this]
theorem Inv.step (hok : formOk ops base N = true) {a0 : Act} {w0 : World} {listed : Array Bool} {a : Act} {w w' : World} (h : Inv ops F base N a0 w0 listed a w) {i : Nat} {o : Oper} (ho : ops[i]? = some o) {v : Value}
    (hb : Below w.heap.size w w') (hF : ∀ t, o.dst = some t → (F t).holds v w') : Inv ops F base N a0 w0 (listed.setIfInBounds i true) (a.put o.dst v) w' := by
  obtain ⟨_, hd⟩ := formOk_at hok ho
  refine ⟨by simpa using h.lsize, ?_, ?_, fun t ht => ?_, fun j t hj hjt => ?_, fun t ht => ?_, up h.below hb⟩
  · cases o.dst <;> simpa [Act.put] using h.tsize
  · cases o.dst <;> simpa [Act.put] using h.defers
  · rw [getD_put_other (fun e => (hd t e).2.1 ht)]
    exact (F t).stable _ _ _ (h.base t ht) hb
  · by_cases hji : j = i
    · subst hji
      rw [ho] at hjt
      have hjt' : o.dst = some t := hjt
      rw [hjt', getD_put_same (by rw [h.tsize]; exact (hd t hjt').1)]
      exact hF t hjt'
    · have hl : listed.getD j false = true := by
        simpa only [Array.getD_eq_getD_getElem?, Array.getElem?_setIfInBounds, if_neg (Ne.symm hji)] using hj
      rw [getD_put_other (fun e => (hd t e).2.2 j hji hjt)]
      exact (F t).stable _ _ _ (h.done j t hl hjt) hb
  · rw [getD_put_other (fun e => ht i (by rw [ho]; exact e))]
    exact h.other t ht
theorem all_listed (hok : formOk ops base N = true) {listed : Array Bool} (hl : listed.size = ops.size) (hr : Region.ready .any ops listed = []) : ∀ i, i < ops.size → listed.getD i false = true := by
  intro i
  induction i using Nat.strongRecOn with
  | _ i ih =>
    intro hi
    cases hg : listed.getD i false with
    | true => rfl
    | false =>
      exfalso
      have hmem : i ∈ Region.ready .any ops listed := by
        refine mem_ready.2 ⟨?_, ops[i], Array.getElem?_eq_getElem hi, fun e he hb => ?_⟩
        · rw [Array.getD_eq_getD_getElem?, Array.getElem?_eq_getElem (by omega)] at hg ⊢
          exact hg
        · have := (formOk_at hok (Array.getElem?_eq_getElem hi)).1 e he hb
          exact ih e.on this (by omega)
      rw [hr] at hmem
      cases hmem
def left_ (listed : Array Bool) (n : Nat) : Nat := ((List.range n).filter fun i => !listed.getD i true).length
theorem left_step {listed : Array Bool} {n i : Nat} (hi : i < n) (hs : listed.size = n) (h : listed.getD i true = false) : left_ (listed.setIfInBounds i true) n + 1 ≤ left_ listed n := by
  unfold left_
  have key : ∀ l : List Nat, l.Nodup → (∀ j ∈ l, j < n) → (i ∈ l → ((l.filter fun j => !(listed.setIfInBounds i true).getD j true).length + 1 = (l.filter fun j => !listed.getD j true).length)) ∧
      (i ∉ l → ((l.filter fun j => !(listed.setIfInBounds i true).getD j true).length = (l.filter fun j => !listed.getD j true).length)) := by
    intro l
    induction l with
    | nil => intro _ _; exact ⟨(fun h => by cases h), fun _ => rfl⟩
    | cons j l ih =>
      intro hnd hlt
      obtain ⟨hj, hnd⟩ := List.nodup_cons.1 hnd
      obtain ⟨ih1, ih2⟩ := ih hnd (fun k hk => hlt k (by simp [hk]))
      have hjn := hlt j (by simp)
      by_cases hji : j = i
      · subst hji
        have e1 : (listed.setIfInBounds j true).getD j true = true := by simp [Array.getD_eq_getD_getElem?, hs, hjn]
        refine ⟨fun _ => ?_, fun hno => absurd (by simp) hno⟩
        simp only [List.filter_cons, e1, h, Bool.not_true, Bool.not_false, if_true, List.length_cons]
        have := ih2 hj
        simp only [Bool.false_eq_true, if_false]
        omega
      · have e1 : (listed.setIfInBounds i true).getD j true = listed.getD j true := by
          simp only [Array.getD_eq_getD_getElem?, Array.getElem?_setIfInBounds, if_neg (Ne.symm hji)]
        refine ⟨fun hm => ?_, fun hno => ?_⟩
        · have := ih1 (by rcases List.mem_cons.1 hm with h5 | h5; exact absurd h5.symm hji; exact h5)
          simp only [List.filter_cons, e1]
          split <;> (try simp only [List.length_cons]) <;> omega
        · have := ih2 (fun h5 => hno (by simp [h5]))
          simp only [List.filter_cons, e1]
          split <;> (try simp only [List.length_cons]) <;> omega
  have := (key (List.range n) List.nodup_range (fun j hj => List.mem_range.1 hj)).1 (List.mem_range.2 hi)
  omega
theorem wpAny_stable (hok : formOk ops base N = true) {a0 : Act} {w0 : World} (hstep : ∀ o ∈ ops.toList, Ob ops Q F base N o)
    (hend : ∀ a w, a.defers = a0.defers → a.tmps.size = N → (∀ t ∈ base, (F t).holds (a.tmps.getD t undef) w) → (∀ (i t : Nat), (ops[i]?).bind Oper.dst = some t → (F t).holds (a.tmps.getD t undef) w) →
      (∀ (t : Nat), (∀ (i : Nat), (ops[i]?).bind Oper.dst ≠ some t) → a.tmps.getD t undef = a0.tmps.getD t undef) → Below w0.heap.size w0 w → Q .normal a w) :
    ∀ (fuel : Nat) (listed : Array Bool) (a : Act) (w : World), Inv ops F base N a0 w0 listed a w → left_ listed ops.size ≤ fuel → wpAny Tryz.prog .any ops Q fuel listed a w := by
  have hfin : ∀ (listed : Array Bool) (a : Act) (w : World), Inv ops F base N a0 w0 listed a w → Region.ready .any ops listed = [] → Q .normal a w := fun listed a w h hr =>
    hend a w h.defers h.tsize h.base (fun i t hit => h.done i t (all_listed hok h.lsize hr i (by
      rcases Nat.lt_or_ge i ops.size with h5 | h5
      · exact h5
      · rw [Array.getElem?_eq_none h5] at hit; cases hit)) hit) h.other h.below
  intro fuel
  induction fuel with
  | zero =>
    intro listed a w h hl
    have hr : Region.ready .any ops listed = [] := by
      cases hr : Region.ready .any ops listed with
      | nil => rfl
      | cons i rs =>
        exfalso
        have hm : i ∈ Region.ready .any ops listed := by rw [hr]; simp
        obtain ⟨h1, o, ho, _⟩ := mem_ready.1 hm
        have := left_step (Array.getElem?_eq_some_iff.1 ho).1 h.lsize h1
        omega
    exact ⟨hr, hfin listed a w h hr⟩
  | succ fuel ih =>
    intro listed a w h hl
    refine ⟨hfin listed a w h, fun i hi => ?_⟩
    obtain ⟨h1, o, ho, hedges⟩ := mem_ready.1 hi
    have hlt : i < ops.size := (Array.getElem?_eq_some_iff.1 ho).1
    have hmem : o ∈ ops.toList := by
      have := (Array.getElem?_eq_some_iff.1 ho).2
      rw [← this]; simp
    refine wpOp_step ho fun K' hK => hstep o hmem a w K' h.tsize h.base (fun e he hb t het => h.done e.on t (hedges e he hb) het) fun v w' hb hF => hK _ _ (ih _ _ _ (h.step hok ho hb hF) ?_)
    have := left_step hlt h.lsize h1
    omega
theorem wp_region_stable {id : Nat} {l : List Oper} {a : Act} {w : World} (hm : Tryz.prog.follows .mixedOrders = true) (F : Nat → Fact) (base : List Nat) (N : Nat) (hN : a.tmps.size = N) (hok : formOk l.toArray base N = true)
    (hbase : ∀ t ∈ base, (F t).holds (a.tmps.getD t undef) w) (hstep : ∀ o ∈ l, Ob l.toArray Q F base N o)
    (hend : ∀ a' w', a'.defers = a.defers → a'.tmps.size = N → (∀ t ∈ base, (F t).holds (a'.tmps.getD t undef) w') → (∀ (i t : Nat), (l.toArray[i]?).bind Oper.dst = some t → (F t).holds (a'.tmps.getD t undef) w') →
      (∀ (t : Nat), (∀ (i : Nat), (l.toArray[i]?).bind Oper.dst ≠ some t) → a'.tmps.getD t undef = a.tmps.getD t undef) → Below w.heap.size w w' → Q .normal a' w') : (Code.region id l.toArray true).wp Tryz.prog Q a w := by
  refine wp_region_any hm (wpAny_stable (a0 := a) (w0 := w) hok (by simpa using hstep) hend _ _ _ _ ⟨by simp, hN, rfl, fun t ht => ?_, fun i t hi _ => ?_, fun _ _ => rfl, (Below.refl _ _).drew⟩ ?_)
  · exact (F t).stable _ _ _ (hbase t ht) (Below.refl _ _).drew
  · rw [Array.getD_eq_getD_getElem?, Array.getElem?_replicate] at hi
    split at hi <;> simp at hi
  · unfold left_
    exact Nat.le_trans (List.length_filter_le _ _) (by simp)
end
end Go.Proofs.YtjfehdkfogdpgaaGreatDoor
namespace Go.Proofs.YtjfehdkfogdpgaaGreatDoor
open Go.RowKit
def known (ops : Array Oper) (base : List Nat) (o : Oper) (t : Nat) : Bool := base.contains t || o.after.any fun e => Region.binds .any e && (ops[e.on]?).bind Oper.dst == some t
section
variable {ops : Array Oper} {Q : Exit → Act → World → Prop} {F : Nat → Fact} {base : List Nat} {N : Nat} {o : Oper}
theorem known_fact {a : Act} {w : World} (hb : ∀ t ∈ base, (F t).holds (a.tmps.getD t undef) w)
    (hp : ∀ e ∈ o.after, Region.binds .any e = true → ∀ t, (ops[e.on]?).bind Oper.dst = some t → (F t).holds (a.tmps.getD t undef) w) {t : Nat} (hk : known ops base o t = true) : (F t).holds (a.tmps.getD t undef) w := by
  unfold known at hk
  rw [Bool.or_eq_true] at hk
  rcases hk with h | h
  · exact hb t (List.contains_iff_mem.1 h)
  · rw [Array.any_eq_true'] at h
    obtain ⟨e, he, h2⟩ := h
    simp only [Bool.and_eq_true, beq_iff_eq] at h2
    exact hp e he h2.1 t h2.2
def GuardOk (ops : Array Oper) (F : Nat → Fact) (base : List Nat) (N : Nat) (o : Oper) : Prop :=
  o.guard = none ∨ ∃ (j d : Nat) (b : Bool), o.guard = some (j, b) ∧ (ops[j]?).bind Oper.dst = some d ∧ known ops base o d = true ∧ d < N ∧ F d = Fact.eq (.bool b)
theorem wanted_of {a : Act} {w : World} (hN : a.tmps.size = N) (hf : ∀ t, known ops base o t = true → (F t).holds (a.tmps.getD t undef) w) (hg : GuardOk ops F base N o) : Region.wanted o (yielded ops a.tmps) = true := by
  rcases hg with h | ⟨j, d, b, h, hd, hk, hlt, hF⟩
  · simp [Region.wanted, h]
  · have h1 := hf d hk
    rw [hF] at h1
    have h2 : a.tmps[d]? = some (.bool b) := by
      have : a.tmps.getD d undef = .bool b := h1
      rw [Array.getD_eq_getD_getElem?, Array.getElem?_eq_getElem (by omega)] at this
      rw [Array.getElem?_eq_getElem (by omega)]
      exact congrArg some this
    have h3 : ((ops[j]?).bind fun x => x.dst) = some d := hd
    simp [Region.wanted, h, yielded, h3, h2]
theorem ob_val (hg : GuardOk ops F base N o) (h : ∀ (a : Act) (w : World), (∀ t, known ops base o t = true → (F t).holds (a.tmps.getD t undef) w) →
    ∃ v w', (execOp a.eval o).run Tryz.prog w = .ok (.value v) w' ∧ Below w.heap.size w w' ∧ ∀ t, o.dst = some t → (F t).holds v w') : Ob ops Q F base N o := by
  intro a w K hN hb hp hK
  have hf := fun t (hk : known ops base o t = true) => known_fact hb hp hk
  rw [if_pos (wanted_of hN hf hg)]
  obtain ⟨v, w', hr, hbw, hF⟩ := h a w hf
  unfold Oper.wp
  rw [hr]
  exact hK v w' hbw hF
theorem ob_enter (hg : GuardOk ops F base N o) (h : ∀ (a : Act) (w : World), (∀ t, known ops base o t = true → (F t).holds (a.tmps.getD t undef) w) →
    ∃ f args, (execOp a.eval o).run Tryz.prog w = .ok (.enter f args) w ∧ Calls Tryz.prog f args w fun e w' => ∃ v, e = .returned v ∧ Below w.heap.size w w' ∧ ∀ t, o.dst = some t → (F t).holds v w') : Ob ops Q F base N o := by
  intro a w K hN hb hp hK
  have hf := fun t (hk : known ops base o t = true) => known_fact hb hp hk
  rw [if_pos (wanted_of hN hf hg)]
  obtain ⟨f, args, hr, hc⟩ := h a w hf
  unfold Oper.wp
  rw [hr]
  refine hc.mono ?_
  rintro e w' ⟨v, rfl, hbw, hF⟩
  exact hK v w' hbw hF
theorem ob_copy (t d : Nat) (ho : o.op = .move (.tmp t) ∨ o.op = .assign (.tmp t)) (hd : o.dst = some d) (hg : GuardOk ops F base N o) (hk : known ops base o t = true) (hF : F d = F t) : Ob ops Q F base N o :=
  ob_val hg fun a w hf => ⟨a.tmps.getD t undef, w, by rcases ho with h | h <;> simp [execOp, h, Act.eval], Below.refl _ _, fun s hs => by
    rw [hd] at hs; injection hs with hs; subst hs; rw [hF]; exact hf t hk⟩
theorem ob_const (v : Value) (d : Nat) (ho : o.op = .move (.const v) ∨ o.op = .assign (.const v)) (hd : o.dst = some d) (hg : GuardOk ops F base N o) (hF : F d = Fact.eq v) : Ob ops Q F base N o :=
  ob_val hg fun a w _ => ⟨v, w, by rcases ho with h | h <;> simp [execOp, h, Act.eval], Below.refl _ _, fun s hs => by
    rw [hd] at hs; injection hs with hs; subst hs; rw [hF]; rfl⟩
theorem ob_pick (c t d : Nat) (u : Value) (ho : o.op = .pick (.tmp c) (.tmp t) (.const u)) (hd : o.dst = some d) (hg : GuardOk ops F base N o) (hkc : known ops base o c = true) (hk : known ops base o t = true) (hc : F c = fT) (hF : F d = F t) : Ob ops Q F base N o :=
  ob_val hg fun a w hf => ⟨a.tmps.getD t undef, w, by
    have h1 := hf c hkc
    rw [hc] at h1
    have h2 : a.tmps.getD c undef = .bool true := h1
    simp [execOp, ho, Act.eval, h2, asBool], Below.refl _ _, fun s hs => by
    rw [hd] at hs; injection hs with hs; subst hs; rw [hF]; exact hf t hk⟩
theorem ob_load (t d : Nat) (zs : List Nat) (ho : o.op = .load 24 (.tmp t)) (hd : o.dst = some d) (hg : GuardOk ops F base N o) (hk : known ops base o t = true) (hv : F t = Fact.var zs) (hF : F d = Fact.num zs) : Ob ops Q F base N o :=
  ob_val hg fun a w hf => by
    have h1 := hf t hk
    rw [hv] at h1
    obtain ⟨b, A, c, h2, hvar⟩ := h1
    have hc := hvar.cell
    refine ⟨nt A zs.length c, w, ?_, Below.refl _ _, fun s hs => ?_⟩
    · have h3 : a.eval (.tmp t) = .pointer (some ⟨b, 0, none⟩) := h2
      have hrun : (Instr.loadAt 24 (.pointer (some ⟨b, 0, none⟩))).run Tryz.prog w = .ok (nt A zs.length c) w := by
        go_simp
      simp [execOp, ho, h3, hrun]
    · rw [hd] at hs; injection hs with hs; subst hs; rw [hF]
      exact ⟨A, c, rfl, hvar.num⟩
end
end Go.Proofs.YtjfehdkfogdpgaaGreatDoor
namespace Go.Proofs.YtjfehdkfogdpgaaGreatDoor
open Go.RowKit
def Ret (R : Fact) (w : World) (e : Ending) (w' : World) : Prop := ∃ u, e = .returned u ∧ Below w.heap.size w w' ∧ R.holds u w'
noncomputable def fnOk (f : FuncId) : Bool := match Tryz.prog.funcs[f]? with
  | some fn => !(fn.name == "runtime.NumGoroutine") && !fn.body.isNone
  | none => false
theorem run_callFunc {f : FuncId} (h : fnOk f = true) (args : Array Value) (w : World) : (callFunc f args).run Tryz.prog w = .ok (.enter f args) w := by
  unfold fnOk at h
  cases hf : Tryz.prog.funcs[f]? with
  | none => rw [hf] at h; cases h
  | some fn =>
    rw [hf] at h
    simp only [Bool.and_eq_true, Bool.not_eq_true'] at h
    have h1 : fn.name ≠ "runtime.NumGoroutine" := by simpa using h.1
    have h2 : fn.body ≠ none := by intro e; have := h.2; rw [e] at this; cases this
    simp [callFunc, hf, h1, h2]
theorem run_invoke {f : FuncId} (h : fnOk f = true) (args : Array Value) (w : World) : ((Deferred.ofValue (.func (.func f) #[] #[]) args).run Tryz.prog w).andThen (fun d w' => (invoke d.target d.args).run Tryz.prog w') = .ok (.enter f args) w := by
  simp [Deferred.ofValue, invoke, run_callFunc h]
section
variable {ops : Array Oper} {Q : Exit → Act → World → Prop} {F : Nat → Fact} {base : List Nat} {N : Nat} {o : Oper}
theorem ob_call1 (f : FuncId) (t d : Nat) (tys : Array TypeId) (ho : o.op = .call { callee := .value (.func f), args := #[.tmp t], argTypes := tys }) (hd : o.dst = some d) (hg : GuardOk ops F base N o) (hk : known ops base o t = true) (hfn : fnOk f = true)
    (hc : ∀ v w, (F t).holds v w → Calls Tryz.prog f #[v] w (Ret (F d) w)) : Ob ops Q F base N o :=
  ob_enter hg fun a w hf => ⟨f, #[a.tmps.getD t undef], by simpa [execOp, ho, resolve, Act.eval] using run_invoke hfn _ w, (hc _ w (hf t hk)).mono fun e w' ⟨u, he, hb, hr⟩ => ⟨u, he, hb, fun s hs => by
    rw [hd] at hs; injection hs with hs; subst hs; exact hr⟩⟩
theorem ob_call2 (f : FuncId) (t s d : Nat) (tys : Array TypeId) (ho : o.op = .call { callee := .value (.func f), args := #[.tmp t, .tmp s], argTypes := tys }) (hd : o.dst = some d) (hg : GuardOk ops F base N o) (hk : known ops base o t = true) (hk2 : known ops base o s = true) (hfn : fnOk f = true)
    (hc : ∀ v u w, (F t).holds v w → (F s).holds u w → Calls Tryz.prog f #[v, u] w (Ret (F d) w)) : Ob ops Q F base N o :=
  ob_enter hg fun a w hf => ⟨f, #[a.tmps.getD t undef, a.tmps.getD s undef], by simpa [execOp, ho, resolve, Act.eval] using run_invoke hfn _ w, (hc _ _ w (hf t hk) (hf s hk2)).mono fun e w' ⟨u, he, hb, hr⟩ => ⟨u, he, hb, fun s hs => by
    rw [hd] at hs; injection hs with hs; subst hs; exact hr⟩⟩
theorem ob_callc (f : FuncId) (v : Value) (d : Nat) (tys : Array TypeId) (ho : o.op = .call { callee := .value (.func f), args := #[.const v], argTypes := tys }) (hd : o.dst = some d) (hg : GuardOk ops F base N o) (hfn : fnOk f = true)
    (hc : ∀ w, Calls Tryz.prog f #[v] w (Ret (F d) w)) : Ob ops Q F base N o :=
  ob_enter hg fun a w _ => ⟨f, #[v], by simpa [execOp, ho, resolve, Act.eval] using run_invoke hfn _ w, (hc w).mono fun e w' ⟨u, he, hb, hr⟩ => ⟨u, he, hb, fun s hs => by
    rw [hd] at hs; injection hs with hs; subst hs; exact hr⟩⟩
theorem ob_call0 (f : FuncId) (d : Nat) (tys : Array TypeId) (ho : o.op = .call { callee := .value (.func f), args := #[], argTypes := tys }) (hd : o.dst = some d) (hg : GuardOk ops F base N o) (hfn : fnOk f = true)
    (hc : ∀ w, Calls Tryz.prog f #[] w (Ret (F d) w)) : Ob ops Q F base N o :=
  ob_enter hg fun a w _ => ⟨f, #[], by simpa [execOp, ho, resolve, Act.eval] using run_invoke hfn _ w, (hc w).mono fun e w' ⟨u, he, hb, hr⟩ => ⟨u, he, hb, fun s hs => by
    rw [hd] at hs; injection hs with hs; subst hs; exact hr⟩⟩
theorem ob_eql_str (s : ByteArray) (t d : Nat) (ty' : TypeId) (ho : o.op = .binOp .eql 9 (.tmp t) (.const (.string s)) ty') (hd : o.dst = some d) (hg : GuardOk ops F base N o) (hk : known ops base o t = true) (ht : F t = Fact.eq (.string s)) (hF : F d = fT) : Ob ops Q F base N o :=
  ob_val hg fun a w hf => ⟨.bool true, w, by
    have h1 := hf t hk
    rw [ht] at h1
    have h2 : a.eval (.tmp t) = .string s := h1
    have h3 : a.eval (.const (.string s)) = .string s := rfl
    have h4 : (binOp .eql 9 (.string s) (.string s)).run Tryz.prog w = .ok (.bool true) w := by go_simp
    simp [execOp, ho, h2, h3, eqGuard_at_string, h4], Below.refl _ _, fun s hs => by
    rw [hd] at hs; injection hs with hs; subst hs; rw [hF]; rfl⟩
end
theorem num_of_fr {B : Nat} {w : World} {A : Option Addr} {c : Nat} {zs : List Nat} (h : Fr B w A zs) (hc : zs.length ≤ c) (hd : Nm.Dig zs) (hm : zs.length ≤ 400) : (Fact.num zs).holds (nt A zs.length c) w := ⟨A, c, rfl, h.num hc hd hm⟩
theorem c_same (xs ys : List Nat) (b : Bool) (hb : decide (xs = ys) = b) : ∀ v u w, (Fact.num xs).holds v w → (Fact.num ys).holds u w → Calls Tryz.prog 45 #[v, u] w (Ret (Fact.eq (.bool b)) w) := by
  rintro v u w ⟨A, c, rfl, h⟩ ⟨B, d, rfl, k⟩
  exact (same_n h k b hb).mono fun e w' ⟨he, hb⟩ => ⟨_, he, hb, rfl⟩
theorem c_add (xs ys rs : List Nat) (hr : Nm.nat (Nm.val xs + Nm.val ys) = rs) (hm : rs.length ≤ 400) : ∀ v u w, (Fact.num xs).holds v w → (Fact.num ys).holds u w → Calls Tryz.prog 41 #[v, u] w (Ret (Fact.num rs) w) := by
  rintro v u w ⟨A, c, rfl, h⟩ ⟨B, d, rfl, k⟩
  exact (add_n h k rs hr).mono fun e w' ⟨A', c', he, hc, hf, hb⟩ => ⟨_, he, hb, num_of_fr hf hc (hr ▸ Nm.dig_nat _) hm⟩
theorem c_mul (xs ys rs : List Nat) (hr : Nm.nat (Nm.val xs * Nm.val ys) = rs) (hm : rs.length ≤ 400) : ∀ v u w, (Fact.num xs).holds v w → (Fact.num ys).holds u w → Calls Tryz.prog 74 #[v, u] w (Ret (Fact.num rs) w) := by
  rintro v u w ⟨A, c, rfl, h⟩ ⟨B, d, rfl, k⟩
  exact (mul_n h k rs hr).mono fun e w' ⟨A', c', he, hc, hf, hb⟩ => ⟨_, he, hb, num_of_fr hf hc (hr ▸ Nm.dig_nat _) hm⟩
theorem c_gcd (L : Nat) (hL : DivOk L) (xs ys rs : List Nat) (hl : Nm.tlen ys ≤ L) (hr : Nm.nat (Nat.gcd (Nm.val xs) (Nm.val ys)) = rs) (hm : rs.length ≤ 400) : ∀ v u w, (Fact.num xs).holds v w → (Fact.num ys).holds u w → Calls Tryz.prog 75 #[v, u] w (Ret (Fact.num rs) w) := by
  rintro v u w ⟨A, c, rfl, h⟩ ⟨B, d, rfl, k⟩
  exact (gcd_n L hL h k hl rs hr).mono fun e w' ⟨A', c', he, hc, hf, hb⟩ => ⟨_, he, hb, num_of_fr hf hc (hr ▸ Nm.dig_nat _) hm⟩
theorem c_bits (xs : List Nat) (n : Nat) (z : Int) (hn : Nm.blen (Nm.val xs) = n) (hz : (n : Int) = z) : ∀ v w, (Fact.num xs).holds v w → Calls Tryz.prog 81 #[v] w (Ret (fI z) w) := by
  rintro v w ⟨A, c, rfl, h⟩
  subst hz
  exact (bits_n h n hn).mono fun e w' ⟨he, hb⟩ => ⟨_, he, hb, rfl⟩
end Go.Proofs.YtjfehdkfogdpgaaGreatDoor
namespace Go.Proofs.YtjfehdkfogdpgaaGreatDoor
open Go.ChangeShapes Go.WideShapes Go.ChangeAt Go.RowKit
theorem Tryz.laidOut : laidOutB Tryz.prog = true := by kernel_rfl
theorem Tryz.own : ownKnob Tryz.prog.godebug = none := by kernel_rfl
section
variable {H : Type} {enc : TypeId × Value → H}
theorem cells35 : Tryz.prog.cellsOf 59 = 1 := by kernel_rfl
theorem cells24 : Tryz.prog.cellsOf 24 = 1 := by kernel_rfl
theorem post_true {f : Func} {s : ChangeSpec} {W W' : World} {args : Array Value} {ds : List (DataW H)} {before pa : List MemPlace} (hs : s.vars = []) (hrt : f.resultTypes = #[4])
    (hW : DataW.Whole enc Tryz.prog f.params.toList s.vars false W args.toList ds [] before) (hres : (s.fn H (ds ++ [])).results = [.lit (.bool true)]) (hvs : (s.fn H (ds ++ [])).vars = [])
    (hargs : DataW.TrodAll enc Tryz.prog W' 0 (fun b => decide (b < W.heap.size)) true f.params.toList args.toList (s.fn H (ds ++ [])).args pa) (hb : Below W.heap.size W W') :
    s.post enc Tryz.prog f false true false false W args (.bool true) W' := by
  refine ⟨ds, [], before, [], pa, [], hW, ?_, hargs, ?_, hb.frame _, fun h => by cases h⟩
  · rw [hres, hrt]
    exact trodAll_mk1 (shut_bool Tryz.underlying4 _)
  · rw [hs, hvs]
    rfl
end
structure Arg (w : World) (b : Nat) (A : Option Addr) (n c : Nat) (zs : List Nat) : Prop where
  lt : b < w.heap.size
  cell : w.cell? ⟨b, 0, none⟩ = some (.slice A n c)
  rd : Rd w A zs
theorem Arg.below {w w' : World} {b : Nat} {A : Option Addr} {n c : Nat} {zs : List Nat} (h : Arg w b A n c zs) (hb : Below w.heap.size w w') : Arg w' b A n c zs :=
  ⟨Nat.lt_of_lt_of_le h.lt hb.size, ((seen hb).1 _ _ h.lt).trans h.cell, h.rd.below hb⟩
theorem Arg.at_ {w : World} {A : Option Addr} {b n c : Nat} {zs : List Nat} (h : Rd w A zs) (hb : b = w.heap.size) : Arg (w.alloc (Obj.cells #[Value.slice A n c] 24)) b A n c zs := by
  subst hb
  exact ⟨by simp, by simp, h.below (one _ _)⟩
theorem Arg.var {w : World} {b : Nat} {A : Option Addr} {n c : Nat} {zs : List Nat} (h : Arg w b A n c zs) (hl : zs.length = n) (hc : n ≤ c) (hd : Nm.Dig zs) (hf : decide (n ≤ 12 ∧ Nm.tlen zs = n) = true) : Var w b A n c zs :=
  ⟨h.lt, h.cell, ⟨h.rd, hl, hc, hd, by have := of_decide_eq_true hf; omega⟩⟩
def Nm.Sz (k v : Nat) : Prop := v < 4294967296 ^ k
theorem Nm.Sz.val {zs : List Nat} (hd : Nm.Dig zs) (hf : decide (zs.length ≤ 12 ∧ Nm.tlen zs = zs.length) = true) : Nm.Sz 12 (Nm.val zs) :=
  Nat.lt_of_lt_of_le (Nm.val_lt hd) (Nat.pow_le_pow_right (by omega) (of_decide_eq_true hf).1)
theorem Nm.Sz.add {k l a b : Nat} (h : Nm.Sz k a) (h' : Nm.Sz l b) (hl : l ≤ k) : Nm.Sz (k + 1) (a + b) := by
  have h1 : b < 4294967296 ^ k := Nat.lt_of_lt_of_le h' (Nat.pow_le_pow_right (by omega) hl)
  have h2 : a < 4294967296 ^ k := h
  unfold Nm.Sz
  rw [Nat.pow_succ]
  omega
theorem Nm.Sz.mul {k l a b : Nat} (h : Nm.Sz k a) (h' : Nm.Sz l b) : Nm.Sz (k + l) (a * b) := by
  unfold Nm.Sz
  rw [Nat.pow_add]
  exact Nat.mul_lt_mul'' h h'
theorem Nm.Sz.len {k v : Nat} (h : Nm.Sz k v) (hk : k ≤ 400) : (Nm.nat v).length ≤ 400 := Nat.le_trans (Nm.nat_len h) hk
theorem Nm.Sz.mono {k a b : Nat} (h : Nm.Sz k a) (hb : b ≤ a) : Nm.Sz k b := Nat.lt_of_le_of_lt hb h
end Go.Proofs.YtjfehdkfogdpgaaGreatDoor
namespace Go.Proofs.YtjfehdkfogdpgaaGreatDoor
open Go.RowKit
section
variable {ops : Array Oper} {Q : Exit → Act → World → Prop} {F : Nat → Fact} {base : List Nat} {N : Nat} {o : Oper}
theorem ob_two (t s d : Nat) (v u r : Value) (hd : o.dst = some d) (hg : GuardOk ops F base N o) (hk : known ops base o t = true) (hk2 : known ops base o s = true) (ht : F t = Fact.eq v) (hs : F s = Fact.eq u) (hF : F d = Fact.eq r)
    (h : ∀ (a : Act) (w : World), a.eval (.tmp t) = v → a.eval (.tmp s) = u → (execOp a.eval o).run Tryz.prog w = .ok (.value r) w) : Ob ops Q F base N o :=
  ob_val hg fun a w hf => ⟨r, w, by
    have h1 := hf t hk
    have h2 := hf s hk2
    rw [ht] at h1
    rw [hs] at h2
    exact h a w h1 h2, Below.refl _ _, fun x hx => by
    rw [hd] at hx; injection hx with hx; subst hx; rw [hF]; rfl⟩
theorem ob_one (t d : Nat) (v r : Value) (hd : o.dst = some d) (hg : GuardOk ops F base N o) (hk : known ops base o t = true) (ht : F t = Fact.eq v) (hF : F d = Fact.eq r)
    (h : ∀ (a : Act) (w : World), a.eval (.tmp t) = v → (execOp a.eval o).run Tryz.prog w = .ok (.value r) w) : Ob ops Q F base N o :=
  ob_val hg fun a w hf => ⟨r, w, by
    have h1 := hf t hk
    rw [ht] at h1
    exact h a w h1, Below.refl _ _, fun x hx => by
    rw [hd] at hx; injection hx with hx; subst hx; rw [hF]; rfl⟩
theorem go_eql_bool (b c : Bool) (a : Act) (w : World) (t s : Nat) (o : Oper) (ho : o.op = .binOp .eql 4 (.tmp t) (.tmp s) 4) (h1 : a.eval (.tmp t) = .bool b) (h2 : a.eval (.tmp s) = .bool c) :
    (execOp a.eval o).run Tryz.prog w = .ok (.value (.bool (b == c))) w := by
  simp [execOp, ho, h1, h2]
  go_simp
end
end Go.Proofs.YtjfehdkfogdpgaaGreatDoor
namespace Go.Proofs.YtjfehdkfogdpgaaGreatDoor
open Go.RowKit
namespace Nm
def dg (zs : List Nat) (i : Nat) : Nat := zs.getD i 0
theorem dg_lt {zs : List Nat} (h : Dig zs) (i : Nat) : dg zs i < 4294967296 := by
  unfold dg
  rw [List.getD_eq_getElem?_getD]
  rcases Nat.lt_or_ge i zs.length with h1 | h1
  · rw [List.getElem?_eq_getElem h1]; exact h.at_ h1
  · rw [List.getElem?_eq_none h1]; exact by decide
theorem dg_in {zs : List Nat} {i : Nat} (h : i < zs.length) : dg zs i = zs[i] := by
  unfold dg; rw [List.getD_eq_getElem?_getD, List.getElem?_eq_getElem h]; rfl
theorem dg_out {zs : List Nat} {i : Nat} (h : zs.length ≤ i) : dg zs i = 0 := by
  unfold dg; rw [List.getD_eq_getElem?_getD, List.getElem?_eq_none h]; rfl
theorem val_take_dg (zs : List Nat) (k : Nat) : val (zs.take (k + 1)) = val (zs.take k) + 4294967296 ^ k * dg zs k := by
  rcases Nat.lt_or_ge k zs.length with h | h
  · rw [dg_in h, val_take_succ zs k h]
  · rw [dg_out h, List.take_of_length_le (by omega), List.take_of_length_le h, Nat.mul_zero, Nat.add_zero]
theorem val_tail (zs : List Nat) : val zs = dg zs 0 + 4294967296 * val zs.tail := by
  cases zs with
  | nil => rfl
  | cons z zs => rfl
theorem dg_tail (zs : List Nat) (i : Nat) : dg zs.tail i = dg zs (i + 1) := by
  cases zs with
  | nil => rfl
  | cons z zs => rfl
theorem dig_tail {zs : List Nat} (h : Dig zs) : Dig zs.tail := fun z hz => h z (List.mem_of_mem_tail hz)
theorem val_ext : ∀ (n : Nat) (xs ys : List Nat), xs.length ≤ n → ys.length ≤ n → (∀ j, dg xs j = dg ys j) → val xs = val ys := by
  intro n
  induction n with
  | zero =>
    intro xs ys h1 h2 _
    rw [List.eq_nil_of_length_eq_zero (by omega : xs.length = 0), List.eq_nil_of_length_eq_zero (by omega : ys.length = 0)]
  | succ n ih =>
    intro xs ys h1 h2 h
    rw [val_tail xs, val_tail ys, h 0, ih xs.tail ys.tail (by simp; omega) (by simp; omega) fun j => by rw [dg_tail, dg_tail, h]]
theorem lt_of_dg : ∀ (i : Nat) (xs ys : List Nat), Dig xs → Dig ys → (∀ j, i < j → dg xs j = dg ys j) → dg xs i < dg ys i → val xs < val ys := by
  intro i
  induction i with
  | zero =>
    intro xs ys hx hy h hd
    have := val_ext (max xs.length ys.length) xs.tail ys.tail (by simp; omega) (by simp; omega) fun j => by rw [dg_tail, dg_tail, h (j + 1) (by omega)]
    rw [val_tail xs, val_tail ys, this]
    omega
  | succ i ih =>
    intro xs ys hx hy h hd
    have := ih xs.tail ys.tail (dig_tail hx) (dig_tail hy) (fun j hj => by rw [dg_tail, dg_tail, h (j + 1) (by omega)]) (by rw [dg_tail, dg_tail]; exact hd)
    have h0 := dg_lt hx 0
    rw [val_tail xs, val_tail ys]
    omega
end Nm
def lay (ts : Array Value) (ds : List Nat) (v : Nat → Value) : Array Value := ds.foldl (fun ts d => ts.setIfInBounds d (v d)) ts
theorem lay_size (ds : List Nat) : ∀ (ts : Array Value) (v : Nat → Value), (lay ts ds v).size = ts.size := by
  induction ds with
  | nil => intro ts v; rfl
  | cons d ds ih => intro ts v; exact (ih _ v).trans (by simp)
theorem lay_other (ds : List Nat) : ∀ (ts : Array Value) (v : Nat → Value) (t : Nat), t ∉ ds → (lay ts ds v)[t]? = ts[t]? := by
  induction ds with
  | nil => intro ts v t _; rfl
  | cons d ds ih =>
    intro ts v t ht
    simp only [List.mem_cons, not_or] at ht
    exact (ih _ v t ht.2).trans (by rw [Array.getElem?_setIfInBounds, if_neg (Ne.symm ht.1)])
theorem lay_at (ds : List Nat) : ∀ (ts : Array Value) (v : Nat → Value) (t : Nat), t ∈ ds → t < ts.size → (lay ts ds v)[t]? = some (v t) := by
  induction ds with
  | nil => intro ts v t h; cases h
  | cons d ds ih =>
    intro ts v t ht hs
    by_cases hm : t ∈ ds
    · exact ih _ v t hm (by simpa using hs)
    · have htd : t = d := by
        rcases List.mem_cons.1 ht with h | h
        · exact h
        · exact absurd h hm
      subst htd
      exact (lay_other ds _ v t hm).trans (by rw [Array.getElem?_setIfInBounds, if_pos rfl, if_pos hs])
def dstsOk (l : List Oper) (ds : List Nat) : Bool := (l.all fun o => match o.dst with | some t => ds.contains t | none => true) && ds.all fun d => l.any fun o => o.dst == some d
theorem wp_region_on {Q : Exit → Act → World → Prop} {id : Nat} {l : List Oper} {a : Act} {w : World} (hm : Tryz.prog.follows .mixedOrders = true) (F : Nat → Fact) (base : List Nat) (N : Nat) (ds : List Nat) (hN : a.tmps.size = N) (hok : formOk l.toArray base N = true) (hds : dstsOk l ds = true)
    (hbase : ∀ t ∈ base, (F t).holds (a.tmps.getD t undef) w) (hstep : ∀ o ∈ l, Ob l.toArray Q F base N o)
    (hend : ∀ (v : Nat → Value) w', (∀ t ∈ ds, (F t).holds (v t) w') → Below w.heap.size w w' → Q .normal { tmps := lay a.tmps ds v, defers := a.defers } w') : (Code.region id l.toArray true).wp Tryz.prog Q a w := by
  refine wp_region_stable hm F base N hN hok hbase hstep fun a' w' hdef hsz hbs hall hoth hbel => ?_
  have hw : ∀ t ∈ ds, ∃ i, (l.toArray[i]?).bind Oper.dst = some t := fun t ht => by
    have h1 := hds
    simp only [dstsOk, Bool.and_eq_true] at h1
    have h2 := List.any_eq_true.1 (List.all_eq_true.1 h1.2 t ht)
    obtain ⟨o, ho, hd⟩ := h2
    obtain ⟨i, hi⟩ := List.getElem?_of_mem ho
    exact ⟨i, by rw [List.getElem?_toArray, hi]; exact (by simpa using hd)⟩
  have h := hend (fun t => a'.tmps.getD t undef) w' (fun t ht => by
    obtain ⟨i, hi⟩ := hw t ht
    exact hall i t hi) hbel
  have heq : a' = { tmps := lay a.tmps ds fun t => a'.tmps.getD t undef, defers := a.defers } := by
    obtain ⟨ts, df⟩ := a'
    have hdef' : df = a.defers := hdef
    subst hdef'
    congr 1
    have hsz' : ts.size = N := hsz
    refine Array.ext_getElem? fun t => ?_
    rcases Nat.lt_or_ge t N with hlt | hge
    · by_cases htd : t ∈ ds
      · rw [lay_at ds _ _ t htd (by omega), Array.getD_eq_getD_getElem?, Array.getElem?_eq_getElem (by omega)]; rfl
      · rw [lay_other ds _ _ t htd]
        have := hoth t fun i hi => by
          have h1 := hds
          simp only [dstsOk, Bool.and_eq_true] at h1
          rw [List.getElem?_toArray] at hi
          cases hl : l[i]? with
          | none => rw [hl] at hi; cases hi
          | some o =>
            rw [hl] at hi
            have h2 := List.all_eq_true.1 h1.1 o (List.mem_of_getElem? hl)
            have h3 : o.dst = some t := hi
            rw [h3] at h2
            exact htd (by simpa using h2)
        have h2 : ts.getD t undef = a.tmps.getD t undef := this
        rw [Array.getD_eq_getD_getElem?, Array.getD_eq_getD_getElem?, Array.getElem?_eq_getElem (by omega), Array.getElem?_eq_getElem (by omega)] at h2
        rw [Array.getElem?_eq_getElem (by omega), Array.getElem?_eq_getElem (by omega)]
        exact congrArg some h2
    · rw [Array.getElem?_eq_none (by omega), Array.getElem?_eq_none (by rw [lay_size]; omega)]
  rw [heq]
  exact h
def Ow (B : Nat) (w : World) (v : Value) (zs : List Nat) : Prop := w.ownsRow B 59 1 v zs.length (dcells zs)
theorem Ow.nil (B : Nat) (w : World) : Ow B w (.slice none 0 0) [] := World.ownsRow_nil _ _ _ _
theorem dcells_snoc (zs : List Nat) (z : Nat) : dcells (zs ++ [z]) = dcells zs ++ [.int .u32 (z : Int)] := by simp [dcells]
theorem Ow.other {B : Nat} {w w' : World} {v : Value} {zs : List Nat} (h : Ow B w v zs) (hb : Below w.heap.size w w') : Ow B w' v zs := by
  unfold Ow World.ownsRow at *
  refine ⟨h.1, ?_⟩
  rcases h.2 with h1 | ⟨g, cap, cur, h1, h2, h3, h4⟩
  · exact .inl h1
  · refine .inr ⟨g, cap, cur, h1, h2, ?_, h4⟩
    rw [hb.block g (Array.getElem?_eq_some_iff.1 h3).1]
    exact h3
theorem Ow.slice {B : Nat} {w : World} {v : Value} {zs : List Nat} (h : Ow B w v zs) : ∃ A c, v = .slice A zs.length c ∧ zs.length ≤ c ∧ Fr B w A zs := by
  have h0 := h
  rcases h.2 with ⟨h1, h2⟩ | ⟨g, cap, cur, h1, h2, h3, h4, h5, h6, h7⟩
  · refine ⟨none, 0, by rw [h1, h2], by omega, .inl (List.eq_nil_of_length_eq_zero h2)⟩
  · subst h1
    refine ⟨some ⟨g, 0, none⟩, cap, rfl, h4, .inr ⟨g, 0, rfl, h2, fun i hi => ?_, fun i hi => World.ownsRow.frozenAt h0 _⟩⟩
    have := World.ownsRow.cellAt h0 i (by omega)
    rw [Nat.zero_add, this]
    simp [dcells, List.getElem?_eq_getElem hi]
theorem wpList_push {w : World} {ops : Array Oper} {rest : List Oper} {o : Oper} {a : Act} {Q : Exit → Act → World → Prop} (hgd : o.guard = none) (s x : Operand)
    (ho : o.op = .call { callee := .builtin .append, args := #[s, x], argTypes := #[22, 22] }) (B : Nat) (v : Value) (zs : List Nat) (z : Nat) (ad : Addr) (d : Nat) (hs : a.eval s = v) (hx : a.eval x = .slice (some ad) 1 d)
    (hown : Ow B w v zs) (hc : w.cell? ad = some (.int .u32 (z : Int))) (hm : zs.length ≤ 100000) (hB : B ≤ w.heap.size)
    (h : ∀ v' w', Ow B w' v' (zs ++ [z]) → w.grownBy w' v.ownBlock → (v'.ownBlock = v.ownBlock ∨ v'.ownBlock = some w.heap.size) → wpList Tryz.prog ops Q rest (a.put o.dst v') w') : wpList Tryz.prog ops Q (o :: rest) a w := by
  obtain ⟨i, hi, hz, hs5, hby⟩ := info35_parts
  obtain ⟨v', w', hrun, h1, h2, _, h3⟩ := run_append_own_at (P := Tryz.prog) w B 22 o.type 59 i _ 1 4 Tryz.underlying22 hi hz hs5 hby rfl (by omega) v zs.length (dcells zs) hown ad 1 d [.int .u32 (z : Int)] rfl
    (by intro j u hj
        cases j with
        | zero => simp at hj; subst hj; rw [Addr.add_zero']; exact hc
        | succ j => simp at hj) (by simp [Value.oneCell']) (by simp only [maxLen]; omega) (by omega) hB
  refine wpList_append32 hgd s x ho hs hx hrun (h v' w' ?_ h2 h3)
  unfold Ow
  rw [dcells_snoc, List.length_append]
  exact h1
theorem wrap64 {x : Nat} (h : x < 4294967296) : IntKind.u64.wrap (x : Int) = (x : Int) := by
  simp [IntKind.wrap, IntKind.signed, IntKind.bits]
  omega
set_option maxHeartbeats 400000 in
theorem digit_any (A : Option Addr) (n c i : Nat) (zs : List Nat) (w : World) (h : Rd w A zs) (hl : zs.length = n) (hm : n ≤ 1000) (hzd : Nm.Dig zs) :
    Calls Tryz.prog 82 #[nt A n c, .int .i64 (i : Int)] w fun e w' => e = .returned (.int .u64 (Nm.dg zs i : Int)) ∧ Below w.heap.size w w' := by
  subst hl
  rcases Nat.lt_or_ge i zs.length with hi | hi
  · obtain ⟨g, off, rfl, hr⟩ := (h.alloc (Obj.cells #[Value.slice A zs.length c] 24)).at_ hi
    have hc := hr i hi
    have hd := Nm.dg_in hi
    have Hd := Lib.hid hd
    clear hr hd
    go_enter Tryz.func82, Tryz.ntmps82
    go_wp2_with fail
    go_ret
    exact ⟨ret_int (by rw [Hd.out]; exact wrap64 (hzd.at_ hi)), one _ _⟩
  · have hd := Nm.dg_out hi
    have Hd := Lib.hid hd
    clear hd
    go_enter Tryz.func82, Tryz.ntmps82
    go_wp2_with fail
    go_ret
    exact ⟨by rw [Hd.out]; rfl, one _ _⟩
end Go.Proofs.YtjfehdkfogdpgaaGreatDoor
namespace Go.Proofs.YtjfehdkfogdpgaaGreatDoor
open Go.RowKit
def maskOf (acc : List Nat) (es : List Nat) : Nat := es.foldl (fun m e => m ||| (1 <<< e) ||| acc.getD e 0) 0
def masks : List Nat → List (List Nat) → List Nat
  | acc, [] => acc
  | acc, es :: ess => masks (acc ++ [maskOf acc es]) ess
def edgesOf (o : Oper) : List Nat := (o.after.toList.filter fun e => Region.binds .any e).map fun e => e.on
theorem edgesOf_mem {o : Oper} {j : Nat} : j ∈ edgesOf o ↔ ∃ e ∈ o.after, Region.binds .any e = true ∧ e.on = j := by
  simp [edgesOf, and_assoc]
def seqC (ops : List Oper) (k : Nat) : Bool :=
  true && (List.range ops.length).all fun i => decide (i < k) || (List.range i).all fun j => ((masks [] (ops.map edgesOf)).getD i 0).testBit j
theorem maskOf_sound (L : Nat → Prop) (acc : List Nat) (hacc : ∀ e j, (acc.getD e 0).testBit j = true → L e → L j) :
    ∀ (es : List Nat) (m : Nat), (∀ e ∈ es, L e) → (∀ j, m.testBit j = true → L j) → ∀ j, (es.foldl (fun m e => m ||| (1 <<< e) ||| acc.getD e 0) m).testBit j = true → L j := by
  intro es
  induction es with
  | nil => intro m _ hm j hj; exact hm j hj
  | cons e es ih =>
    intro m hes hm j hj
    refine ih _ (fun x hx => hes x (List.mem_cons_of_mem _ hx)) (fun i hi => ?_) j hj
    have he := hes e (List.mem_cons_self ..)
    simp only [Nat.testBit_or, Bool.or_eq_true] at hi
    rcases hi with (hi | hi) | hi
    · exact hm i hi
    · rw [Nat.one_shiftLeft, Nat.testBit_two_pow] at hi
      have : e = i := of_decide_eq_true hi
      subst this
      exact he
    · exact hacc e i hi he
theorem masks_sound (L : Nat → Prop) (ess0 : List (List Nat)) (hcl : ∀ i es, ess0[i]? = some es → L i → ∀ e ∈ es, L e) :
    ∀ (ess : List (List Nat)) (acc : List Nat), (∀ i, ess[i]? = ess0[acc.length + i]?) → (∀ i j, (acc.getD i 0).testBit j = true → (∀ es, ess0[i]? = some es → ∀ e ∈ es, L e) → L j) →
      ∀ i j, ((masks acc ess).getD i 0).testBit j = true → (∀ es, ess0[i]? = some es → ∀ e ∈ es, L e) → L j := by
  intro ess
  induction ess with
  | nil => intro acc _ h; exact h
  | cons es ess ih =>
    intro acc heq h
    refine ih (acc ++ [maskOf acc es]) (fun i => ?_) (fun i j hj hL => ?_)
    · have := heq (i + 1)
      simp only [List.length_append, List.length_cons, List.length_nil]
      rw [show acc.length + (0 + 1) + i = acc.length + (i + 1) from by omega, ← this]
      simp
    · rcases Nat.lt_trichotomy i acc.length with h1 | h1 | h1
      · rw [List.getD_eq_getElem?_getD, List.getElem?_append_left h1, ← List.getD_eq_getElem?_getD] at hj
        exact h i j hj hL
      · subst h1
        rw [List.getD_eq_getElem?_getD, List.getElem?_append_right (Nat.le_refl _)] at hj
        simp only [Nat.sub_self, List.getElem?_cons_zero, Option.getD_some] at hj
        have he : ess0[acc.length]? = some es := by
          have := heq 0
          rw [Nat.add_zero] at this
          rw [← this]
          rfl
        exact maskOf_sound L acc (fun e j' hj' hLe => h e j' hj' fun es' hes' => hcl e es' hes' hLe) es 0 (hL es he) (fun _ hb => by simp at hb) j hj
      · rw [List.getD_eq_getElem?_getD, List.getElem?_eq_none (by simp; omega)] at hj
        simp at hj
section
variable {ops : Array Oper} {Q : Exit → Act → World → Prop} {F : Nat → Fact} {base : List Nat} {N : Nat} {D : List Nat}
theorem seqC_at {k : Nat} (h : seqC ops.toList k = true) (L : Nat → Prop) (hcl : ∀ i o, ops[i]? = some o → L i → ∀ e ∈ o.after, Region.binds .any e = true → L e.on)
    {i : Nat} {o : Oper} (ho : ops[i]? = some o) (hk : k ≤ i) (hL : ∀ e ∈ o.after, Region.binds .any e = true → L e.on) : ∀ j, j < i → L j := by
  intro j hj
  have hi : i < ops.size := (Array.getElem?_eq_some_iff.1 ho).1
  simp only [seqC, Bool.and_eq_true] at h
  have h1 := List.all_eq_true.1 h.2 i (List.mem_range.2 (by simpa using hi))
  rw [Bool.or_eq_true] at h1
  rcases h1 with h1 | h1
  · have := of_decide_eq_true h1
    omega
  · have h2 := List.all_eq_true.1 h1 j (List.mem_range.2 hj)
    have hmap : ∀ (m : Nat) (es : List Nat), (ops.toList.map edgesOf)[m]? = some es → ∃ o, ops[m]? = some o ∧ edgesOf o = es := fun m es hm => by
      rw [List.getElem?_map, Array.getElem?_toList] at hm
      cases hq : ops[m]? with
      | none => rw [hq] at hm; cases hm
      | some o' => rw [hq] at hm; exact ⟨o', rfl, by simpa using hm⟩
    refine masks_sound L (ops.toList.map edgesOf) (fun m es hm hLm e he => ?_) _ [] (fun m => by simp) (fun m j' hb => by simp at hb) i j h2 fun es hes e he => ?_
    · obtain ⟨o', ho', rfl⟩ := hmap m es hm
      obtain ⟨e', he', hb', rfl⟩ := edgesOf_mem.1 he
      exact hcl m o' ho' hLm e' he' hb'
    · obtain ⟨o', ho', rfl⟩ := hmap i es hes
      rw [ho] at ho'
      injection ho' with ho'
      subst ho'
      obtain ⟨e', he', hb', rfl⟩ := edgesOf_mem.1 he
      exact hL e' he' hb'
def Closed (ops : Array Oper) (listed : Array Bool) : Prop := ∀ i o, ops[i]? = some o → listed.getD i false = true → ∀ e ∈ o.after, Region.binds .any e = true → listed.getD e.on false = true
theorem listed_set {listed : Array Bool} {i j : Nat} (hi : i < listed.size) : (listed.setIfInBounds i true).getD j false = true ↔ j = i ∨ listed.getD j false = true := by
  by_cases hji : j = i
  · subst hji
    simp [Array.getD_eq_getD_getElem?, hi]
  · simp only [Array.getD_eq_getD_getElem?, Array.getElem?_setIfInBounds, if_neg (Ne.symm hji), hji, false_or]
theorem Closed.set {listed : Array Bool} (h : Closed ops listed) (hs : listed.size = ops.size) {i : Nat} {o : Oper} (ho : ops[i]? = some o) (he : ∀ e ∈ o.after, Region.binds .any e = true → listed.getD e.on false = true) : Closed ops (listed.setIfInBounds i true) := by
  have hlt : i < listed.size := by rw [hs]; exact (Array.getElem?_eq_some_iff.1 ho).1
  intro j o' ho' hl e hm hb
  rw [listed_set hlt] at hl ⊢
  rcases hl with rfl | hl
  · rw [ho] at ho'
    injection ho' with ho'
    subst ho'
    exact .inr (he e hm hb)
  · exact .inr (h j o' ho' hl e hm hb)
theorem flip_getD {listed : Array Bool} {i : Nat} {b : Bool} (h : listed.getD i b = !b) (c : Bool) : listed.getD i c = !b := by
  rw [Array.getD_eq_getD_getElem?] at h ⊢
  cases hl : listed[i]? with
  | none => rw [hl] at h; cases b <;> cases h
  | some x => rw [hl] at h; exact h
theorem wpAny_seqTail {k0 : Nat} (hok : seqC ops.toList k0 = true) (hback : ∀ i o, ops[i]? = some o → ∀ e ∈ o.after, Region.binds .any e = true → e.on < i) : ∀ (m fuel k : Nat) (listed : Array Bool) (a : Act) (w : World), k + m = ops.size → k0 ≤ k → (∀ i, i < k → listed.getD i false = true) → (∀ i, k ≤ i → i < ops.size → listed.getD i true = false) → listed.size = ops.size → Closed ops listed →
    wpList Tryz.prog ops Q (ops.toList.drop k) a w → m ≤ fuel → wpAny Tryz.prog .any ops Q fuel listed a w := by
  intro m
  induction m with
  | zero =>
    intro fuel k listed a w hk _ hl _ hs _ hw _
    have hr : Region.ready .any ops listed = [] := by
      cases hr : Region.ready .any ops listed with
      | nil => rfl
      | cons i rs =>
        exfalso
        have hm : i ∈ Region.ready .any ops listed := by rw [hr]; simp
        obtain ⟨h1, o, ho, _⟩ := mem_ready.1 hm
        have hi := (Array.getElem?_eq_some_iff.1 ho).1
        have h2 := hl i (by omega)
        have h3 : listed.getD i false = false := flip_getD (b := true) h1 false
        rw [h3] at h2
        cases h2
    have hq : Q .normal a w := by
      rw [List.drop_of_length_le (by simp; omega)] at hw
      exact hw
    cases fuel with
    | zero => exact ⟨hr, hq⟩
    | succ fuel => exact ⟨fun _ => hq, fun i hi => by rw [hr] at hi; cases hi⟩
  | succ m ih =>
    intro fuel k listed a w hk hk0 hl hn hs hcl hw hf
    obtain ⟨fuel, rfl⟩ : ∃ f, fuel = f + 1 := ⟨fuel - 1, by omega⟩
    have hlt : k < ops.size := by omega
    have hok' : ops[k]? = some ops[k] := Array.getElem?_eq_getElem hlt
    have hready : k ∈ Region.ready .any ops listed := mem_ready.2 ⟨hn k (Nat.le_refl _) hlt, ops[k], hok', fun e he hb => hl _ (hback k _ hok' e he hb)⟩
    refine ⟨fun h => (by rw [h] at hready; cases hready), fun i hi => ?_⟩
    obtain ⟨h1, o, ho, hedges⟩ := mem_ready.1 hi
    have hil := (Array.getElem?_eq_some_iff.1 ho).1
    have hik : i = k := by
      have h3 : listed.getD i false = false := flip_getD (b := true) h1 false
      rcases Nat.lt_trichotomy i k with h | h | h
      · rw [hl i h] at h3; cases h3
      · exact h
      · exfalso
        have h4 := seqC_at hok (fun j => listed.getD j false = true) (fun j o' ho' hj => hcl j o' ho' hj) ho (by omega) hedges k h
        have h5 := hn k (Nat.le_refl _) hlt
        have h6 : listed.getD k false = false := flip_getD (b := true) h5 false
        rw [h6] at h4
        cases h4
    subst hik
    have hd : ops.toList.drop i = o :: ops.toList.drop (i + 1) := by
      have h7 : i < ops.toList.length := by simpa using hil
      rw [List.drop_eq_getElem_cons h7]
      have h8 := (Array.getElem?_eq_some_iff.1 ho).2
      simp [h8]
    rw [hd] at hw
    have hnext : ∀ a' w', wpList Tryz.prog ops Q (ops.toList.drop (i + 1)) a' w' → wpAny Tryz.prog .any ops Q fuel (listed.setIfInBounds i true) a' w' := fun a' w' h' => by
      refine ih fuel (i + 1) _ a' w' (by omega) (by omega) (fun j hj => ?_) (fun j hj1 hj2 => ?_) (by simpa using hs) (hcl.set hs ho hedges) h' (by omega)
      · by_cases hji : j = i
        · subst hji
          simp [Array.getD_eq_getD_getElem?, hs, hlt]
        · simpa only [Array.getD_eq_getD_getElem?, Array.getElem?_setIfInBounds, if_neg (Ne.symm hji)] using hl j (by omega)
      · have hji : j ≠ i := by omega
        simpa only [Array.getD_eq_getD_getElem?, Array.getElem?_setIfInBounds, if_neg (Ne.symm hji)] using hn j (by omega) hj2
    unfold wpOp
    rw [ho]
    unfold wpList at hw
    show if Region.wanted o (yielded ops a.tmps) = true then _ else _
    split
    · rename_i hwant
      rw [if_pos hwant] at hw
      exact hw.imp (Oper.wp_mono hnext) id
    · rename_i hwant
      rw [if_neg hwant] at hw
      exact hnext _ _ hw
def Obn (ops : Array Oper) (Q : Exit → Act → World → Prop) (F : Nat → Fact) (base : List Nat) (N : Nat) (D : List Nat) (o : Oper) : Prop := ∀ (a : Act) (w : World) (K : Act → World → Prop), a.tmps.size = N → (∀ t ∈ base, (F t).holds (a.tmps.getD t undef) w) →
  (∀ e ∈ o.after, Region.binds .any e = true → ∀ t, (ops[e.on]?).bind Oper.dst = some t → (F t).holds (a.tmps.getD t undef) w) →
  (∀ v w', Below w.heap.size w w' → (∀ t, o.dst = some t → (F t).holds v w') → (∀ t ∈ D, o.dst = some t → v = .pointer (some ⟨w.heap.size, 0, none⟩) ∧ w.heap.size < w'.heap.size) → K (a.put o.dst v) w') →
  (if Region.wanted o (yielded ops a.tmps) = true then Oper.wp Tryz.prog o a w K Q else K (a.put o.dst undef) w)
theorem Ob.new_ {o : Oper} (h : Ob ops Q F base N o) (hD : (match o.dst with | some t => D.contains t | none => false) = false) : Obn ops Q F base N D o := by
  intro a w K hN hb hp hK
  refine h a w K hN hb hp fun v w' hb' hF => hK v w' hb' hF fun t ht hd => ?_
  rw [hd] at hD
  have h1 : D.contains t = true := List.contains_iff_mem.2 ht
  have h2 : D.contains t = false := hD
  rw [h1] at h2
  cases h2
def News (g : Nat) (D : List Nat) (ops : Array Oper) (listed : Array Bool) (a : Act) (w : World) : Prop :=
  (∀ s ∈ D, ∀ i, listed.getD i false = true → (ops[i]?).bind Oper.dst = some s → ∃ b, a.tmps.getD s undef = .pointer (some ⟨b, 0, none⟩) ∧ g ≤ b ∧ b < w.heap.size) ∧
  (∀ s ∈ D, ∀ t ∈ D, s ≠ t → ∀ i k, listed.getD i false = true → (ops[i]?).bind Oper.dst = some s → listed.getD k false = true → (ops[k]?).bind Oper.dst = some t → a.tmps.getD s undef ≠ a.tmps.getD t undef)
theorem News.step (hok : formOk ops base N = true) {g : Nat} {listed : Array Bool} {a : Act} {w w' : World} (h : News g D ops listed a w) (hs : listed.size = ops.size) (hN : a.tmps.size = N) (hg : g ≤ w.heap.size) {i : Nat} {o : Oper} (ho : ops[i]? = some o) {v : Value}
    (hb : Below w.heap.size w w') (hv : ∀ t ∈ D, o.dst = some t → v = .pointer (some ⟨w.heap.size, 0, none⟩) ∧ w.heap.size < w'.heap.size) : News g D ops (listed.setIfInBounds i true) (a.put o.dst v) w' := by
  have hlt : i < listed.size := by rw [hs]; exact (Array.getElem?_eq_some_iff.1 ho).1
  obtain ⟨_, hdst⟩ := formOk_at hok ho
  have hval : ∀ s ∈ D, ∀ j, (listed.setIfInBounds i true).getD j false = true → (ops[j]?).bind Oper.dst = some s → (j = i ∧ o.dst = some s ∧ (a.put o.dst v).tmps.getD s undef = .pointer (some ⟨w.heap.size, 0, none⟩) ∧ w.heap.size < w'.heap.size) ∨
      (listed.getD j false = true ∧ (a.put o.dst v).tmps.getD s undef = a.tmps.getD s undef) := fun s hsD j hj hjs => by
    by_cases hji : j = i
    · subst hji
      rw [ho] at hjs
      have hjs' : o.dst = some s := hjs
      obtain ⟨h1, h2⟩ := hv s hsD hjs'
      refine .inl ⟨rfl, hjs', ?_, h2⟩
      rw [hjs', getD_put_same (by rw [hN]; exact (hdst s hjs').1)]
      exact h1
    · refine .inr ⟨((listed_set hlt).1 hj).resolve_left hji, ?_⟩
      exact getD_put_other fun e => (hdst s e).2.2 j hji hjs
  refine ⟨fun s hsD j hj hjs => ?_, fun s hsD t htD hne j k hj hjs hk hkt => ?_⟩
  · rcases hval s hsD j hj hjs with ⟨_, _, h1, h2⟩ | ⟨h1, h2⟩
    · exact ⟨_, h1, hg, h2⟩
    · obtain ⟨b, h3, h4, h5⟩ := h.1 s hsD j h1 hjs
      exact ⟨b, h2.trans h3, h4, Nat.lt_of_lt_of_le h5 hb.size⟩
  · rcases hval s hsD j hj hjs with ⟨rfl, h0, h1, _⟩ | ⟨h1, h2⟩
    · rcases hval t htD k hk hkt with ⟨rfl, h5, _, _⟩ | ⟨h5, h6⟩
      · rw [h0] at h5
        injection h5 with h5
        exact absurd h5 hne
      · obtain ⟨b, h7, _, h8⟩ := h.1 t htD k h5 hkt
        rw [h1, h6, h7]
        intro e
        injection e with e
        injection e with e
        injection e with e
        omega
    · rcases hval t htD k hk hkt with ⟨rfl, _, h5, _⟩ | ⟨h5, h6⟩
      · obtain ⟨b, h7, _, h8⟩ := h.1 s hsD j h1 hjs
        rw [h5, h2, h7]
        intro e
        injection e with e
        injection e with e
        injection e with e
        omega
      · rw [h2, h6]
        exact h.2 s hsD t htD hne j k h1 hjs h5 hkt
theorem wpAny_seqFirst {n g : Nat} (hok : formOk ops base N = true) (hsq : seqC ops.toList n = true) (hn : n ≤ ops.size) {a0 : Act} {w0 : World} (hg : g = w0.heap.size) (hstep : ∀ i o, i < n → ops[i]? = some o → Obn ops Q F base N D o)
    (hend : ∀ listed a w, a.defers = a0.defers → a.tmps.size = N → (∀ t ∈ base, (F t).holds (a.tmps.getD t undef) w) → (∀ (i t : Nat), i < n → (ops[i]?).bind Oper.dst = some t → (F t).holds (a.tmps.getD t undef) w) →
      (∀ (t : Nat), (∀ (i : Nat), i < n → (ops[i]?).bind Oper.dst ≠ some t) → a.tmps.getD t undef = a0.tmps.getD t undef) → Below w0.heap.size w0 w → (∀ i, i < n → listed.getD i false = true) → News g D ops listed a w → wpList Tryz.prog ops Q (ops.toList.drop n) a w) :
    ∀ (fuel : Nat) (listed : Array Bool) (a : Act) (w : World), listed.size = ops.size → a.tmps.size = N → a.defers = a0.defers → (∀ t ∈ base, (F t).holds (a.tmps.getD t undef) w) →
      (∀ (i t : Nat), listed.getD i false = true → (ops[i]?).bind Oper.dst = some t → (F t).holds (a.tmps.getD t undef) w) → (∀ (t : Nat), (∀ (i : Nat), i < n → (ops[i]?).bind Oper.dst ≠ some t) → a.tmps.getD t undef = a0.tmps.getD t undef) →
      Below w0.heap.size w0 w → (∀ i, n ≤ i → i < ops.size → listed.getD i true = false) → Closed ops listed → News g D ops listed a w → left_ listed ops.size ≤ fuel → wpAny Tryz.prog .any ops Q fuel listed a w := by
  have hback : ∀ i o, ops[i]? = some o → ∀ e ∈ o.after, Region.binds .any e = true → e.on < i := fun i o ho => (formOk_at hok ho).1
  intro fuel
  induction fuel with
  | zero =>
    intro listed a w hs hN hd hb hdone hoth hbel hrest hcl hnew hl
    by_cases hall : ∀ i, i < n → listed.getD i false = true
    · refine wpAny_seqTail hsq hback (ops.size - n) 0 n listed a w (by omega) (Nat.le_refl _) hall hrest hs hcl (hend listed a w hd hN hb (fun i t hi ht => hdone i t (hall i hi) ht) hoth hbel hall hnew) ?_
      rcases Nat.lt_or_ge n ops.size with h | h
      · exfalso
        have := left_step h hs (hrest n (Nat.le_refl _) h)
        omega
      · omega
    · exfalso
      apply hall
      intro i hi
      cases hg' : listed.getD i false with
      | true => rfl
      | false =>
        exfalso
        have hg' : listed.getD i true = false := by
          rw [Array.getD_eq_getD_getElem?, Array.getElem?_eq_getElem (by omega)] at hg' ⊢
          exact hg'
        have := left_step (by omega : i < ops.size) hs hg'
        omega
  | succ fuel ih =>
    intro listed a w hs hN hd hb hdone hoth hbel hrest hcl hnew hl
    by_cases hall : ∀ i, i < n → listed.getD i false = true
    · refine wpAny_seqTail hsq hback (ops.size - n) (fuel + 1) n listed a w (by omega) (Nat.le_refl _) hall hrest hs hcl (hend listed a w hd hN hb (fun i t hi ht => hdone i t (hall i hi) ht) hoth hbel hall hnew) ?_
      refine Nat.le_trans ?_ hl
      unfold left_
      have e : ops.size - n = ((List.range' n (ops.size - n)).filter fun i => !listed.getD i true).length := by
        rw [List.filter_eq_self.2]
        · simp
        · intro i hi
          have := List.mem_range'.1 hi
          rw [hrest i (by omega) (by omega)]; rfl
      rw [e]
      refine List.Sublist.length_le (List.Sublist.filter _ ?_)
      rw [List.range_eq_range']
      have h5 : List.range' 0 ops.size = List.range' 0 n ++ List.range' n (ops.size - n) := by
        have := List.range'_append (s := 0) (m := n) (n := ops.size - n) (step := 1)
        simp only [Nat.zero_add, Nat.one_mul] at this
        rw [this, Nat.add_sub_of_le hn]
      rw [h5]
      exact List.sublist_append_right _ _
    · refine ⟨fun hr => ?_, fun i hi => ?_⟩
      · exfalso
        exact hall fun i hi => all_listed hok hs hr i (by omega)
      · obtain ⟨h1, o, ho, hedges⟩ := mem_ready.1 hi
        have hil := (Array.getElem?_eq_some_iff.1 ho).1
        have hin : i < n := by
          rcases Nat.lt_or_ge i n with h | h
          · exact h
          · exact absurd (fun j hj => seqC_at hsq (fun j => listed.getD j false = true) (fun j o' ho' hj => hcl j o' ho' hj) ho h hedges j (by omega)) hall
        obtain ⟨_, hdst⟩ := formOk_at hok ho
        refine wpOp_step ho fun K' hK => hstep i o hin ho a w K' hN hb (fun e he hb' t het => hdone e.on t (hedges e he hb') het) fun v w' hb' hF hv => hK _ _ ?_
        refine ih _ _ _ (by simpa using hs) ?_ ?_ (fun t ht => ?_) (fun j t hj hjt => ?_) (fun t ht => ?_) (up hbel hb') (fun j hj1 hj2 => ?_) (hcl.set hs ho hedges) (hnew.step hok hs hN (by rw [hg]; exact hbel.size) ho hb' hv) ?_
        · cases o.dst <;> simpa [Act.put] using hN
        · cases o.dst <;> simpa [Act.put] using hd
        · rw [getD_put_other (fun e => (hdst t e).2.1 ht)]
          exact (F t).stable _ _ _ (hb t ht) hb'
        · by_cases hji : j = i
          · subst hji
            rw [ho] at hjt
            have hjt' : o.dst = some t := hjt
            rw [hjt', getD_put_same (by rw [hN]; exact (hdst t hjt').1)]
            exact hF t hjt'
          · have hl' : listed.getD j false = true := by
              simpa only [Array.getD_eq_getD_getElem?, Array.getElem?_setIfInBounds, if_neg (Ne.symm hji)] using hj
            rw [getD_put_other (fun e => (hdst t e).2.2 j hji hjt)]
            exact (F t).stable _ _ _ (hdone j t hl' hjt) hb'
        · rw [getD_put_other (fun e => ht i hin (by rw [ho]; exact e))]
          exact hoth t ht
        · simpa only [Array.getD_eq_getD_getElem?, Array.getElem?_setIfInBounds, if_neg (by omega : ¬ i = j)] using hrest j hj1 hj2
        · have := left_step hil hs h1
          omega
end
theorem wp_region_seq {Q : Exit → Act → World → Prop} {id : Nat} {l : List Oper} {a : Act} {w : World} (hm : Tryz.prog.follows .mixedOrders = true) (F : Nat → Fact) (base D : List Nat) (N n : Nat) (ds : List Nat) (hN : a.tmps.size = N) (hok : formOk l.toArray base N = true) (hsq : seqC l n = true) (hn : n ≤ l.length) (hds : dstsOk (l.take n) ds = true) (hD : (D.all fun d => ds.contains d) = true)
    (hbase : ∀ t ∈ base, (F t).holds (a.tmps.getD t undef) w) (hstep : ∀ o ∈ l.take n, Obn l.toArray Q F base N D o)
    (hend : ∀ (v : Nat → Value) w', (∀ t ∈ ds, (F t).holds (v t) w') → Below w.heap.size w w' → (∀ s ∈ D, ∃ b, v s = .pointer (some ⟨b, 0, none⟩) ∧ w.heap.size ≤ b ∧ b < w'.heap.size) → (∀ s ∈ D, ∀ t ∈ D, s ≠ t → v s ≠ v t) →
      wpList Tryz.prog l.toArray Q (l.drop n) { tmps := lay a.tmps ds v, defers := a.defers } w') : (Code.region id l.toArray true).wp Tryz.prog Q a w := by
  have hnone : ∀ i, (Array.replicate l.length false).getD i false = true → False := fun i hi => by
    rw [Array.getD_eq_getD_getElem?, Array.getElem?_replicate] at hi
    split at hi <;> simp at hi
  refine wp_region_any hm (wpAny_seqFirst (a0 := a) (w0 := w) (n := n) (D := D) hok (by simpa using hsq) (by simpa using hn) rfl (fun i o hi ho => hstep o ?_) ?_ _ _ _ _ (by simp) hN rfl (fun t ht => ?_) (fun i t hi _ => (hnone i hi).elim) (fun _ _ => rfl) (Below.refl _ _).drew (fun i hi1 hi2 => ?_) (fun i _ _ hi => (hnone i hi).elim) ⟨fun _ _ i hi => (hnone i hi).elim, fun _ _ _ _ _ i _ hi => (hnone i hi).elim⟩ ?_)
  · rw [List.getElem?_toArray] at ho
    refine List.mem_of_getElem? (i := i) ?_
    rw [List.getElem?_take, if_pos hi, ho]
  · intro listed a' w' hdef hsz hbs hall hoth hbel hlst hnews
    have hw : ∀ t ∈ ds, ∃ i, i < n ∧ (l.toArray[i]?).bind Oper.dst = some t := fun t ht => by
      have h1 := hds
      simp only [dstsOk, Bool.and_eq_true] at h1
      obtain ⟨o, ho, hd⟩ := List.any_eq_true.1 (List.all_eq_true.1 h1.2 t ht)
      obtain ⟨i, hi⟩ := List.getElem?_of_mem ho
      have hlt : i < (l.take n).length := (List.getElem?_eq_some_iff.1 hi).1
      have hin : i < n := by rw [List.length_take] at hlt; omega
      rw [List.getElem?_take, if_pos hin] at hi
      exact ⟨i, hin, by rw [List.getElem?_toArray, hi]; exact (by simpa using hd)⟩
    have hDs : ∀ s ∈ D, s ∈ ds := fun s hs => List.contains_iff_mem.1 (List.all_eq_true.1 hD s hs)
    have h := hend (fun t => a'.tmps.getD t undef) w' (fun t ht => by
      obtain ⟨i, hin, hi⟩ := hw t ht
      exact hall i t hin hi) hbel (fun s hs => by
      obtain ⟨i, hin, hi⟩ := hw s (hDs s hs)
      exact hnews.1 s hs i (hlst i hin) hi) (fun s hs t ht hne => by
      obtain ⟨i, hin, hi⟩ := hw s (hDs s hs)
      obtain ⟨k, hkn, hk⟩ := hw t (hDs t ht)
      exact hnews.2 s hs t ht hne i k (hlst i hin) hi (hlst k hkn) hk)
    have heq : a' = { tmps := lay a.tmps ds fun t => a'.tmps.getD t undef, defers := a.defers } := by
      obtain ⟨ts, df⟩ := a'
      have hdef' : df = a.defers := hdef
      subst hdef'
      congr 1
      have hsz' : ts.size = N := hsz
      refine Array.ext_getElem? fun t => ?_
      rcases Nat.lt_or_ge t N with hlt | hge
      · by_cases htd : t ∈ ds
        · rw [lay_at ds _ _ t htd (by omega), Array.getD_eq_getD_getElem?, Array.getElem?_eq_getElem (by omega)]; rfl
        · rw [lay_other ds _ _ t htd]
          have := hoth t fun i hin hi => by
            have h1 := hds
            simp only [dstsOk, Bool.and_eq_true] at h1
            rw [List.getElem?_toArray] at hi
            cases hl : l[i]? with
            | none => rw [hl] at hi; cases hi
            | some o =>
              rw [hl] at hi
              have hm' : o ∈ l.take n := List.mem_of_getElem? (i := i) (by rw [List.getElem?_take, if_pos hin, hl])
              have h2 := List.all_eq_true.1 h1.1 o hm'
              have h3 : o.dst = some t := hi
              rw [h3] at h2
              exact htd (by simpa using h2)
          have h2 : ts.getD t undef = a.tmps.getD t undef := this
          rw [Array.getD_eq_getD_getElem?, Array.getD_eq_getD_getElem?, Array.getElem?_eq_getElem (by omega), Array.getElem?_eq_getElem (by omega)] at h2
          rw [Array.getElem?_eq_getElem (by omega), Array.getElem?_eq_getElem (by omega)]
          exact congrArg some h2
      · rw [Array.getElem?_eq_none (by omega), Array.getElem?_eq_none (by rw [lay_size]; omega)]
    rw [heq]
    exact h
  · exact (F t).stable _ _ _ (hbase t ht) (Below.refl _ _).drew
  · rw [Array.getD_eq_getD_getElem?, Array.getElem?_replicate, if_pos hi2]; rfl
  · unfold left_
    exact Nat.le_trans (List.length_filter_le _ _) (by simp)
end Go.Proofs.YtjfehdkfogdpgaaGreatDoor
namespace Go.Proofs.YtjfehdkfogdpgaaGreatDoor
namespace Rt
def sg (s : Bool) (p : Nat) : Int := if s then -(p : Int) else p
def of (s : Bool) (p q : Nat) : Rat := mkRat (sg s p) q
def ng (x : Rat) : Bool := decide (x.num < 0)
def tp (x : Rat) : Nat := x.num.natAbs
structure Vld (s : Bool) (p q : Nat) : Prop where
  pos : q ≠ 0
  low : Nat.gcd p q = 1
  zero : s = true → p ≠ 0
theorem sg_abs (s : Bool) (p : Nat) : (sg s p).natAbs = p := by cases s <;> simp [sg]
theorem sg_false (p : Nat) : sg false p = p := rfl
theorem sg_true (p : Nat) : sg true p = -(p : Int) := rfl
theorem sg_parts (x : Rat) : sg (ng x) (tp x) = x.num := by
  unfold sg ng tp
  by_cases h : x.num < 0
  · simp [h]; omega
  · simp [h]; omega
theorem of_parts (x : Rat) : of (ng x) (tp x) x.den = x := by
  unfold of
  rw [sg_parts]
  exact Rat.mkRat_self x
theorem vld (x : Rat) : Vld (ng x) (tp x) x.den := by
  refine ⟨x.den_nz, x.reduced, fun h => ?_⟩
  unfold ng at h
  have := of_decide_eq_true h
  unfold tp
  omega
theorem num_of {s : Bool} {p q : Nat} (hq : q ≠ 0) : (of s p q).num = sg s (p / Nat.gcd p q) := by
  unfold of
  rw [Rat.num_mkRat, if_neg hq, sg_abs, Nat.gcd_comm]
  cases s
  · simp [sg]
  · simp only [sg, if_true]
    rw [Int.neg_ediv_of_dvd (Int.ofNat_dvd.2 (Nat.gcd_dvd_left p q))]
    simp
theorem den_of {s : Bool} {p q : Nat} (hq : q ≠ 0) : (of s p q).den = q / Nat.gcd p q := by
  unfold of
  rw [Rat.den_mkRat, if_neg hq, sg_abs, Nat.gcd_comm]
theorem tp_of {s : Bool} {p q : Nat} (hq : q ≠ 0) : tp (of s p q) = p / Nat.gcd p q := by
  unfold tp
  rw [num_of hq, sg_abs]
theorem gcd_pos {p q : Nat} (hq : q ≠ 0) : 0 < Nat.gcd p q := Nat.gcd_pos_of_pos_right _ (by omega)
theorem div_gcd_zero {p q : Nat} (hq : q ≠ 0) : p / Nat.gcd p q = 0 ↔ p = 0 := by
  have h := gcd_pos (p := p) hq
  constructor
  · intro h1
    have h2 := Nat.div_mul_cancel (Nat.gcd_dvd_left p q)
    rw [h1, Nat.zero_mul] at h2
    exact h2.symm
  · rintro rfl; simp
theorem ng_of {s : Bool} {p q : Nat} (hq : q ≠ 0) : ng (of s p q) = (s && !decide (p = 0)) := by
  unfold ng
  rw [num_of hq]
  have h := div_gcd_zero (p := p) hq
  by_cases hp : p = 0
  · subst hp; simp [sg]
  · have : p / Nat.gcd p q ≠ 0 := fun e => hp (h.1 e)
    have h5 : (0 : Int) ≤ ((p / Nat.gcd p q : Nat) : Int) := Int.natCast_nonneg _
    have h6 : ((p / Nat.gcd p q : Nat) : Int) ≠ 0 := by omega
    generalize ((p / Nat.gcd p q : Nat) : Int) = z at h5 h6
    generalize (p / Nat.gcd p q : Nat) = z' at this
    cases s
    · simp [sg]
    · simp [sg, hp]; omega
theorem ext' {x y : Rat} (h1 : ng x = ng y) (h2 : tp x = tp y) (h3 : x.den = y.den) : x = y := by
  rw [← of_parts x, ← of_parts y, h1, h2, h3]
theorem Vld.ng {s : Bool} {p q : Nat} (h : Vld s p q) : ng (of s p q) = s := by
  rw [ng_of h.pos]
  cases s
  · rfl
  · simp [h.zero rfl]
theorem Vld.tp {s : Bool} {p q : Nat} (h : Vld s p q) : tp (of s p q) = p := by rw [tp_of h.pos, h.low, Nat.div_one]
theorem Vld.den {s : Bool} {p q : Nat} (h : Vld s p q) : (of s p q).den = q := by rw [den_of h.pos, h.low, Nat.div_one]
theorem neg_ng (x : Rat) : ng (-x) = (!ng x && !decide (tp x = 0)) := by
  unfold ng tp
  rw [Rat.neg_num]
  by_cases h : x.num < 0 <;> by_cases h0 : x.num = 0 <;> simp [h, h0] <;> omega
theorem neg_tp (x : Rat) : tp (-x) = tp x := by unfold tp; rw [Rat.neg_num, Int.natAbs_neg]
theorem add_eq (x y : Rat) : x + y = mkRat (sg (ng x) (tp x * y.den) + sg (ng y) (tp y * x.den)) (x.den * y.den) := by
  rw [Rat.add_def']
  congr 1
  rw [← sg_parts x, ← sg_parts y]
  cases ng x <;> cases ng y <;> simp [sg, Int.neg_mul]
theorem sg_add (s : Bool) (u v : Nat) : sg s u + sg s v = sg s (u + v) := by cases s <;> simp [sg]; omega
theorem sg_sub_ge {s t : Bool} {u v : Nat} (h : s ≠ t) (hle : v ≤ u) : sg s u + sg t v = sg s (u - v) := by
  cases s <;> cases t <;> simp_all [sg] <;> omega
theorem sg_sub_lt {s t : Bool} {u v : Nat} (h : s ≠ t) (hlt : u < v) : sg s u + sg t v = sg t (v - u) := by
  cases s <;> cases t <;> simp_all [sg] <;> omega
theorem add_same {x y : Rat} (h : ng x = ng y) : x + y = of (ng x) (tp x * y.den + tp y * x.den) (x.den * y.den) := by
  rw [add_eq, ← h, sg_add]; rfl
theorem add_ge {x y : Rat} (h : ng x ≠ ng y) (hle : tp y * x.den ≤ tp x * y.den) : x + y = of (ng x) (tp x * y.den - tp y * x.den) (x.den * y.den) := by
  rw [add_eq, sg_sub_ge h hle]; rfl
theorem add_lt {x y : Rat} (h : ng x ≠ ng y) (hlt : tp x * y.den < tp y * x.den) : x + y = of (ng y) (tp y * x.den - tp x * y.den) (x.den * y.den) := by
  rw [add_eq, sg_sub_lt h hlt]; rfl
theorem den_pos (x : Rat) : 0 < x.den := Nat.pos_of_ne_zero x.den_nz
theorem den_mul_ne (x y : Rat) : x.den * y.den ≠ 0 := Nat.ne_of_gt (Nat.mul_pos (den_pos x) (den_pos y))
theorem sg_mul (s t : Bool) (p q : Nat) : sg s p * sg t q = sg (s != t) (p * q) := by
  cases s <;> cases t <;> simp [sg, Int.neg_mul, Int.mul_neg]
theorem mul_eq (x y : Rat) : x * y = of (ng x != ng y) (tp x * tp y) (x.den * y.den) := by
  rw [Rat.mul_def', ← sg_parts x, ← sg_parts y, sg_mul]; rfl
theorem floor_eq (x : Rat) : x.floor = x.num / x.den := Rat.floor_def x
end Rt
end Go.Proofs.YtjfehdkfogdpgaaGreatDoor

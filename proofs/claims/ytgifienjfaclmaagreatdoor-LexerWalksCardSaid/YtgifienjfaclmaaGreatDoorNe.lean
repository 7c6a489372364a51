/-
  Numbers: what ParseInt and isDecimal say of digits with an optional minus sign. No conditions beyond those that each names.
-/
import Derived.Test.YtgifienjfaclmaaGreatDoorNd
import Derived.Lib.ParseIntB
namespace Go.Proofs.YtgifienjfaclmaaGreatDoor
open Go.RowKit
def dstep (n : Nat) (c : UInt8) : Nat := 10 * n + (c.toNat - 48)
theorem dstep_ge (ds : List UInt8) (a : Nat) : a ≤ ds.foldl dstep a := by
  induction ds generalizing a with
  | nil => exact Nat.le_refl _
  | cons c r ih =>
    rw [List.foldl_cons]
    have := ih (dstep a c)
    unfold dstep at this ⊢
    omega
theorem dval_step (ds : List UInt8) : dval ds = ds.foldl dstep 0 := rfl
theorem pum (ds : List UInt8) (hd : ∀ c ∈ ds, isD c = true) : ∀ a, a ≤ 18446744073709551615 → Lib.parseUintM 18446744073709551615 a ds = if 18446744073709551615 < ds.foldl dstep a then .range else .ok (ds.foldl dstep a) := by
  induction ds with
  | nil =>
    intro a ha
    rw [Lib.parseUintM, List.foldl_nil, if_neg (by omega)]
  | cons c r ih =>
    intro a ha
    have hc := isD_in (hd c (by simp))
    have hge := dstep_ge r (dstep a c)
    have hds : dstep a c = 10 * a + (c.toNat - 48) := rfl
    rw [Lib.parseUintM, if_pos hc, List.foldl_cons]
    by_cases h1 : 1844674407370955162 ≤ a
    · rw [if_pos h1, if_pos (by omega)]
    · rw [if_neg h1]
      by_cases h2 : 18446744073709551615 < a * 10 + (c.toNat - 48)
      · rw [if_pos h2, if_pos (by omega)]
      · rw [if_neg h2, show a * 10 + (c.toNat - 48) = dstep a c by omega]
        exact ih (fun c hc => hd c (by simp [hc])) _ (by omega)
theorem pub (ds : List UInt8) (hd : ∀ c ∈ ds, isD c = true) (h0 : ds ≠ []) : Lib.parseUintB 64 ds = if 18446744073709551615 < dval ds then .range else .ok (dval ds) := by
  unfold Lib.parseUintB
  rw [if_neg h0]
  exact pum ds hd 0 (by decide)
theorem pib_pos (ds : List UInt8) (hd : ∀ c ∈ ds, isD c = true) (h0 : ds ≠ []) : Lib.parseIntB 64 ds = if 9223372036854775807 < dval ds then .range else .ok (dval ds : Int) := by
  have h := pub ds hd h0
  cases ds with
  | nil => exact absurd rfl h0
  | cons c r =>
    have hc := isD_in (hd c (by simp))
    unfold Lib.parseIntB
    simp only
    rw [if_neg (by omega), h]
    generalize dval (c :: r) = v
    by_cases h1 : 18446744073709551615 < v
    · rw [if_pos h1, if_pos (by omega)]
    · rw [if_neg h1]
      simp only
      by_cases h2 : 9223372036854775807 < v
      · rw [if_pos h2, if_pos ⟨by omega, by omega⟩]
      · rw [if_neg h2, if_neg (by omega), if_neg (by omega), if_neg (by omega)]
theorem pib_neg (ds : List UInt8) (hd : ∀ c ∈ ds, isD c = true) (h0 : ds ≠ []) : Lib.parseIntB 64 (45 :: ds) = if 9223372036854775808 < dval ds then .range else .ok (-(dval ds : Int)) := by
  have h := pub ds hd h0
  unfold Lib.parseIntB
  simp only
  rw [if_pos (.inr rfl), h]
  generalize dval ds = v
  have e : (45 : UInt8).toNat = 45 := rfl
  by_cases h1 : 18446744073709551615 < v
  · rw [if_pos h1, if_pos (by omega)]
  · rw [if_neg h1]
    simp only
    rw [if_neg (by omega)]
    by_cases h2 : 9223372036854775808 < v
    · rw [if_pos h2, if_pos ⟨e, by omega⟩]
    · rw [if_neg h2, if_neg (by omega), if_pos e]
/-- The text of a number. -/
def ntx (neg : Bool) (ds : List UInt8) : List UInt8 := if neg then 45 :: ds else ds
/-- Is a text a number in the only form that is accepted? -/
def nz (x : List UInt8) : Bool := match x with | [] => false | c :: _ => c != 48
def dcm (x : List UInt8) : Bool := x == [48] || nz (Lib.trimPrefix x [45])
theorem trim_neg (ds : List UInt8) : Lib.trimPrefix (45 :: ds) [45] = ds := by
  unfold Lib.trimPrefix Lib.hasPrefix
  simp
theorem trim_pos (ds : List UInt8) (hd : ∀ c ∈ ds, isD c = true) : Lib.trimPrefix ds [45] = ds := by
  unfold Lib.trimPrefix Lib.hasPrefix
  cases ds with
  | nil => rfl
  | cons c r =>
    have hc := isD_in (hd c (by simp))
    rw [if_neg]
    simp
    intro h
    subst h
    revert hc
    decide
theorem dcm_neg (ds : List UInt8) : dcm (45 :: ds) = nz ds := by
  unfold dcm
  rw [trim_neg]
  have : ((45 :: ds : List UInt8) == [48]) = false := by simp
  rw [this, Bool.false_or]
theorem dcm_pos (ds : List UInt8) (hd : ∀ c ∈ ds, isD c = true) : dcm ds = (ds == [48] || nz ds) := by
  unfold dcm
  rw [trim_pos ds hd]
theorem num_text (neg : Bool) (ds : List UInt8) (hd : ∀ c ∈ ds, isD c = true) :
    (dcm (ntx neg ds) = false ∧ numOf neg ds = .error 2) ∨ (dcm (ntx neg ds) = true ∧ Lib.parseIntB 64 (ntx neg ds) = .range ∧ numOf neg ds = .error 1) ∨
    ∃ n : Int, dcm (ntx neg ds) = true ∧ Lib.parseIntB 64 (ntx neg ds) = .ok n ∧ numOf neg ds = .ok n ∧ -9223372036854775808 ≤ n ∧ n ≤ 9223372036854775807 := by
  unfold numOf ntx
  cases ds with
  | nil =>
    left
    cases neg
    · exact ⟨rfl, rfl⟩
    · exact ⟨rfl, rfl⟩
  | cons c r =>
    cases neg
    · have hp := pib_pos (c :: r) hd (by simp)
      simp only [Bool.false_eq_true, if_false]
      rw [hp, dcm_pos _ hd]
      by_cases h48 : c = 48
      · subst h48
        cases r with
        | nil =>
          right; right
          exact ⟨0, rfl, rfl, rfl, by decide, by decide⟩
        | cons d r =>
          left
          exact ⟨by simp [nz], by rw [if_pos]; simp⟩
      · have e1 : nz (c :: r) = true := by simpa [nz] using h48
        generalize dval (c :: r) = v
        simp only [e1, Bool.or_true, true_and]
        rw [if_neg (by simp [h48])]
        by_cases h2 : 9223372036854775807 < v
        · right; left
          rw [if_pos h2, if_pos h2]
          exact ⟨rfl, rfl⟩
        · right; right
          rw [if_neg h2, if_neg h2]
          exact ⟨_, rfl, rfl, by omega, by omega⟩
    · have hp := pib_neg (c :: r) hd (by simp)
      simp only [if_true]
      rw [hp, dcm_neg]
      generalize dval (c :: r) = v
      by_cases h48 : c = 48
      · subst h48
        left
        exact ⟨rfl, by rw [if_pos]; simp⟩
      · have e1 : nz (c :: r) = true := by simpa [nz] using h48
        simp only [e1, true_and]
        rw [if_neg (by simp [h48])]
        by_cases h2 : 9223372036854775808 < v
        · right; left
          rw [if_pos h2, if_pos h2]
          exact ⟨rfl, rfl⟩
        · right; right
          rw [if_neg h2, if_neg h2]
          exact ⟨_, rfl, rfl, by omega, by omega⟩
end Go.Proofs.YtgifienjfaclmaaGreatDoor

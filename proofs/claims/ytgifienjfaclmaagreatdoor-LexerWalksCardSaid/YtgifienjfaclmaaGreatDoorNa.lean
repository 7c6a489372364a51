/-
  The developers' kinds of characters, by bytes; what skipping white space and remarks comes to. No conditions.
-/
import Derived.Test.YtgifienjfaclmaaGreatDoorLp
namespace Go.Proofs.YtgifienjfaclmaaGreatDoor
/-- The kind of a character. -/
def kd (n : Nat) : Nat :=
  if n = 32 ∨ n = 9 ∨ n = 10 then 1 else if n = 95 then 4 else if n = 45 then 5 else if n = 34 then 6 else if n = 35 then 7
  else if n = 123 ∨ n = 125 ∨ n = 40 ∨ n = 41 ∨ n = 91 ∨ n = 93 ∨ n = 58 ∨ n = 59 ∨ n = 44 ∨ n = 61 ∨ n = 46 ∨ n = 63 ∨ n = 33 ∨ n = 38 ∨ n = 124 ∨ n = 64 then 8
  else if (97 ≤ n ∧ n ≤ 122) ∨ (65 ≤ n ∧ n ≤ 90) then 2 else if 48 ≤ n ∧ n ≤ 57 then 3 else 9
def kat (l : List UInt8) (a : Nat) : Nat := match l[a]? with | none => 0 | some c => kd c.toNat
theorem kd_pos (n : Nat) : 1 ≤ kd n ∧ kd n ≤ 9 := by
  unfold kd
  constructor <;> (repeat' split) <;> omega
theorem kd_facts (c : UInt8) : (kd c.toNat = 2 ↔ isL c = true) ∧ (kd c.toNat = 3 ↔ isD c = true) ∧ (kd c.toNat = 4 ↔ c = 95) ∧ (kd c.toNat = 5 ↔ c = 45) ∧ (kd c.toNat = 6 ↔ c = 34) ∧ (kd c.toNat = 7 ↔ c = 35) ∧ (kd c.toNat = 8 ↔ isM c = true) ∧ (kd c.toNat = 1 ↔ isS c = true) := by
  revert c
  exact byte_all (by decide +kernel)
/-- The characters that have one of the kinds. -/
def inK (ks : List Nat) (c : UInt8) : Bool := ks.contains (kd c.toNat)
theorem inK_white : inK [1] = isS := by
  funext c
  have h := (kd_facts c).2.2.2.2.2.2.2
  rw [Bool.eq_iff_iff, ← h]
  simp [inK]
theorem inK_digit : inK [3] = isD := by
  funext c
  have h := (kd_facts c).2.1
  rw [Bool.eq_iff_iff, ← h]
  simp [inK]
theorem inK_word : inK [2, 3, 4] = isW := by
  funext c
  obtain ⟨h1, h2, h3, -⟩ := kd_facts c
  rw [Bool.eq_iff_iff]
  unfold isW
  simp only [Bool.or_eq_true, ← h1, ← h2, beq_iff_eq, ← h3]
  simp [inK]
  omega
theorem kat_lt {l : List UInt8} {a : Nat} (h : a < l.length) : kat l a = kd (l[a]'h).toNat := by unfold kat; rw [List.getElem?_eq_getElem h]
theorem kat_end {l : List UInt8} {a : Nat} (h : l.length ≤ a) : kat l a = 0 := by unfold kat; rw [List.getElem?_eq_none h]
/-- May what stands there not follow a name or a number? -/
def jn (l : List UInt8) (a : Nat) : Bool := kat l a == 2 || kat l a == 3 || kat l a == 4 || kat l a == 5
theorem jn_eq (l : List UInt8) (a : Nat) : jn l a = l[a]?.any (fun d => isW d || d == 45) := by
  by_cases h : a < l.length
  · rw [List.getElem?_eq_getElem h]
    unfold jn
    rw [kat_lt h]
    obtain ⟨h1, h2, h3, h4, -⟩ := kd_facts (l[a]'h)
    rw [Bool.eq_iff_iff]
    simp only [Option.any_some, isW, Bool.or_eq_true, beq_iff_eq, h1, h2, h3, h4]
  · unfold jn
    rw [kat_end (by omega), List.getElem?_eq_none (by omega)]
    rfl
/-- The place of the next line feed, or the end. -/
def eol (l : List UInt8) (a : Nat) : Nat := a + ((l.drop a).takeWhile (fun c => c != 10)).length
theorem sk_white (l : List UInt8) : sk false l = sk false (l.dropWhile isS) := by
  induction l with
  | nil => rfl
  | cons c r ih =>
    cases h : isS c
    · rw [List.dropWhile_cons_of_neg (by simp [h])]
    · rw [List.dropWhile_cons_of_pos h, ← ih]
      rw [sk]
      have h35 : (c == 35) = false := by
        cases e : c == 35
        · rfl
        · rw [beq_iff_eq] at e; subst e; cases h
      simp [h, h35]
theorem sk_true (l : List UInt8) : sk true l = sk false (l.dropWhile (fun c => c != 10)) := by
  induction l with
  | nil => rfl
  | cons c r ih =>
    cases h : c != 10
    · rw [List.dropWhile_cons_of_neg (by simp [h])]
      have : c = 10 := by simpa using h
      subst this
      rw [sk, sk]
      rfl
    · rw [List.dropWhile_cons_of_pos (by simp [h]), ← ih]
      rw [sk]
      simp [h]
theorem sk_remark (r : List UInt8) : sk false (35 :: r) = sk false (r.dropWhile (fun c => c != 10)) := by
  rw [← sk_true, sk]
  rfl
theorem dropW (p : UInt8 → Bool) (l : List UInt8) : l.dropWhile p = l.drop (l.takeWhile p).length := by
  induction l with
  | nil => rfl
  | cons c r ih =>
    cases h : p c
    · simp [h]
    · simp [h, ih]
/-- At place j, behind white space. -/
theorem sk_past (l : List UInt8) (j : Nat) : sk false (l.drop (j + ((l.drop j).takeWhile isS).length)) = sk false (l.drop j) := by
  rw [sk_white (l.drop j), dropW, List.drop_drop]
theorem sk_hash (l : List UInt8) (j : Nat) (h : j < l.length) (hc : l[j] = 35) : sk false (l.drop (eol l j)) = sk false (l.drop j) := by
  rw [List.drop_eq_getElem_cons h, hc, sk_remark, dropW, List.drop_drop]
  unfold eol
  rw [List.drop_eq_getElem_cons h, hc]
  simp
  congr 2
  omega
theorem eol_gt (l : List UInt8) (j : Nat) (h : j < l.length) (hc : l[j] = 35) : j < eol l j ∧ eol l j ≤ l.length := by
  unfold eol
  have h1 := List.takeWhile_sublist (fun c : UInt8 => c != 10) (l := l.drop j)
  have h2 := h1.length_le
  rw [List.length_drop] at h2
  refine ⟨?_, by omega⟩
  rw [List.drop_eq_getElem_cons h, hc]
  simp
theorem sk_stop (l : List UInt8) (j : Nat) (h : kat l j ≠ 1) (h7 : kat l j ≠ 7) : sk false (l.drop j) = l.drop j := by
  by_cases hj : j < l.length
  · rw [List.drop_eq_getElem_cons hj]
    rw [kat_lt hj] at h h7
    obtain ⟨-, -, -, -, -, f7, -, f1⟩ := kd_facts (l[j]'hj)
    refine sk_keep _ ?_ ?_
    · cases e : isS l[j]
      · rfl
      · exact absurd (f1.2 e) h
    · exact fun e => h7 (f7.2 e)
  · rw [List.drop_eq_nil_of_le (by omega)]; rfl
theorem tw_stop (p : UInt8 → Bool) (l : List UInt8) (j : Nat) (h : j + ((l.drop j).takeWhile p).length < l.length) : p (l[j + ((l.drop j).takeWhile p).length]'h) = false := by
  have key : ∀ (m : List UInt8) (h : (m.takeWhile p).length < m.length), p (m[(m.takeWhile p).length]'h) = false := by
    intro m
    induction m with
    | nil => intro h; simp at h
    | cons c r ih =>
      cases e : p c
      · intro h; simp [e]
      · intro h
        simp [e] at h ⊢
        exact ih h
  have h2 := key (l.drop j) (by rw [List.length_drop]; omega)
  simpa using h2
theorem kat_past (l : List UInt8) (m : Nat) : kat l (m + ((l.drop m).takeWhile isS).length) ≠ 1 := by
  by_cases h : m + ((l.drop m).takeWhile isS).length < l.length
  · have := tw_stop isS l m h
    rw [kat_lt h]
    intro h1
    rw [(kd_facts _).2.2.2.2.2.2.2.1 h1] at this
    cases this
  · rw [kat_end (by omega)]; decide
end Go.Proofs.YtgifienjfaclmaaGreatDoor

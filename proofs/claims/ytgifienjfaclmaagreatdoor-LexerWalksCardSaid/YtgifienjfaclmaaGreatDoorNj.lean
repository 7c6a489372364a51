/-
  The mathematics of what the developers' printing asks of the library: ReplaceAll at one byte, FormatInt, Join; which tokens are valid. No conditions beyond those that each names.
-/
import Derived.Test.YtgifienjfaclmaaGreatDoorNd
import Derived.Lib.Replace
import Derived.Lib.ItoaNum
import Derived.Lib.Join
namespace Go.Proofs.YtgifienjfaclmaaGreatDoor
theorem index_cons (c b : UInt8) (l : List UInt8) : Lib.index (b :: l) [c] = if c = b then 0 else if Lib.index l [c] == -1 then -1 else Lib.index l [c] + 1 := by
  rw [Lib.index]
  simp [List.isPrefixOf]
theorem rk_skip (c : UInt8) (new : List UInt8) (b : UInt8) (h : c ≠ b) (k : Nat) (l : List UInt8) : Lib.replaceK [c] new k (b :: l) = b :: Lib.replaceK [c] new k l := by
  cases k with
  | zero => rfl
  | succ k =>
    have hg := Lib.index_ge l [c]
    rw [Lib.replaceK, Lib.replaceK, index_cons, if_neg h]
    by_cases e : Lib.index l [c] = -1
    · simp [e]
    · have e1 : (Lib.index l [c] == -1) = false := by simpa using e
      have e2 : (Lib.index l [c] + 1 == -1) = false := by simp; omega
      obtain ⟨i, hi⟩ : ∃ i : Nat, Lib.index l [c] = i := ⟨(Lib.index l [c]).toNat, by omega⟩
      rw [hi] at e1 e2 ⊢
      simp only [e1, e2, Bool.false_eq_true, if_false]
      rw [show ((i : Int) + 1).toNat = i + 1 by omega, show (i : Int).toNat = i by omega]
      rw [show i + 1 + [c].length = (i + [c].length) + 1 by omega]
      rfl
theorem rk_hit (c : UInt8) (new : List UInt8) (k : Nat) (l : List UInt8) : Lib.replaceK [c] new (k + 1) (c :: l) = new ++ Lib.replaceK [c] new k l := by
  rw [Lib.replaceK_hit [c] new k (c :: l) 0 (by rw [index_cons, if_pos rfl]; rfl)]
  rfl
theorem rk_all (c : UInt8) (new : List UInt8) (l : List UInt8) : Lib.replaceK [c] new (Lib.count l [c]) l = l.flatMap (fun b => if b = c then new else [b]) := by
  induction l with
  | nil =>
    rw [Lib.count_one]
    rfl
  | cons b l ih =>
    by_cases h : b = c
    · subst h
      rw [Lib.count_cons_eq, Nat.add_comm 1, rk_hit, ih]
      simp
    · rw [Lib.count_cons_ne _ _ _ h, rk_skip c new b (fun e => h e.symm), ih]
      simp [h]
theorem replaceAll_one (c : UInt8) (new l : List UInt8) (h : [c] ≠ new) : Lib.replaceAll l [c] new = l.flatMap (fun b => if b = c then new else [b]) := by
  unfold Lib.replaceAll Lib.replace
  rw [if_neg (by simpa using h)]
  unfold Lib.replaceNum
  rw [if_pos (.inl (by decide))]
  exact rk_all c new l
theorem esc_eq (l : List UInt8) : Lib.replaceAll (Lib.replaceAll l [92] [92, 92]) [34] [92, 34] = esc l := by
  rw [replaceAll_one _ _ _ (by decide), replaceAll_one _ _ _ (by decide)]
  induction l with
  | nil => rfl
  | cons b l ih =>
    rw [List.flatMap_cons, List.flatMap_append, ih]
    rw [show esc (b :: l) = (if b = 34 ∨ b = 92 then 92 :: b :: esc l else b :: esc l) from rfl]
    by_cases h1 : b = 92
    · subst h1
      rw [if_pos rfl, if_pos (.inr rfl)]
      rfl
    · rw [if_neg h1]
      by_cases h2 : b = 34
      · subst h2
        rw [if_pos (.inl rfl)]
        rfl
      · rw [if_neg (by simp [h1, h2])]
        simp [h2]
theorem dd_eq (n : Nat) : Lib.decDigits n = dg n := by
  induction n using Nat.strongRecOn with
  | ind n ih =>
    rw [Lib.decDigits]
    by_cases h : n < 10
    · rw [dif_pos h, dg_small h]
    · rw [dif_neg h, dg_big h, ih _ (by omega)]
theorem itoa_dec (n : Int) : Lib.itoa n = dec n := by
  unfold Lib.itoa dec
  rw [dd_eq, dd_eq]
  by_cases h : n < 0
  · rw [if_pos h, if_pos h]
  · rw [if_neg h, if_neg h, show n.toNat = n.natAbs by omega]
/-- What a token is written as. -/
def wrt (K : Int) (T : List UInt8) (N : Int) : List UInt8 := if K = 2 then dec N else if K = 3 then quo T else T
/-- Is a token the first one of what it is written as? -/
def back (K : Int) (T : List UInt8) (N : Int) : Bool := match tokAt (wrt K T N) 0 with
  | .error _ => false
  | .ok (kd, t, n, _) => decide ((kd : Int) = K) && (t == T) && (n == N)
theorem qs_bytes (l : List UInt8) : ∀ (n : Nat), l.length ≤ n → ∀ (i : Nat) (out t : List UInt8) (k : Nat), (∀ c ∈ out, 32 ≤ c.toNat ∧ c.toNat ≤ 126) → qs l i out = .ok (t, k) → ∀ c ∈ t, 32 ≤ c.toNat ∧ c.toNat ≤ 126 := by
  intro n
  induction n generalizing l with
  | zero =>
    intro hl i out t k ho h
    obtain rfl : l = [] := List.eq_nil_of_length_eq_zero (by omega)
    rw [qs] at h
    cases h
  | succ n ih =>
    intro hl i out t k ho h
    cases l with
    | nil => rw [qs] at h; cases h
    | cons c r =>
      rw [qs_cons] at h
      simp only [List.length_cons] at hl
      by_cases h34 : c = 34
      · rw [if_pos h34] at h
        injection h with h
        injection h with h1 h2
        subst h1
        exact ho
      · rw [if_neg h34] at h
        by_cases hr : c.toNat < 32 ∨ 126 < c.toNat
        · rw [if_pos hr] at h; cases h
        · rw [if_neg hr] at h
          by_cases h92 : c = 92
          · rw [if_pos h92] at h
            cases r with
            | nil => cases h
            | cons d r =>
              simp only at h
              by_cases hd : d = 34 ∨ d = 92
              · rw [if_pos hd] at h
                simp only [List.length_cons] at hl
                refine ih r (by omega) _ _ _ _ ?_ h
                intro x hx
                simp only [List.mem_append, List.mem_singleton] at hx
                rcases hx with hx | rfl
                · exact ho x hx
                · rcases hd with rfl | rfl <;> decide
              · rw [if_neg hd] at h; cases h
          · rw [if_neg h92] at h
            refine ih r (by omega) _ _ _ _ ?_ h
            intro x hx
            simp only [List.mem_append, List.mem_singleton] at hx
            rcases hx with hx | rfl
            · exact ho x hx
            · omega
theorem tok_more {c : UInt8} {r t : List UInt8} {kd k : Nat} {n : Int} (h : tok c r = .ok (kd, t, n, k)) :
    (kd = 1 → n = 0) ∧ (kd = 2 → t = []) ∧ (kd = 3 → n = 0 ∧ t.length ≤ 200 ∧ ∀ c ∈ t, 32 ≤ c.toNat ∧ c.toNat ≤ 126) ∧ (kd = 4 → n = 0 ∧ ∃ c, t = [c] ∧ isM c = true) := by
  unfold tok at h
  by_cases hL : isL c = true
  · rw [if_pos hL] at h
    by_cases h16 : 16 < ((c :: r).takeWhile isW).length
    · rw [if_pos h16] at h; cases h
    · rw [if_neg h16] at h
      by_cases h45 : ((c :: r).drop ((c :: r).takeWhile isW).length).head? = some 45
      · rw [if_pos h45] at h; cases h
      · rw [if_neg h45] at h
        injection h with h
        injection h with e1 h
        injection h with e2 h
        injection h with e3 e4
        subst e1 e3
        exact ⟨fun _ => rfl, fun e => absurd e (by decide), fun e => absurd e (by decide), fun e => absurd e (by decide)⟩
  · rw [if_neg hL] at h
    by_cases hD : (isD c || c == 45) = true
    · rw [if_pos hD] at h
      generalize numOf (c == 45) ((if c == 45 then r else c :: r).takeWhile isD) = q at h
      cases q with
      | error x => cases h
      | ok x =>
        simp only at h
        by_cases hj : ((c :: r).drop ((c == 45).toNat + ((if c == 45 then r else c :: r).takeWhile isD).length)).head?.any (fun d => isW d || d == 45) = true
        · rw [if_pos hj] at h; cases h
        · rw [if_neg hj] at h
          injection h with h
          injection h with e1 h
          injection h with e2 h
          subst e1 e2
          exact ⟨fun e => absurd e (by decide), fun _ => rfl, fun e => absurd e (by decide), fun e => absurd e (by decide)⟩
    · rw [if_neg hD] at h
      by_cases h34 : c = 34
      · rw [if_pos h34] at h
        cases hq : qs r 1 [] with
        | error x => rw [hq] at h; cases h
        | ok x =>
          obtain ⟨t', k'⟩ := x
          rw [hq] at h
          simp only at h
          by_cases h200 : 200 < t'.length
          · rw [if_pos h200] at h; cases h
          · rw [if_neg h200] at h
            injection h with h
            injection h with e1 h
            injection h with e2 h
            injection h with e3 e4
            subst e1 e2 e3
            exact ⟨fun e => absurd e (by decide), fun e => absurd e (by decide), fun _ => ⟨rfl, by omega, qs_bytes _ _ (Nat.le_refl _) _ _ _ _ (by simp) hq⟩, fun e => absurd e (by decide)⟩
      · rw [if_neg h34] at h
        by_cases hM : isM c = true
        · rw [if_pos hM] at h
          injection h with h
          injection h with e1 h
          injection h with e2 h
          injection h with e3 e4
          subst e1 e2 e3
          exact ⟨fun e => absurd e (by decide), fun e => absurd e (by decide), fun e => absurd e (by decide), fun _ => ⟨rfl, _, rfl, hM⟩⟩
        · rw [if_neg hM] at h; cases h
end Go.Proofs.YtgifienjfaclmaaGreatDoor

/-
  What the reference says of each class of tokens is what a scan says. No conditions.
-/
import Derived.Test.YtgifienjfaclmaaGreatDoorLg
namespace Go.Proofs.YtgifienjfaclmaaGreatDoor
theorem drop_head (l : List UInt8) (j k : Nat) : ((l.drop j).drop k).head? = l[j + k]? := by
  rw [List.drop_drop, List.head?_drop]
theorem tw_prefix (p : UInt8 → Bool) (l : List UInt8) (j : Nat) : (l.take (j + ((l.drop j).takeWhile p).length)).drop j = (l.drop j).takeWhile p := by
  rw [List.drop_take, Nat.add_sub_cancel_left]
  exact (List.prefix_iff_eq_take.1 (List.takeWhile_prefix p)).symm
theorem name_tok {l : List UInt8} {j : Nat} {c : UInt8} {r : List UInt8} (h : l.drop j = c :: r) (hL : isL c = true) :
    (∃ e x wh, nameR l j = (e, x, wh) ∧ (x = 2 ∨ x = 3) ∧ j ≤ wh ∧ tok c r = .error (x, wh - j) ∧ j ≤ e ∧ e ≤ l.length) ∨
    (∃ k t, nameR l j = (j + k, 0, 0) ∧ 1 ≤ k ∧ j + k ≤ l.length ∧ tok c r = .ok (1, t, 0, k) ∧ (l.take (j + k)).drop j = t) := by
  have hk := tw_le isW l j
  have hlen : 0 < l.length - j := by rw [← List.length_drop, h]; simp
  have h1 : 1 ≤ ((l.drop j).takeWhile isW).length := by
    rw [h, List.takeWhile_cons, if_pos (by unfold isW; rw [hL]; rfl)]
    simp
  unfold tok
  rw [if_pos hL, ← h, drop_head]
  unfold nameR
  by_cases h16 : 16 < ((l.drop j).takeWhile isW).length
  · rw [if_pos h16, if_pos h16]
    exact .inl ⟨_, _, _, rfl, .inr rfl, Nat.le_refl _, by simp, by omega, by omega⟩
  · rw [if_neg h16, if_neg h16]
    by_cases h45 : l[j + ((l.drop j).takeWhile isW).length]? = some 45
    · rw [if_pos h45, if_pos h45]
      exact .inl ⟨_, _, _, rfl, .inl rfl, by omega, by simp, by omega, by omega⟩
    · rw [if_neg h45, if_neg h45]
      exact .inr ⟨_, _, rfl, h1, by omega, rfl, tw_prefix isW l j⟩
theorem num_tok {l : List UInt8} {j : Nat} {c : UInt8} {r : List UInt8} (h : l.drop j = c :: r) (hL : isL c = false) (hD : (isD c || c == 45) = true) :
    (∃ e x wh, numR (c == 45) l j = (e, 0, x, wh) ∧ (x = 2 ∨ x = 4) ∧ j ≤ wh ∧ tok c r = .error (x, wh - j)) ∨
    (∃ k n, numR (c == 45) l j = (j + k, n, 0, 0) ∧ 1 ≤ k ∧ j + k ≤ l.length ∧ tok c r = .ok (2, [], n, k)) := by
  have hlen : 0 < l.length - j := by rw [← List.length_drop, h]; simp
  have hr : l.drop (j + 1) = r := by
    have := congrArg (List.drop 1) h
    rwa [List.drop_drop] at this
  have hds : (if (c == 45) = true then r else c :: r) = l.drop (j + (c == 45).toNat) := by
    cases hc : c == 45
    · simp [h]
    · simp [hr]
  have hk := tw_le isD l (j + (c == 45).toNat)
  have h1 : 1 ≤ (c == 45).toNat + ((l.drop (j + (c == 45).toNat)).takeWhile isD).length := by
    cases hc : c == 45
    · rw [hc, Bool.or_false] at hD
      have : (l.drop (j + (false).toNat)) = c :: r := by simpa using h
      rw [this, List.takeWhile_cons, if_pos hD]
      simp
    · simp
  have hle : j + (c == 45).toNat ≤ l.length := by cases hc : c == 45 <;> simp <;> omega
  unfold tok
  rw [if_neg (by rw [hL]; decide), if_pos hD, hds]
  unfold numR
  generalize hd : (l.drop (j + (c == 45).toNat)).takeWhile isD = ds at *
  have hx := numOf_cases (c == 45) ds
  rcases hx with hx | hx | ⟨n, hx⟩
  · rw [hx]
    exact .inl ⟨_, 4, j, rfl, .inr rfl, Nat.le_refl _, by simp⟩
  · rw [hx]
    exact .inl ⟨_, 2, j, rfl, .inl rfl, Nat.le_refl _, by simp⟩
  · rw [hx]
    simp only
    rw [← h, drop_head]
    unfold numRV
    simp only
    rw [show j + (c == 45).toNat + ds.length = j + ((c == 45).toNat + ds.length) by omega]
    by_cases hq : (l[j + ((c == 45).toNat + ds.length)]?.any fun d => isW d || d == 45) = true
    · rw [if_pos hq, if_pos hq]
      exact .inl ⟨_, 2, _, rfl, .inl rfl, by omega, by simp⟩
    · rw [if_neg hq, if_neg hq]
      exact .inr ⟨_, n, rfl, h1, by omega, rfl⟩
theorem qs_ok (l : List UInt8) : ∀ (n : Nat), l.length ≤ n → ∀ (i : Nat) (out t : List UInt8) (k : Nat), qs l i out = .ok (t, k) → i < k ∧ k ≤ i + l.length := by
  intro n
  induction n generalizing l with
  | zero =>
    intro hl i out t k h
    obtain rfl : l = [] := List.eq_nil_of_length_eq_zero (by omega)
    rw [qs_nil] at h
    cases h
  | succ n ih =>
    intro hl i out t k h
    cases l with
    | nil => rw [qs_nil] at h; cases h
    | cons c r =>
      rw [List.length_cons] at hl
      rw [qs_cons] at h
      split at h
      · injection h with h; injection h with h1 h2; simp; omega
      split at h
      · cases h
      split at h
      · cases r with
        | nil => cases h
        | cons d r =>
          simp only at h
          split at h
          · have := ih r (by simp at hl; omega) _ _ _ _ h
            simp; omega
          · cases h
      · have := ih r (by omega) _ _ _ _ h
        simp; omega
theorem quo_tok {l : List UInt8} {j : Nat} {r : List UInt8} (h : l.drop j = 34 :: r) :
    (∃ e x wh, quoV j (qs (l.drop (j + 1)) 1 []) = .tuple #[.int .i64 (e : Nat), .string (bs []), .int .i64 (x : Nat), .int .i64 (wh : Nat)] ∧ (x = 2 ∨ x = 3) ∧ j ≤ wh ∧ tok 34 r = .error (x, wh - j)) ∨
    (∃ k t, quoV j (qs (l.drop (j + 1)) 1 []) = .tuple #[.int .i64 ((j + k : Nat) : Int), .string (bs t), .int .i64 0, .int .i64 0] ∧ 1 ≤ k ∧ j + k ≤ l.length ∧ tok 34 r = .ok (3, t, 0, k)) := by
  have hlen : l.length - j = r.length + 1 := by rw [← List.length_drop, h]; rfl
  have hr : l.drop (j + 1) = r := by
    have := congrArg (List.drop 1) h
    rwa [List.drop_drop] at this
  unfold tok
  rw [if_neg (by decide), if_neg (by decide), if_pos rfl, hr]
  cases hq : qs r 1 [] with
  | error i => exact .inl ⟨j + i, 2, j + i, rfl, .inl rfl, by omega, by simp⟩
  | ok x =>
    obtain ⟨t, k⟩ := x
    obtain ⟨h1, h2⟩ := qs_ok r r.length (Nat.le_refl _) _ _ _ _ hq
    unfold quoV
    simp only
    by_cases h200 : 200 < t.length
    · rw [if_pos h200, if_pos h200]
      exact .inl ⟨j + k - 1, 3, j, rfl, .inr rfl, Nat.le_refl _, by simp⟩
    · rw [if_neg h200, if_neg h200]
      exact .inr ⟨k, t, rfl, by omega, by omega, rfl⟩
theorem mark_tok {c : UInt8} (r : List UInt8) (hM : isM c = true) : tok c r = .ok (4, [c], 0, 1) := by
  obtain ⟨f1, f2, f3, f4, -⟩ := mark_facts c hM
  unfold tok
  rw [if_neg (by rw [f1]; decide), if_neg (by rw [f2, f3]; decide), if_neg f4, if_pos hM]
theorem no_tok {c : UInt8} (r : List UInt8) (hL : isL c = false) (hD : (isD c || c == 45) = false) (hq : c ≠ 34) (hM : isM c = false) : tok c r = .error (2, 0) := by
  unfold tok
  rw [if_neg (by rw [hL]; decide), if_neg (by rw [hD]; decide), if_neg hq, if_neg (by rw [hM]; decide)]
/-- A scan that has gone on to place j, with the tokens ts. -/
def At (l : List UInt8) (R : Except (Nat × Nat) (List Tk)) (j : Nat) (ts : List Tk) : Prop := (match sc (l.drop j) j with | .error x => .error x | .ok us => .ok (ts ++ us)) = R
theorem At.err {l : List UInt8} {R : Except (Nat × Nat) (List Tk)} {j : Nat} {ts : List Tk} {c : UInt8} {r : List UInt8} {x o : Nat} (h : At l R j ts) (hd : l.drop j = c :: r) (ht : tok c r = .error (x, o)) : R = .error (x, j + o) := by
  unfold At at h
  rw [hd, sc_cons, ht] at h
  exact h.symm
theorem At.done {l : List UInt8} {R : Except (Nat × Nat) (List Tk)} {ts : List Tk} (h : At l R l.length ts) : R = .ok (ts ++ [⟨0, [], 0, l.length⟩]) := by
  unfold At at h
  rw [List.drop_length, sc_nil] at h
  exact h.symm
theorem At.next {l : List UInt8} {R : Except (Nat × Nat) (List Tk)} {j : Nat} {ts : List Tk} {c : UInt8} {r t : List UInt8} {kd k : Nat} {n : Int} (h : At l R j ts) (hd : l.drop j = c :: r) (ht : tok c r = .ok (kd, t, n, k)) (hk : 1 ≤ k) (hkl : j + k ≤ l.length) :
    At l R (l.length - (sk false (l.drop (j + k))).length) (ts ++ [⟨kd, t, n, j⟩]) ∧ j < l.length - (sk false (l.drop (j + k))).length := by
  have hlen : l.length - j = r.length + 1 := by rw [← List.length_drop, hd]; rfl
  have hr : r.drop (k - 1) = l.drop (j + k) := by
    have := congrArg (List.drop k) hd
    rw [List.drop_drop] at this
    rw [this]
    obtain ⟨m, rfl⟩ : ∃ m, k = m + 1 := ⟨k - 1, by omega⟩
    simp
  have h1 := sk_length false (l.drop (j + k))
  have h2 := sk_drop false (l.drop (j + k))
  rw [List.length_drop] at h1 h2
  have h3 : l.drop (l.length - (sk false (l.drop (j + k))).length) = sk false (l.drop (j + k)) := by
    conv => rhs; rw [h2, List.drop_drop]
    congr 1
    omega
  refine ⟨?_, by omega⟩
  unfold At at h ⊢
  rw [hd, sc_cons, ht] at h
  simp only at h
  rw [hr, show j + (r.length + 1 - (sk false (l.drop (j + k))).length) = l.length - (sk false (l.drop (j + k))).length by omega] at h
  rw [h3]
  cases hs : sc (sk false (l.drop (j + k))) (l.length - (sk false (l.drop (j + k))).length) with
  | error x => rw [hs] at h; exact h
  | ok us =>
    rw [hs] at h
    simp only at h ⊢
    rw [← h]
    simp
theorem At.start (l : List UInt8) (hl : l.length ≤ 4000) : At l (scan l) (l.length - (sk false l).length) [] := by
  have h1 := sk_length false l
  have h2 := sk_drop false l
  unfold At scan
  rw [if_neg (by omega), ← h2]
  cases sc (sk false l) (l.length - (sk false l).length) <;> rfl
end Go.Proofs.YtgifienjfaclmaaGreatDoor

/-
  Laws of scans, second part: a printed list is scanned as it was; places ascend; names. No conditions beyond those that each names.
-/
import Derived.Test.YtlebppjldoodgaaLn
namespace Go.Proofs.Ytlebppjldoodgaa
theorem sc_nil (p : Nat) : sc [] p = .ok [⟨0, [], 0, p⟩] := by rw [sc]
theorem sc_cons (c : UInt8) (r : List UInt8) (p : Nat) : sc (c :: r) p = (match tok c r with
    | .error (e, o) => .error (e, p + o)
    | .ok (kd, t, n, k) => match sc (sk false (r.drop (k - 1))) (p + (r.length + 1 - (sk false (r.drop (k - 1))).length)) with
      | .error x => .error x
      | .ok ts => .ok (⟨kd, t, n, p⟩ :: ts)) := by
  rw [sc]
  rfl
/-- Tokens as printed. -/
def pj : List Tk → List UInt8
  | [] => []
  | [t] => pr t
  | t :: u :: ts => pr t ++ 32 :: pj (u :: ts)
/-- The tokens that a scan of printed tokens gives. -/
def pjs : List Tk → Nat → List Tk
  | [], p => [⟨0, [], 0, p⟩]
  | [t], p => [{ t with at_ := p }, ⟨0, [], 0, p + (pr t).length⟩]
  | t :: u :: ts, p => { t with at_ := p } :: pjs (u :: ts) (p + (pr t).length + 1)
def numIn (t : Tk) : Prop := t.kind = 2 → -9223372036854775808 ≤ t.num ∧ t.num ≤ 9223372036854775807
theorem pj_head (t : Tk) (ts : List Tk) (h : okT t = true) (hn : numIn t) : ∃ c r, pj (t :: ts) = c :: r ∧ isS c = false ∧ c ≠ 35 := by
  obtain ⟨c, r, h1, h2, h3, -⟩ := tok_pr h hn (z := []) (.inl rfl)
  cases ts with
  | nil => exact ⟨c, r, h1, h2, h3⟩
  | cons u ts => exact ⟨c, r ++ 32 :: pj (u :: ts), by show pr t ++ _ = _; rw [h1]; rfl, h2, h3⟩
theorem sc_pj (ts : List Tk) : ∀ p, (∀ t ∈ ts, okT t = true ∧ numIn t) → sc (pj ts) p = .ok (pjs ts p) := by
  induction ts with
  | nil => intro p _; exact sc_nil p
  | cons t ts ih =>
    intro p h
    obtain ⟨⟨ht, hn⟩, hts⟩ := List.forall_mem_cons.1 h
    cases ts with
    | nil =>
      obtain ⟨c, r, h1, h2, h3, h4⟩ := tok_pr ht hn (z := []) (.inl rfl)
      rw [List.append_nil] at h4
      show sc (pr t) p = _
      rw [h1, sc_cons, h4, h1]
      simp only [List.length_cons, Nat.add_sub_cancel, List.drop_length]
      rw [show sk false [] = [] from rfl, sc_nil]
      simp [pjs, h1]
    | cons u ts =>
      obtain ⟨c, r, h1, h2, h3, h4⟩ := tok_pr ht hn (z := 32 :: pj (u :: ts)) (.inr ⟨_, rfl⟩)
      obtain ⟨d, r2, g1, g2, g3⟩ := pj_head u ts (hts u (List.mem_cons_self ..)).1 (hts u (List.mem_cons_self ..)).2
      have hsk : sk false (32 :: pj (u :: ts)) = pj (u :: ts) := by rw [sk_space, g1]; exact sk_keep r2 g2 g3
      have e : pj (t :: u :: ts) = c :: (r ++ 32 :: pj (u :: ts)) := by show pr t ++ _ = _; rw [h1]; rfl
      rw [e, sc_cons, h4, h1]
      simp only [List.length_cons, Nat.add_sub_cancel, List.drop_left, hsk]
      rw [show p + ((r ++ 32 :: pj (u :: ts)).length + 1 - (pj (u :: ts)).length) = p + (pr t).length + 1 by rw [h1]; simp; omega, ih _ hts]
      rfl
theorem prs_ne (ts : List Tk) : ∀ s, s ≠ [] → prs s ts = s ++ (if ts.filter okT = [] then [] else 32 :: pj (ts.filter okT)) := by
  induction ts with
  | nil => intro s _; simp [prs]
  | cons t ts ih =>
    intro s hs
    rw [prs]
    by_cases h : okT t = true
    · rw [if_pos h, if_neg hs, List.filter_cons_of_pos h, ih _ (by simp)]
      cases hf : ts.filter okT with
      | nil => simp [pj]
      | cons u us => simp [pj]
    · rw [if_neg h, List.filter_cons_of_neg h, ih s hs]
theorem prs_pj (ts : List Tk) (hn : ∀ t ∈ ts, numIn t) : prs [] ts = pj (ts.filter okT) := by
  induction ts with
  | nil => rfl
  | cons t ts ih =>
    obtain ⟨h1, h2⟩ := List.forall_mem_cons.1 hn
    rw [prs]
    by_cases h : okT t = true
    · obtain ⟨c, r, g, -⟩ := tok_pr h h1 (z := []) (.inl rfl)
      rw [if_pos h, List.filter_cons_of_pos h, if_pos rfl, List.nil_append, prs_ne _ _ (by rw [g]; simp)]
      cases hf : ts.filter okT with
      | nil => simp [pj]
      | cons u us => simp [pj]
    · rw [if_neg h, List.filter_cons_of_neg h]
      exact ih h2
/-- A printed list is scanned as it was, without the tokens that can't be. -/
theorem scan_prs (ts : List Tk) (hn : ∀ t ∈ ts, numIn t) (hl : (prs [] ts).length ≤ 4000) : scan (prs [] ts) = .ok (pjs (ts.filter okT) 0) := by
  have hall : ∀ t ∈ ts.filter okT, okT t = true ∧ numIn t := fun t ht => ⟨(List.mem_filter.1 ht).2, hn t (List.mem_filter.1 ht).1⟩
  have e := prs_pj ts hn
  unfold scan
  rw [if_neg (by omega), e]
  have hsk : sk false (pj (ts.filter okT)) = pj (ts.filter okT) := by
    cases hf : ts.filter okT with
    | nil => rfl
    | cons u us =>
      rw [hf] at hall
      obtain ⟨d, r2, g1, g2, g3⟩ := pj_head u us (hall u (List.mem_cons_self ..)).1 (hall u (List.mem_cons_self ..)).2
      rw [g1]
      exact sk_keep r2 g2 g3
  rw [hsk, Nat.sub_self]
  exact sc_pj _ 0 hall
theorem pjs_at (ts : List Tk) : ∀ p, (pjs ts p).length = ts.length + 1 ∧ (∀ k (h : k < ts.length) (h2 : k < (pjs ts p).length), (pjs ts p)[k].kind = ts[k].kind ∧ (pjs ts p)[k].text = ts[k].text ∧ (pjs ts p)[k].num = ts[k].num) ∧ ∀ h : ts.length < (pjs ts p).length, (pjs ts p)[ts.length].kind = 0 := by
  induction ts with
  | nil => intro p; exact ⟨rfl, (fun k h => by cases h), fun _ => rfl⟩
  | cons t ts ih =>
    intro p
    cases ts with
    | nil =>
      refine ⟨rfl, fun k h _ => ?_, fun _ => rfl⟩
      obtain rfl : k = 0 := by simpa using h
      exact ⟨rfl, rfl, rfl⟩
    | cons u ts =>
      obtain ⟨h1, h2, h3⟩ := ih (p + (pr t).length + 1)
      refine ⟨by show (_ :: pjs (u :: ts) _).length = _; rw [List.length_cons, h1]; rfl, fun k h hk => ?_, fun h => ?_⟩
      · cases k with
        | zero => exact ⟨rfl, rfl, rfl⟩
        | succ k => exact h2 k (by simpa using h) (by rw [h1]; simp at h ⊢; omega)
      · exact h3 (by rw [h1]; simp)
/-! ### places -/
theorem qs_error (l : List UInt8) : ∀ (n : Nat), l.length ≤ n → ∀ (i : Nat) (out : List UInt8) (j : Nat), qs l i out = .error j → j ≤ i + l.length := by
  intro n
  induction n generalizing l with
  | zero =>
    intro hl i out j h
    obtain rfl : l = [] := List.eq_nil_of_length_eq_zero (by omega)
    rw [qs] at h
    injection h with h
    omega
  | succ n ih =>
    intro hl i out j h
    cases l with
    | nil => rw [qs] at h; injection h with h; omega
    | cons c r =>
      rw [List.length_cons] at hl
      rw [qs_cons] at h
      split at h
      · cases h
      split at h
      · injection h with h; simp; omega
      split at h
      · cases r with
        | nil => injection h with h; simp; omega
        | cons d r =>
          simp only at h
          split at h
          · have := ih r (by simp at hl; omega) _ _ _ h
            simp; omega
          · injection h with h; simp; omega
      · have := ih r (by omega) _ _ _ h
        simp; omega
theorem tok_error {c : UInt8} {r : List UInt8} {e o : Nat} (h : tok c r = .error (e, o)) : (e = 2 ∨ e = 3 ∨ e = 4) ∧ o ≤ r.length + 1 := by
  have hW : ((c :: r).takeWhile isW).length ≤ r.length + 1 := by have := (List.takeWhile_sublist isW (l := c :: r)).length_le; simpa using this
  unfold tok at h
  split at h
  · split at h
    · cases h; exact ⟨.inr (.inl rfl), by omega⟩
    split at h
    · cases h; exact ⟨.inl rfl, hW⟩
    · cases h
  split at h
  · have hD : (c == 45).toNat + ((if (c == 45) = true then r else c :: r).takeWhile isD).length ≤ r.length + 1 := by
      have h1 := (List.takeWhile_sublist isD (l := r)).length_le
      have h2 := (List.takeWhile_sublist isD (l := c :: r)).length_le
      rw [List.length_cons] at h2
      cases hc : c == 45 <;> simp <;> omega
    generalize (if (c == 45) = true then r else c :: r).takeWhile isD = ds at h hD
    split at h
    · rename_i e' _
      cases h
      refine ⟨?_, by omega⟩
      by_cases he : e' = 1 <;> simp [he]
    · split at h
      · cases h; exact ⟨.inl rfl, hD⟩
      · cases h
  split at h
  · split at h
    · rename_i i hq
      cases h
      have := qs_error r r.length (Nat.le_refl _) _ _ _ hq
      exact ⟨.inl rfl, by omega⟩
    · split at h
      · cases h; exact ⟨.inr (.inl rfl), by omega⟩
      · cases h
  split at h
  · cases h
  · cases h; exact ⟨.inl rfl, by omega⟩
theorem tok_ok {c : UInt8} {r t : List UInt8} {kd k : Nat} {n : Int} (h : tok c r = .ok (kd, t, n, k)) :
    (kd = 1 ∨ kd = 2 ∨ kd = 3 ∨ kd = 4) ∧ (isL c = true ↔ kd = 1) ∧ (c = 34 ↔ kd = 3) ∧ (isL c = true ∨ isD c = true ∨ c = 45 ∨ c = 34 ∨ isM c = true) ∧ (kd = 1 → t = (c :: r).takeWhile isW ∧ t.length ≤ 16 ∧ k = t.length) := by
  unfold tok at h
  split at h
  · rename_i hL
    split at h
    · cases h
    split at h
    · cases h
    · cases h
      refine ⟨.inl rfl, by simp [hL], ⟨fun e => ?_, fun e => by cases e⟩, .inl hL, fun _ => ⟨rfl, by omega, rfl⟩⟩
      subst e; exact absurd hL (by decide)
  rename_i hL
  split at h
  · rename_i hD
    simp only [Bool.or_eq_true, beq_iff_eq] at hD
    generalize (if (c == 45) = true then r else c :: r).takeWhile isD = ds at h
    split at h
    · cases h
    · split at h
      · cases h
      · cases h
        refine ⟨.inr (.inl rfl), ⟨fun e => absurd e hL, fun e => by cases e⟩, ⟨fun e => ?_, fun e => by cases e⟩, hD.elim (fun h => .inr (.inl h)) (fun h => .inr (.inr (.inl h))), fun e => by cases e⟩
        subst e
        rcases hD with h | h
        · exact absurd h (by decide)
        · exact absurd h (by decide)
  split at h
  · rename_i hq
    split at h
    · cases h
    · split at h
      · cases h
      · cases h
        exact ⟨.inr (.inr (.inl rfl)), ⟨fun e => absurd e hL, fun e => by cases e⟩, ⟨fun _ => rfl, fun _ => hq⟩, .inr (.inr (.inr (.inl hq))), fun e => by cases e⟩
  rename_i hq
  split at h
  · rename_i hM
    cases h
    exact ⟨.inr (.inr (.inr rfl)), ⟨fun e => absurd e hL, fun e => by cases e⟩, ⟨fun e => absurd e hq, fun e => by cases e⟩, .inr (.inr (.inr (.inr hM))), fun e => by cases e⟩
  · cases h
end Go.Proofs.Ytlebppjldoodgaa

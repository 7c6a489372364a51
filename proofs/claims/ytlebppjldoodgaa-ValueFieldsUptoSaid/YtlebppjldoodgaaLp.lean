/-
  Laws of scans, third part: places ascend; names. No conditions beyond those that each names.
-/
import Derived.Test.YtlebppjldoodgaaLo
namespace Go.Proofs.Ytlebppjldoodgaa
/-- What the places of tokens of the text l satisfy. -/
def Places (l : List UInt8) (ts : List Tk) : Prop := ts ≠ [] ∧ ∀ i (h : i < ts.length),
  (ts[i].kind = 0 ↔ i + 1 = ts.length) ∧ (ts[i].kind = 0 → ts[i].at_ = l.length ∧ ts[i].text = [] ∧ ts[i].num = 0) ∧ (∀ h2 : i + 1 < ts.length, ts[i].at_ < ts[i + 1].at_) ∧ ts[i].kind ≤ 4 ∧
  (ts[i].kind ≠ 0 → ∃ h3 : ts[i].at_ < l.length, 32 < l[ts[i].at_].toNat ∧ l[ts[i].at_] ≠ 35 ∧ (l[ts[i].at_] = 34 ↔ ts[i].kind = 3) ∧ (isL l[ts[i].at_] = true ↔ ts[i].kind = 1))
theorem sc_places (n : Nat) : ∀ (pre l : List UInt8) (ts : List Tk), l.length ≤ n → (l = [] ∨ ∃ c r, l = c :: r ∧ isS c = false ∧ c ≠ 35) → sc l pre.length = .ok ts → Places (pre ++ l) ts ∧ ∀ h : 0 < ts.length, ts[0].at_ = pre.length := by
  induction n with
  | zero =>
    intro pre l ts hl _ h
    obtain rfl : l = [] := List.eq_nil_of_length_eq_zero (by omega)
    rw [sc_nil] at h
    injection h with h
    subst h
    refine ⟨⟨by simp, fun i hi => ?_⟩, fun _ => rfl⟩
    obtain rfl : i = 0 := by simpa using hi
    exact ⟨by simp, fun _ => ⟨by simp, rfl, rfl⟩, fun h2 => by simp at h2, by simp, fun h => absurd rfl h⟩
  | succ n ih =>
    intro pre l ts hl hh h
    rcases hh with rfl | ⟨c, r, rfl, hc1, hc2⟩
    · rw [sc_nil] at h
      injection h with h
      subst h
      refine ⟨⟨by simp, fun i hi => ?_⟩, fun _ => rfl⟩
      obtain rfl : i = 0 := by simpa using hi
      exact ⟨by simp, fun _ => ⟨by simp, rfl, rfl⟩, fun h2 => by simp at h2, by simp, fun h => absurd rfl h⟩
    · rw [sc_cons] at h
      cases ht : tok c r with
      | error x => rw [ht] at h; cases h
      | ok x =>
        obtain ⟨kd, t, m, k⟩ := x
        rw [ht] at h
        simp only at h
        obtain ⟨t1, t2, t3, t4, -⟩ := tok_ok ht
        obtain ⟨l', hl'⟩ : ∃ l', sk false (r.drop (k - 1)) = l' := ⟨_, rfl⟩
        rw [hl'] at h
        have hlen : l'.length ≤ r.length := by
          have := sk_length false (r.drop (k - 1))
          rw [hl', List.length_drop] at this
          omega
        have hhead := sk_head false (r.drop (k - 1))
        rw [hl'] at hhead
        -- l' is a suffix of r
        have hsuf : ∃ q, r = q ++ l' := by
          refine ⟨r.take (r.length - l'.length), ?_⟩
          have e1 := sk_drop false (r.drop (k - 1))
          rw [hl', List.drop_drop, List.length_drop] at e1
          have e2 : l' = r.drop (r.length - l'.length) := by
            by_cases hk : k - 1 ≤ r.length
            · have := sk_length false (r.drop (k - 1))
              rw [hl', List.length_drop] at this
              rw [show r.length - l'.length = k - 1 + (r.length - (k - 1) - l'.length) by omega]
              exact e1
            · have : l' = [] := by
                rw [← hl', List.drop_of_length_le (by omega)]; rfl
              subst this
              simp
          conv => lhs; rw [← List.take_append_drop (r.length - l'.length) r]
          rw [← e2]
        obtain ⟨q, hq⟩ := hsuf
        have hpl : pre.length + (r.length + 1 - l'.length) = (pre ++ c :: q).length := by rw [hq]; simp; omega
        rw [hpl] at h
        cases hs : sc l' (pre ++ c :: q).length with
        | error x => rw [hs] at h; cases h
        | ok us =>
          rw [hs] at h
          injection h with h
          subst h
          obtain ⟨⟨g1, g2⟩, g3⟩ := ih (pre ++ c :: q) l' us (by simp at hl; omega) hhead hs
          have hfull : pre ++ c :: q ++ l' = pre ++ c :: r := by rw [hq]; simp
          rw [hfull] at g2
          have hus : 0 < us.length := List.length_pos_iff.2 g1
          refine ⟨⟨by simp, fun i hi => ?_⟩, fun _ => rfl⟩
          cases i with
          | zero =>
            have hk0 : kd ≠ 0 := by omega
            refine ⟨⟨fun e => absurd e hk0, fun e => by simp at e; exact absurd e g1⟩, fun e => absurd e hk0, fun h2 => ?_, by show kd ≤ 4; omega, fun _ => ?_⟩
            · show pre.length < us[0].at_
              rw [g3 hus]
              simp
            · have hx : (pre ++ c :: r)[pre.length]? = some c := by simp
              have hlt : pre.length < (pre ++ c :: r).length := by simp
              have hx2 : (pre ++ c :: r)[pre.length] = c := by
                rw [List.getElem?_eq_getElem hlt] at hx
                exact Option.some.inj hx
              refine ⟨hlt, ?_⟩
              show 32 < ((pre ++ c :: r)[pre.length]).toNat ∧ (pre ++ c :: r)[pre.length] ≠ 35 ∧ ((pre ++ c :: r)[pre.length] = 34 ↔ kd = 3) ∧ (isL (pre ++ c :: r)[pre.length] = true ↔ kd = 1)
              rw [hx2]
              exact ⟨begin_facts c hc1 hc2 t4, hc2, t3, t2⟩
          | succ i =>
            have hi2 : i < us.length := by simpa using hi
            obtain ⟨a1, a2, a3, a4, a5⟩ := g2 i hi2
            refine ⟨?_, a2, fun h2 => a3 (by simpa using h2), a4, a5⟩
            show us[i].kind = 0 ↔ i + 1 + 1 = us.length + 1
            rw [a1]
            omega
theorem scan_places {l : List UInt8} {ts : List Tk} (h : scan l = .ok ts) : Places l ts := by
  unfold scan at h
  split at h
  · cases h
  have h1 := sk_length false l
  have h2 := sk_drop false l
  have h3 := sk_head false l
  generalize sk false l = m at *
  have e : l = l.take (l.length - m.length) ++ m := by
    conv => lhs; rw [← List.take_append_drop (l.length - m.length) l]
    rw [← h2]
  have hp : (l.take (l.length - m.length)).length = l.length - m.length := by rw [List.length_take]; omega
  rw [← hp] at h
  have := (sc_places m.length _ m ts (Nat.le_refl _) h3 h).1
  rw [← e] at this
  exact this
theorem sc_error (n : Nat) : ∀ (l : List UInt8) (p : Nat) (x : Nat × Nat), l.length ≤ n → sc l p = .error x → x.1 ≠ 0 ∧ x.2 ≤ p + l.length := by
  induction n with
  | zero =>
    intro l p x hl h
    obtain rfl : l = [] := List.eq_nil_of_length_eq_zero (by omega)
    rw [sc_nil] at h
    cases h
  | succ n ih =>
    intro l p x hl h
    cases l with
    | nil => rw [sc_nil] at h; cases h
    | cons c r =>
      rw [sc_cons] at h
      cases ht : tok c r with
      | error y =>
        obtain ⟨e, o⟩ := y
        rw [ht] at h
        cases h
        obtain ⟨h1, h2⟩ := tok_error ht
        refine ⟨by show e ≠ 0; omega, ?_⟩
        show p + o ≤ p + (r.length + 1)
        omega
      | ok y =>
        obtain ⟨kd, t, m, k⟩ := y
        rw [ht] at h
        simp only at h
        have hlen := sk_length false (r.drop (k - 1))
        rw [List.length_drop] at hlen
        generalize sk false (r.drop (k - 1)) = l' at *
        cases hs : sc l' (p + (r.length + 1 - l'.length)) with
        | error y =>
          rw [hs] at h
          injection h with h
          subst h
          obtain ⟨h1, h2⟩ := ih l' _ y (by simp at hl; omega) hs
          refine ⟨h1, ?_⟩
          rw [List.length_cons]
          omega
        | ok us => rw [hs] at h; cases h
theorem scan_error {l : List UInt8} {x : Nat × Nat} (h : scan l = .error x) : x.1 ≠ 0 ∧ x.2 ≤ l.length := by
  unfold scan at h
  split at h
  · cases h; exact ⟨by simp, by simp⟩
  have h1 := sk_length false l
  obtain ⟨g1, g2⟩ := sc_error _ _ _ _ (Nat.le_refl _) h
  exact ⟨g1, by omega⟩
/-- A name, and nothing else, is a name's token. -/
theorem scan_name (s : List UInt8) (h : isN s = true) : scan s = .ok [⟨1, s, 0, 0⟩, ⟨0, [], 0, s.length⟩] := by
  have e := scan_prs [⟨1, s, 0, 0⟩] (fun t ht hk => by obtain rfl : t = ⟨1, s, 0, 0⟩ := by simpa using ht
                                                       cases hk) (by
    show (prs [] [⟨1, s, 0, 0⟩]).length ≤ 4000
    rw [prs, if_pos (show okT ⟨1, s, 0, 0⟩ = true by simp [okT, h])]
    show ([] ++ s).length ≤ 4000
    unfold isN at h
    simp only [Bool.and_eq_true, decide_eq_true_eq] at h
    simp; omega)
  have hk : okT ⟨1, s, 0, 0⟩ = true := by simp [okT, h]
  rw [prs, if_pos hk, if_pos rfl, List.filter_cons_of_pos hk] at e
  simpa [prs, pr, pjs] using e
theorem name_scan (s : List UInt8) (t u : Tk) (h : scan s = .ok [t, u]) (hk : t.kind = 1) (ht : t.text = s) : isN s = true := by
  unfold scan at h
  split at h
  · cases h
  have h1 := sk_length false s
  generalize sk false s = m at *
  cases m with
  | nil => rw [sc_nil] at h; cases h
  | cons c r =>
    rw [sc_cons] at h
    cases hq : tok c r with
    | error y => rw [hq] at h; cases h
    | ok y =>
      obtain ⟨kd, tx, n, k⟩ := y
      rw [hq] at h
      simp only at h
      cases hs : sc (sk false (r.drop (k - 1))) (s.length - (c :: r).length + (r.length + 1 - (sk false (r.drop (k - 1))).length)) with
      | error y => rw [hs] at h; cases h
      | ok us =>
        rw [hs] at h
        injection h with h
        injection h with h2 h3
        subst h2
        simp only at hk ht
        subst hk
        subst ht
        obtain ⟨-, t2, -, -, t5⟩ := tok_ok hq
        obtain ⟨e1, e2, -⟩ := t5 rfl
        have hL : isL c = true := t2.2 rfl
        have hsub := (List.takeWhile_sublist isW (l := c :: r))
        rw [← e1] at hsub
        have e3 : tx = c :: r := hsub.eq_of_length_le h1
        unfold isN
        have hall : tx.all isW = true := by
          rw [e1]
          exact List.all_takeWhile
        rw [hall, e3]
        simp only [List.length_cons, List.head?_cons, Option.any_some, hL, Bool.and_true]
        rw [e3] at e2
        simp at e2
        simp
        omega
end Go.Proofs.Ytlebppjldoodgaa

/-
  Laws of scans: a printed list of tokens is scanned as it was; places; names. No conditions beyond those that each names.
-/
import Derived.Test.YtlebppjldoodgaaM01
namespace Go.Proofs.Ytlebppjldoodgaa
theorem byte_all {P : UInt8 → Prop} (h : ∀ n : Fin 256, P (UInt8.ofNat n.val)) (c : UInt8) : P c := by
  have := h ⟨c.toNat, c.toNat_lt⟩
  simpa using this
set_option maxRecDepth 100000 in
theorem mark_facts (c : UInt8) : isM c = true → isL c = false ∧ isD c = false ∧ (c == 45) = false ∧ c ≠ 34 ∧ isS c = false ∧ c ≠ 35 ∧ isW c = false := by
  refine byte_all (P := fun c => isM c = true → isL c = false ∧ isD c = false ∧ (c == 45) = false ∧ c ≠ 34 ∧ isS c = false ∧ c ≠ 35 ∧ isW c = false) ?_ c
  decide +kernel
set_option maxRecDepth 100000 in
theorem letter_facts (c : UInt8) : isL c = true → isS c = false ∧ c ≠ 35 ∧ 32 < c.toNat ∧ c ≠ 34 ∧ isD c = false ∧ (c == 45) = false := by
  refine byte_all (P := fun c => isL c = true → isS c = false ∧ c ≠ 35 ∧ 32 < c.toNat ∧ c ≠ 34 ∧ isD c = false ∧ (c == 45) = false) ?_ c
  decide +kernel
set_option maxRecDepth 100000 in
theorem digit_facts (c : UInt8) : isD c = true → isS c = false ∧ c ≠ 35 ∧ 32 < c.toNat ∧ c ≠ 34 ∧ isL c = false ∧ (c == 45) = false ∧ isW c = true := by
  refine byte_all (P := fun c => isD c = true → isS c = false ∧ c ≠ 35 ∧ 32 < c.toNat ∧ c ≠ 34 ∧ isL c = false ∧ (c == 45) = false ∧ isW c = true) ?_ c
  decide +kernel
set_option maxRecDepth 100000 in
theorem begin_facts (c : UInt8) : isS c = false → c ≠ 35 → (isL c = true ∨ isD c = true ∨ c = 45 ∨ c = 34 ∨ isM c = true) → 32 < c.toNat := by
  refine byte_all (P := fun c => isS c = false → c ≠ 35 → (isL c = true ∨ isD c = true ∨ c = 45 ∨ c = 34 ∨ isM c = true) → 32 < c.toNat) ?_ c
  decide +kernel
theorem sk_head (rm : Bool) (l : List UInt8) : sk rm l = [] ∨ ∃ c r, sk rm l = c :: r ∧ isS c = false ∧ c ≠ 35 := by
  induction l generalizing rm with
  | nil => exact .inl rfl
  | cons c r ih =>
    unfold sk
    split
    · exact ih _
    · rename_i h
      simp only [Bool.or_eq_true, not_or] at h
      exact .inr ⟨c, r, rfl, by simpa using h.2, by simpa using h.1.2⟩
theorem sk_keep {c : UInt8} (r : List UInt8) (h : isS c = false) (h2 : c ≠ 35) : sk false (c :: r) = c :: r := by
  unfold sk
  rw [if_neg]
  simp [h, h2]
theorem sk_space (l : List UInt8) : sk false (32 :: l) = sk false l := by
  rw [sk]
  simp [isS]
theorem sk_drop (rm : Bool) (l : List UInt8) : sk rm l = l.drop (l.length - (sk rm l).length) := by
  induction l generalizing rm with
  | nil => rfl
  | cons c r ih =>
    unfold sk
    split
    · have h1 := sk_length ((rm && c != 10) || c == 35) r
      rw [List.length_cons, show r.length + 1 - (sk ((rm && c != 10) || c == 35) r).length = (r.length - (sk ((rm && c != 10) || c == 35) r).length) + 1 by omega, List.drop_succ_cons]
      exact ih _
    · simp
theorem takeWhile_all {p : UInt8 → Bool} {a z : List UInt8} (h : ∀ c ∈ a, p c = true) (hz : z = [] ∨ ∃ d z', z = d :: z' ∧ p d = false) : (a ++ z).takeWhile p = a := by
  rw [List.takeWhile_append_of_pos h]
  rcases hz with rfl | ⟨d, z', rfl, hd⟩
  · simp
  · simp [hd]
/-- What may follow a printed token. -/
def After (z : List UInt8) : Prop := z = [] ∨ ∃ z', z = 32 :: z'
theorem After.stop {z : List UInt8} (h : After z) {p : UInt8 → Bool} (hp : p 32 = false) : z = [] ∨ ∃ d z', z = d :: z' ∧ p d = false := by
  rcases h with rfl | ⟨z', rfl⟩
  · exact .inl rfl
  · exact .inr ⟨_, _, rfl, hp⟩
/-! ### digits -/
theorem dval_snoc (l : List UInt8) (c : UInt8) : dval (l ++ [c]) = 10 * dval l + (c.toNat - 48) := by
  unfold dval
  rw [List.foldl_append, List.foldl_cons, List.foldl_nil]
theorem of_toNat' {n : Nat} (h : n < 256) : (UInt8.ofNat n).toNat = n := by rw [UInt8.toNat_ofNat']; exact Nat.mod_eq_of_lt h
theorem dg_small {n : Nat} (h : n < 10) : dg n = [UInt8.ofNat (48 + n)] := by rw [dg, if_pos h]
theorem dg_big {n : Nat} (h : ¬ n < 10) : dg n = dg (n / 10) ++ [UInt8.ofNat (48 + n % 10)] := by rw [dg, if_neg h]
theorem dg_facts (n : Nat) : dval (dg n) = n ∧ (∀ c ∈ dg n, isD c = true) ∧ dg n ≠ [] ∧ (n ≠ 0 → (dg n).head? ≠ some 48) ∧ (n < 10 → (dg n).length = 1) := by
  induction n using Nat.strongRecOn with
  | _ n ih =>
    by_cases h : n < 10
    · have hn : (UInt8.ofNat (48 + n)).toNat = 48 + n := of_toNat' (by omega)
      rw [dg_small h]
      refine ⟨by show 10 * 0 + ((UInt8.ofNat (48 + n)).toNat - 48) = n; rw [hn]; omega, fun c hc => ?_, by simp, fun h0 e => ?_, fun _ => rfl⟩
      · obtain rfl : c = UInt8.ofNat (48 + n) := by simpa using hc
        unfold isD; rw [hn]; simp; omega
      · have : UInt8.ofNat (48 + n) = 48 := by simpa using e
        have := congrArg UInt8.toNat this
        rw [hn] at this
        exact h0 (by simpa using this)
    · obtain ⟨h1, h2, h3, h4, _⟩ := ih (n / 10) (by omega)
      have hn : (UInt8.ofNat (48 + n % 10)).toNat = 48 + n % 10 := of_toNat' (by omega)
      rw [dg_big h]
      refine ⟨by rw [dval_snoc, h1, hn]; omega, fun c hc => ?_, by simp, fun _ => ?_, fun h5 => absurd h5 h⟩
      · rcases List.mem_append.1 hc with hc | hc
        · exact h2 c hc
        · obtain rfl : c = UInt8.ofNat (48 + n % 10) := by simpa using hc
          unfold isD; rw [hn]; simp; omega
      · rw [List.head?_append]
        cases hd : (dg (n / 10)).head? with
        | none => exact absurd (List.head?_eq_none_iff.1 hd) h3
        | some x =>
          simp only [Option.some_or]
          rw [← hd]
          exact h4 (by omega)
theorem numOf_dg {neg : Bool} {n : Nat} (h : n ≤ if neg then 9223372036854775808 else 9223372036854775807) (h0 : neg = true → n ≠ 0) : numOf neg (dg n) = .ok (if neg then -(n : Int) else (n : Int)) := by
  obtain ⟨h1, h2, h3, h4, h5⟩ := dg_facts n
  unfold numOf
  rw [if_neg, if_neg (by rw [h1]; omega), h1]
  rintro (h | ⟨h, h6⟩ | ⟨h, h6⟩)
  · exact h3 (List.eq_nil_of_length_eq_zero h)
  · by_cases hn : n < 10
    · rw [h5 hn] at h; omega
    · exact h4 (by omega) h6
  · exact h4 (h0 h) h6
/-! ### strings -/
theorem qs_cons (c : UInt8) (r : List UInt8) (i : Nat) (out : List UInt8) : qs (c :: r) i out = if c = 34 then .ok (out, i + 1) else if c.toNat < 32 ∨ 126 < c.toNat then .error i else if c = 92 then (match r with | [] => .error i | d :: r => if d = 34 ∨ d = 92 then qs r (i + 2) (out ++ [d]) else .error i) else qs r (i + 1) (out ++ [c]) := by
  rw [qs.eq_def]
  rfl
theorem qs_esc (t : List UInt8) : ∀ (i : Nat) (out z : List UInt8), (∀ c ∈ t, 32 ≤ c.toNat ∧ c.toNat ≤ 126) → qs (esc t ++ 34 :: z) i out = .ok (out ++ t, i + (esc t).length + 1) := by
  induction t with
  | nil => intro i out z _; rw [esc, List.nil_append, qs_cons]; simp
  | cons c t ih =>
    intro i out z h
    obtain ⟨hc, ht⟩ := List.forall_mem_cons.1 h
    by_cases he : c = 34 ∨ c = 92
    · rw [esc, if_pos he, List.cons_append, List.cons_append, qs_cons]
      rw [if_neg (by decide), if_neg (by decide), if_pos rfl]
      simp only
      rw [if_pos he, ih _ _ _ ht]
      simp; omega
    · rw [esc, if_neg he, List.cons_append, qs_cons]
      rw [if_neg (fun e => he (.inl e)), if_neg (by omega), if_neg (fun e => he (.inr e)), ih _ _ _ ht]
      simp; omega
/-- A printed token is read as it was. -/
theorem tok_pr {t : Tk} (h : okT t = true) (hn : t.kind = 2 → -9223372036854775808 ≤ t.num ∧ t.num ≤ 9223372036854775807) {z : List UInt8} (hz : After z) :
    ∃ c r, pr t = c :: r ∧ isS c = false ∧ c ≠ 35 ∧ tok c (r ++ z) = .ok (t.kind, t.text, t.num, (pr t).length) := by
  obtain ⟨kd, tx, n, p⟩ := t
  simp only at hn
  unfold okT at h
  simp only at h
  unfold pr
  simp only
  have hw : isW 32 = false := by decide
  have hd : isD 32 = false := by decide
  by_cases k1 : kd = 1
  · subst k1
    simp only [if_true, Bool.and_eq_true, beq_iff_eq] at h
    obtain ⟨h1, rfl⟩ := h
    unfold isN at h1
    simp only [Bool.and_eq_true, decide_eq_true_eq, List.all_eq_true] at h1
    obtain ⟨⟨⟨h1, h2⟩, h3⟩, h4⟩ := h1
    rw [if_neg (by decide), if_neg (by decide)]
    cases tx with
    | nil => simp at h1
    | cons c r =>
      have hL : isL c = true := by simpa using h3
      obtain ⟨f1, f2, -⟩ := letter_facts c hL
      refine ⟨c, r, rfl, f1, f2, ?_⟩
      have e : (c :: (r ++ z)).takeWhile isW = c :: r := takeWhile_all (a := c :: r) h4 (hz.stop hw)
      have e2 : (c :: (r ++ z)).drop (c :: r).length = z := by rw [← List.cons_append, List.drop_left]
      unfold tok
      rw [if_pos hL, e, if_neg (by omega), e2, if_neg]
      rcases hz with rfl | ⟨z', rfl⟩
      · simp
      · simp
  · by_cases k2 : kd = 2
    · subst k2
      simp only [if_true, if_neg (show ¬ (2 : Nat) = 1 by decide), beq_iff_eq] at h
      subst h
      obtain ⟨n1, n2⟩ := hn rfl
      rw [if_pos rfl]
      obtain ⟨g1, g2, g3, g4, g5⟩ := dg_facts n.natAbs
      have hany : ∀ m : List UInt8, (z.head?.any fun d => isW d || d == 45) = false := by
        intro _
        rcases hz with rfl | ⟨z', rfl⟩
        · rfl
        · show (isW 32 || (32 : UInt8) == 45) = false
          decide
      unfold dec
      by_cases hneg : n < 0
      · rw [if_pos hneg]
        refine ⟨45, dg n.natAbs, rfl, by decide, by decide, ?_⟩
        have e : (dg n.natAbs ++ z).takeWhile isD = dg n.natAbs := takeWhile_all g2 (hz.stop hd)
        unfold tok
        rw [if_neg (by decide), if_pos (by decide)]
        simp only [show ((45 : UInt8) == 45) = true from rfl, if_true, e]
        rw [numOf_dg (by simp; omega) (by intro _; omega)]
        simp only [if_true]
        rw [show (45 :: (dg n.natAbs ++ z)).drop ((true).toNat + (dg n.natAbs).length) = z by
          rw [show (true).toNat + (dg n.natAbs).length = (dg n.natAbs).length + 1 by simp [Nat.add_comm], List.drop_succ_cons, List.drop_left], hany []]
        simp only [Bool.false_eq_true, if_false, List.length_cons]
        congr 4
        · omega
        · simp [Nat.add_comm]
      · rw [if_neg hneg]
        cases hdg : dg n.natAbs with
        | nil => exact absurd hdg g3
        | cons c r =>
          have hc : isD c = true := g2 c (by rw [hdg]; exact List.mem_cons_self ..)
          obtain ⟨f1, f2, -, f4, f5, f6, -⟩ := digit_facts c hc
          refine ⟨c, r, rfl, f1, f2, ?_⟩
          have e : (c :: (r ++ z)).takeWhile isD = c :: r := takeWhile_all (a := c :: r) (by rw [← hdg]; exact g2) (hz.stop hd)
          unfold tok
          rw [if_neg (by rw [f5]; decide), if_pos (by rw [hc]; rfl)]
          simp only [f6, Bool.false_eq_true, if_false, e]
          rw [← hdg, numOf_dg (by simp; omega) (by intro h; cases h), hdg]
          simp only [Bool.false_eq_true, if_false]
          rw [show (c :: (r ++ z)).drop ((false).toNat + (c :: r).length) = z by
            rw [show (false).toNat + (c :: r).length = (c :: r).length by simp, ← List.cons_append, List.drop_left], hany []]
          simp only [Bool.false_eq_true, if_false]
          congr 4
          · omega
          · simp
    · by_cases k3 : kd = 3
      · subst k3
        simp only [if_true, if_neg (show ¬ (3 : Nat) = 1 by decide), if_neg (show ¬ (3 : Nat) = 2 by decide), Bool.and_eq_true, beq_iff_eq, decide_eq_true_eq, List.all_eq_true] at h
        obtain ⟨⟨h1, h2⟩, rfl⟩ := h
        rw [if_neg (by decide), if_pos rfl]
        refine ⟨34, esc tx ++ [34], rfl, by decide, by decide, ?_⟩
        unfold tok
        rw [if_neg (by decide), if_neg (by decide), if_pos rfl, List.append_assoc, List.singleton_append, qs_esc tx 1 [] z (fun c hc => h1 c hc)]
        simp only [List.nil_append]
        rw [if_neg (by omega)]
        congr 4
        simp [quo]; omega
      · by_cases k4 : kd = 4
        · subst k4
          simp only [if_true, if_neg (show ¬ (4 : Nat) = 1 by decide), if_neg (show ¬ (4 : Nat) = 2 by decide), if_neg (show ¬ (4 : Nat) = 3 by decide), Bool.and_eq_true, beq_iff_eq] at h
          obtain ⟨h1, rfl⟩ := h
          rw [if_neg (by decide), if_neg (by decide)]
          match tx, h1 with
          | [c], h1 =>
            obtain ⟨f1, f2, f3, f4, f5, f6, -⟩ := mark_facts c h1
            refine ⟨c, [], rfl, f5, f6, ?_⟩
            unfold tok
            rw [if_neg (by rw [f1]; decide), if_neg (by rw [f2, f3]; decide), if_neg f4, if_pos h1]
            rfl
        · rw [if_neg k1, if_neg k2, if_neg k3, if_neg k4] at h
          cases h
end Go.Proofs.Ytlebppjldoodgaa
/-
  Laws of scans, second part: a printed list is scanned as it was; places ascend; names. No conditions beyond those that each names.
-/
namespace Go.Proofs.Ytlebppjldoodgaa
theorem sc_nil (p : Nat) : sc [] p = .ok [⟨0, [], 0, p⟩] := by rw [sc]
theorem sc_cons (c : UInt8) (r : List UInt8) (p : Nat) : sc (c :: r) p = (match tok c r with
    | .error (e, o) => .error (e, p + o)
    | .ok (kd, t, n, k) => match sc (sk false (r.drop (k - 1))) (p + (r.length + 1 - (sk false (r.drop (k - 1))).length)) with
      | .error x => .error x
      | .ok ts => .ok (⟨kd, t, n, p⟩ :: ts)) := by
  rw [sc]
  rfl
/-- Tokens as printed. -/
def pj : List Tk → List UInt8
  | [] => []
  | [t] => pr t
  | t :: u :: ts => pr t ++ 32 :: pj (u :: ts)
/-- The tokens that a scan of printed tokens gives. -/
def pjs : List Tk → Nat → List Tk
  | [], p => [⟨0, [], 0, p⟩]
  | [t], p => [{ t with at_ := p }, ⟨0, [], 0, p + (pr t).length⟩]
  | t :: u :: ts, p => { t with at_ := p } :: pjs (u :: ts) (p + (pr t).length + 1)
def numIn (t : Tk) : Prop := t.kind = 2 → -9223372036854775808 ≤ t.num ∧ t.num ≤ 9223372036854775807
theorem pj_head (t : Tk) (ts : List Tk) (h : okT t = true) (hn : numIn t) : ∃ c r, pj (t :: ts) = c :: r ∧ isS c = false ∧ c ≠ 35 := by
  obtain ⟨c, r, h1, h2, h3, -⟩ := tok_pr h hn (z := []) (.inl rfl)
  cases ts with
  | nil => exact ⟨c, r, h1, h2, h3⟩
  | cons u ts => exact ⟨c, r ++ 32 :: pj (u :: ts), by show pr t ++ _ = _; rw [h1]; rfl, h2, h3⟩
theorem sc_pj (ts : List Tk) : ∀ p, (∀ t ∈ ts, okT t = true ∧ numIn t) → sc (pj ts) p = .ok (pjs ts p) := by
  induction ts with
  | nil => intro p _; exact sc_nil p
  | cons t ts ih =>
    intro p h
    obtain ⟨⟨ht, hn⟩, hts⟩ := List.forall_mem_cons.1 h
    cases ts with
    | nil =>
      obtain ⟨c, r, h1, h2, h3, h4⟩ := tok_pr ht hn (z := []) (.inl rfl)
      rw [List.append_nil] at h4
      show sc (pr t) p = _
      rw [h1, sc_cons, h4, h1]
      simp only [List.length_cons, Nat.add_sub_cancel, List.drop_length]
      rw [show sk false [] = [] from rfl, sc_nil]
      simp [pjs, h1]
    | cons u ts =>
      obtain ⟨c, r, h1, h2, h3, h4⟩ := tok_pr ht hn (z := 32 :: pj (u :: ts)) (.inr ⟨_, rfl⟩)
      obtain ⟨d, r2, g1, g2, g3⟩ := pj_head u ts (hts u (List.mem_cons_self ..)).1 (hts u (List.mem_cons_self ..)).2
      have hsk : sk false (32 :: pj (u :: ts)) = pj (u :: ts) := by rw [sk_space, g1]; exact sk_keep r2 g2 g3
      have e : pj (t :: u :: ts) = c :: (r ++ 32 :: pj (u :: ts)) := by show pr t ++ _ = _; rw [h1]; rfl
      rw [e, sc_cons, h4, h1]
      simp only [List.length_cons, Nat.add_sub_cancel, List.drop_left, hsk]
      rw [show p + ((r ++ 32 :: pj (u :: ts)).length + 1 - (pj (u :: ts)).length) = p + (pr t).length + 1 by rw [h1]; simp; omega, ih _ hts]
      rfl
theorem prs_ne (ts : List Tk) : ∀ s, s ≠ [] → prs s ts = s ++ (if ts.filter okT = [] then [] else 32 :: pj (ts.filter okT)) := by
  induction ts with
  | nil => intro s _; simp [prs]
  | cons t ts ih =>
    intro s hs
    rw [prs]
    by_cases h : okT t = true
    · rw [if_pos h, if_neg hs, List.filter_cons_of_pos h, ih _ (by simp)]
      cases hf : ts.filter okT with
      | nil => simp [pj]
      | cons u us => simp [pj]
    · rw [if_neg h, List.filter_cons_of_neg h, ih s hs]
theorem prs_pj (ts : List Tk) (hn : ∀ t ∈ ts, numIn t) : prs [] ts = pj (ts.filter okT) := by
  induction ts with
  | nil => rfl
  | cons t ts ih =>
    obtain ⟨h1, h2⟩ := List.forall_mem_cons.1 hn
    rw [prs]
    by_cases h : okT t = true
    · obtain ⟨c, r, g, -⟩ := tok_pr h h1 (z := []) (.inl rfl)
      rw [if_pos h, List.filter_cons_of_pos h, if_pos rfl, List.nil_append, prs_ne _ _ (by rw [g]; simp)]
      cases hf : ts.filter okT with
      | nil => simp [pj]
      | cons u us => simp [pj]
    · rw [if_neg h, List.filter_cons_of_neg h]
      exact ih h2
/-- A printed list is scanned as it was, without the tokens that can't be. -/
theorem scan_prs (ts : List Tk) (hn : ∀ t ∈ ts, numIn t) (hl : (prs [] ts).length ≤ 4000) : scan (prs [] ts) = .ok (pjs (ts.filter okT) 0) := by
  have hall : ∀ t ∈ ts.filter okT, okT t = true ∧ numIn t := fun t ht => ⟨(List.mem_filter.1 ht).2, hn t (List.mem_filter.1 ht).1⟩
  have e := prs_pj ts hn
  unfold scan
  rw [if_neg (by omega), e]
  have hsk : sk false (pj (ts.filter okT)) = pj (ts.filter okT) := by
    cases hf : ts.filter okT with
    | nil => rfl
    | cons u us =>
      rw [hf] at hall
      obtain ⟨d, r2, g1, g2, g3⟩ := pj_head u us (hall u (List.mem_cons_self ..)).1 (hall u (List.mem_cons_self ..)).2
      rw [g1]
      exact sk_keep r2 g2 g3
  rw [hsk, Nat.sub_self]
  exact sc_pj _ 0 hall
theorem pjs_at (ts : List Tk) : ∀ p, (pjs ts p).length = ts.length + 1 ∧ (∀ k (h : k < ts.length) (h2 : k < (pjs ts p).length), (pjs ts p)[k].kind = ts[k].kind ∧ (pjs ts p)[k].text = ts[k].text ∧ (pjs ts p)[k].num = ts[k].num) ∧ ∀ h : ts.length < (pjs ts p).length, (pjs ts p)[ts.length].kind = 0 := by
  induction ts with
  | nil => intro p; exact ⟨rfl, (fun k h => by cases h), fun _ => rfl⟩
  | cons t ts ih =>
    intro p
    cases ts with
    | nil =>
      refine ⟨rfl, fun k h _ => ?_, fun _ => rfl⟩
      obtain rfl : k = 0 := by simpa using h
      exact ⟨rfl, rfl, rfl⟩
    | cons u ts =>
      obtain ⟨h1, h2, h3⟩ := ih (p + (pr t).length + 1)
      refine ⟨by show (_ :: pjs (u :: ts) _).length = _; rw [List.length_cons, h1]; rfl, fun k h hk => ?_, fun h => ?_⟩
      · cases k with
        | zero => exact ⟨rfl, rfl, rfl⟩
        | succ k => exact h2 k (by simpa using h) (by rw [h1]; simp at h ⊢; omega)
      · exact h3 (by rw [h1]; simp)
/-! ### places -/
theorem qs_error (l : List UInt8) : ∀ (n : Nat), l.length ≤ n → ∀ (i : Nat) (out : List UInt8) (j : Nat), qs l i out = .error j → j ≤ i + l.length := by
  intro n
  induction n generalizing l with
  | zero =>
    intro hl i out j h
    obtain rfl : l = [] := List.eq_nil_of_length_eq_zero (by omega)
    rw [qs] at h
    injection h with h
    omega
  | succ n ih =>
    intro hl i out j h
    cases l with
    | nil => rw [qs] at h; injection h with h; omega
    | cons c r =>
      rw [List.length_cons] at hl
      rw [qs_cons] at h
      split at h
      · cases h
      split at h
      · injection h with h; simp; omega
      split at h
      · cases r with
        | nil => injection h with h; simp; omega
        | cons d r =>
          simp only at h
          split at h
          · have := ih r (by simp at hl; omega) _ _ _ h
            simp; omega
          · injection h with h; simp; omega
      · have := ih r (by omega) _ _ _ h
        simp; omega
theorem tok_error {c : UInt8} {r : List UInt8} {e o : Nat} (h : tok c r = .error (e, o)) : (e = 2 ∨ e = 3 ∨ e = 4) ∧ o ≤ r.length + 1 := by
  have hW : ((c :: r).takeWhile isW).length ≤ r.length + 1 := by have := (List.takeWhile_sublist isW (l := c :: r)).length_le; simpa using this
  unfold tok at h
  split at h
  · split at h
    · cases h; exact ⟨.inr (.inl rfl), by omega⟩
    split at h
    · cases h; exact ⟨.inl rfl, hW⟩
    · cases h
  split at h
  · have hD : (c == 45).toNat + ((if (c == 45) = true then r else c :: r).takeWhile isD).length ≤ r.length + 1 := by
      have h1 := (List.takeWhile_sublist isD (l := r)).length_le
      have h2 := (List.takeWhile_sublist isD (l := c :: r)).length_le
      rw [List.length_cons] at h2
      cases hc : c == 45 <;> simp <;> omega
    generalize (if (c == 45) = true then r else c :: r).takeWhile isD = ds at h hD
    split at h
    · rename_i e' _
      cases h
      refine ⟨?_, by omega⟩
      by_cases he : e' = 1 <;> simp [he]
    · split at h
      · cases h; exact ⟨.inl rfl, hD⟩
      · cases h
  split at h
  · split at h
    · rename_i i hq
      cases h
      have := qs_error r r.length (Nat.le_refl _) _ _ _ hq
      exact ⟨.inl rfl, by omega⟩
    · split at h
      · cases h; exact ⟨.inr (.inl rfl), by omega⟩
      · cases h
  split at h
  · cases h
  · cases h; exact ⟨.inl rfl, by omega⟩
theorem tok_ok {c : UInt8} {r t : List UInt8} {kd k : Nat} {n : Int} (h : tok c r = .ok (kd, t, n, k)) :
    (kd = 1 ∨ kd = 2 ∨ kd = 3 ∨ kd = 4) ∧ (isL c = true ↔ kd = 1) ∧ (c = 34 ↔ kd = 3) ∧ (isL c = true ∨ isD c = true ∨ c = 45 ∨ c = 34 ∨ isM c = true) ∧ (kd = 1 → t = (c :: r).takeWhile isW ∧ t.length ≤ 16 ∧ k = t.length) := by
  unfold tok at h
  split at h
  · rename_i hL
    split at h
    · cases h
    split at h
    · cases h
    · cases h
      refine ⟨.inl rfl, by simp [hL], ⟨fun e => ?_, fun e => by cases e⟩, .inl hL, fun _ => ⟨rfl, by omega, rfl⟩⟩
      subst e; exact absurd hL (by decide)
  rename_i hL
  split at h
  · rename_i hD
    simp only [Bool.or_eq_true, beq_iff_eq] at hD
    generalize (if (c == 45) = true then r else c :: r).takeWhile isD = ds at h
    split at h
    · cases h
    · split at h
      · cases h
      · cases h
        refine ⟨.inr (.inl rfl), ⟨fun e => absurd e hL, fun e => by cases e⟩, ⟨fun e => ?_, fun e => by cases e⟩, hD.elim (fun h => .inr (.inl h)) (fun h => .inr (.inr (.inl h))), fun e => by cases e⟩
        subst e
        rcases hD with h | h
        · exact absurd h (by decide)
        · exact absurd h (by decide)
  split at h
  · rename_i hq
    split at h
    · cases h
    · split at h
      · cases h
      · cases h
        exact ⟨.inr (.inr (.inl rfl)), ⟨fun e => absurd e hL, fun e => by cases e⟩, ⟨fun _ => rfl, fun _ => hq⟩, .inr (.inr (.inr (.inl hq))), fun e => by cases e⟩
  rename_i hq
  split at h
  · rename_i hM
    cases h
    exact ⟨.inr (.inr (.inr rfl)), ⟨fun e => absurd e hL, fun e => by cases e⟩, ⟨fun e => absurd e hq, fun e => by cases e⟩, .inr (.inr (.inr (.inr hM))), fun e => by cases e⟩
  · cases h
end Go.Proofs.Ytlebppjldoodgaa
/-
  Laws of scans, third part: places ascend; names. No conditions beyond those that each names.
-/
namespace Go.Proofs.Ytlebppjldoodgaa
/-- What the places of tokens of the text l satisfy. -/
def Places (l : List UInt8) (ts : List Tk) : Prop := ts ≠ [] ∧ ∀ i (h : i < ts.length),
  (ts[i].kind = 0 ↔ i + 1 = ts.length) ∧ (ts[i].kind = 0 → ts[i].at_ = l.length ∧ ts[i].text = [] ∧ ts[i].num = 0) ∧ (∀ h2 : i + 1 < ts.length, ts[i].at_ < ts[i + 1].at_) ∧ ts[i].kind ≤ 4 ∧
  (ts[i].kind ≠ 0 → ∃ h3 : ts[i].at_ < l.length, 32 < l[ts[i].at_].toNat ∧ l[ts[i].at_] ≠ 35 ∧ (l[ts[i].at_] = 34 ↔ ts[i].kind = 3) ∧ (isL l[ts[i].at_] = true ↔ ts[i].kind = 1))
theorem sc_places (n : Nat) : ∀ (pre l : List UInt8) (ts : List Tk), l.length ≤ n → (l = [] ∨ ∃ c r, l = c :: r ∧ isS c = false ∧ c ≠ 35) → sc l pre.length = .ok ts → Places (pre ++ l) ts ∧ ∀ h : 0 < ts.length, ts[0].at_ = pre.length := by
  induction n with
  | zero =>
    intro pre l ts hl _ h
    obtain rfl : l = [] := List.eq_nil_of_length_eq_zero (by omega)
    rw [sc_nil] at h
    injection h with h
    subst h
    refine ⟨⟨by simp, fun i hi => ?_⟩, fun _ => rfl⟩
    obtain rfl : i = 0 := by simpa using hi
    exact ⟨by simp, fun _ => ⟨by simp, rfl, rfl⟩, fun h2 => by simp at h2, by simp, fun h => absurd rfl h⟩
  | succ n ih =>
    intro pre l ts hl hh h
    rcases hh with rfl | ⟨c, r, rfl, hc1, hc2⟩
    · rw [sc_nil] at h
      injection h with h
      subst h
      refine ⟨⟨by simp, fun i hi => ?_⟩, fun _ => rfl⟩
      obtain rfl : i = 0 := by simpa using hi
      exact ⟨by simp, fun _ => ⟨by simp, rfl, rfl⟩, fun h2 => by simp at h2, by simp, fun h => absurd rfl h⟩
    · rw [sc_cons] at h
      cases ht : tok c r with
      | error x => rw [ht] at h; cases h
      | ok x =>
        obtain ⟨kd, t, m, k⟩ := x
        rw [ht] at h
        simp only at h
        obtain ⟨t1, t2, t3, t4, -⟩ := tok_ok ht
        obtain ⟨l', hl'⟩ : ∃ l', sk false (r.drop (k - 1)) = l' := ⟨_, rfl⟩
        rw [hl'] at h
        have hlen : l'.length ≤ r.length := by
          have := sk_length false (r.drop (k - 1))
          rw [hl', List.length_drop] at this
          omega
        have hhead := sk_head false (r.drop (k - 1))
        rw [hl'] at hhead
        -- l' is a suffix of r
        have hsuf : ∃ q, r = q ++ l' := by
          refine ⟨r.take (r.length - l'.length), ?_⟩
          have e1 := sk_drop false (r.drop (k - 1))
          rw [hl', List.drop_drop, List.length_drop] at e1
          have e2 : l' = r.drop (r.length - l'.length) := by
            by_cases hk : k - 1 ≤ r.length
            · have := sk_length false (r.drop (k - 1))
              rw [hl', List.length_drop] at this
              rw [show r.length - l'.length = k - 1 + (r.length - (k - 1) - l'.length) by omega]
              exact e1
            · have : l' = [] := by
                rw [← hl', List.drop_of_length_le (by omega)]; rfl
              subst this
              simp
          conv => lhs; rw [← List.take_append_drop (r.length - l'.length) r]
          rw [← e2]
        obtain ⟨q, hq⟩ := hsuf
        have hpl : pre.length + (r.length + 1 - l'.length) = (pre ++ c :: q).length := by rw [hq]; simp; omega
        rw [hpl] at h
        cases hs : sc l' (pre ++ c :: q).length with
        | error x => rw [hs] at h; cases h
        | ok us =>
          rw [hs] at h
          injection h with h
          subst h
          obtain ⟨⟨g1, g2⟩, g3⟩ := ih (pre ++ c :: q) l' us (by simp at hl; omega) hhead hs
          have hfull : pre ++ c :: q ++ l' = pre ++ c :: r := by rw [hq]; simp
          rw [hfull] at g2
          have hus : 0 < us.length := List.length_pos_iff.2 g1
          refine ⟨⟨by simp, fun i hi => ?_⟩, fun _ => rfl⟩
          cases i with
          | zero =>
            have hk0 : kd ≠ 0 := by omega
            refine ⟨⟨fun e => absurd e hk0, fun e => by simp at e; exact absurd e g1⟩, fun e => absurd e hk0, fun h2 => ?_, by show kd ≤ 4; omega, fun _ => ?_⟩
            · show pre.length < us[0].at_
              rw [g3 hus]
              simp
            · have hx : (pre ++ c :: r)[pre.length]? = some c := by simp
              have hlt : pre.length < (pre ++ c :: r).length := by simp
              have hx2 : (pre ++ c :: r)[pre.length] = c := by
                rw [List.getElem?_eq_getElem hlt] at hx
                exact Option.some.inj hx
              refine ⟨hlt, ?_⟩
              show 32 < ((pre ++ c :: r)[pre.length]).toNat ∧ (pre ++ c :: r)[pre.length] ≠ 35 ∧ ((pre ++ c :: r)[pre.length] = 34 ↔ kd = 3) ∧ (isL (pre ++ c :: r)[pre.length] = true ↔ kd = 1)
              rw [hx2]
              exact ⟨begin_facts c hc1 hc2 t4, hc2, t3, t2⟩
          | succ i =>
            have hi2 : i < us.length := by simpa using hi
            obtain ⟨a1, a2, a3, a4, a5⟩ := g2 i hi2
            refine ⟨?_, a2, fun h2 => a3 (by simpa using h2), a4, a5⟩
            show us[i].kind = 0 ↔ i + 1 + 1 = us.length + 1
            rw [a1]
            omega
theorem scan_places {l : List UInt8} {ts : List Tk} (h : scan l = .ok ts) : Places l ts := by
  unfold scan at h
  split at h
  · cases h
  have h1 := sk_length false l
  have h2 := sk_drop false l
  have h3 := sk_head false l
  generalize sk false l = m at *
  have e : l = l.take (l.length - m.length) ++ m := by
    conv => lhs; rw [← List.take_append_drop (l.length - m.length) l]
    rw [← h2]
  have hp : (l.take (l.length - m.length)).length = l.length - m.length := by rw [List.length_take]; omega
  rw [← hp] at h
  have := (sc_places m.length _ m ts (Nat.le_refl _) h3 h).1
  rw [← e] at this
  exact this
theorem sc_error (n : Nat) : ∀ (l : List UInt8) (p : Nat) (x : Nat × Nat), l.length ≤ n → sc l p = .error x → x.1 ≠ 0 ∧ x.2 ≤ p + l.length := by
  induction n with
  | zero =>
    intro l p x hl h
    obtain rfl : l = [] := List.eq_nil_of_length_eq_zero (by omega)
    rw [sc_nil] at h
    cases h
  | succ n ih =>
    intro l p x hl h
    cases l with
    | nil => rw [sc_nil] at h; cases h
    | cons c r =>
      rw [sc_cons] at h
      cases ht : tok c r with
      | error y =>
        obtain ⟨e, o⟩ := y
        rw [ht] at h
        cases h
        obtain ⟨h1, h2⟩ := tok_error ht
        refine ⟨by show e ≠ 0; omega, ?_⟩
        show p + o ≤ p + (r.length + 1)
        omega
      | ok y =>
        obtain ⟨kd, t, m, k⟩ := y
        rw [ht] at h
        simp only at h
        have hlen := sk_length false (r.drop (k - 1))
        rw [List.length_drop] at hlen
        generalize sk false (r.drop (k - 1)) = l' at *
        cases hs : sc l' (p + (r.length + 1 - l'.length)) with
        | error y =>
          rw [hs] at h
          injection h with h
          subst h
          obtain ⟨h1, h2⟩ := ih l' _ y (by simp at hl; omega) hs
          refine ⟨h1, ?_⟩
          rw [List.length_cons]
          omega
        | ok us => rw [hs] at h; cases h
theorem scan_error {l : List UInt8} {x : Nat × Nat} (h : scan l = .error x) : x.1 ≠ 0 ∧ x.2 ≤ l.length := by
  unfold scan at h
  split at h
  · cases h; exact ⟨by simp, by simp⟩
  have h1 := sk_length false l
  obtain ⟨g1, g2⟩ := sc_error _ _ _ _ (Nat.le_refl _) h
  exact ⟨g1, by omega⟩
/-- A name, and nothing else, is a name's token. -/
theorem scan_name (s : List UInt8) (h : isN s = true) : scan s = .ok [⟨1, s, 0, 0⟩, ⟨0, [], 0, s.length⟩] := by
  have e := scan_prs [⟨1, s, 0, 0⟩] (fun t ht hk => by obtain rfl : t = ⟨1, s, 0, 0⟩ := by simpa using ht
                                                       cases hk) (by
    show (prs [] [⟨1, s, 0, 0⟩]).length ≤ 4000
    rw [prs, if_pos (show okT ⟨1, s, 0, 0⟩ = true by simp [okT, h])]
    show ([] ++ s).length ≤ 4000
    unfold isN at h
    simp only [Bool.and_eq_true, decide_eq_true_eq] at h
    simp; omega)
  have hk : okT ⟨1, s, 0, 0⟩ = true := by simp [okT, h]
  rw [prs, if_pos hk, if_pos rfl, List.filter_cons_of_pos hk] at e
  simpa [prs, pr, pjs] using e
theorem name_scan (s : List UInt8) (t u : Tk) (h : scan s = .ok [t, u]) (hk : t.kind = 1) (ht : t.text = s) : isN s = true := by
  unfold scan at h
  split at h
  · cases h
  have h1 := sk_length false s
  generalize sk false s = m at *
  cases m with
  | nil => rw [sc_nil] at h; cases h
  | cons c r =>
    rw [sc_cons] at h
    cases hq : tok c r with
    | error y => rw [hq] at h; cases h
    | ok y =>
      obtain ⟨kd, tx, n, k⟩ := y
      rw [hq] at h
      simp only at h
      cases hs : sc (sk false (r.drop (k - 1))) (s.length - (c :: r).length + (r.length + 1 - (sk false (r.drop (k - 1))).length)) with
      | error y => rw [hs] at h; cases h
      | ok us =>
        rw [hs] at h
        injection h with h
        injection h with h2 h3
        subst h2
        simp only at hk ht
        subst hk
        subst ht
        obtain ⟨-, t2, -, -, t5⟩ := tok_ok hq
        obtain ⟨e1, e2, -⟩ := t5 rfl
        have hL : isL c = true := t2.2 rfl
        have hsub := (List.takeWhile_sublist isW (l := c :: r))
        rw [← e1] at hsub
        have e3 : tx = c :: r := hsub.eq_of_length_le h1
        unfold isN
        have hall : tx.all isW = true := by
          rw [e1]
          exact List.all_takeWhile
        rw [hall, e3]
        simp only [List.length_cons, List.head?_cons, Option.any_some, hL, Bool.and_true]
        rw [e3] at e2
        simp at e2
        simp
        omega
end Go.Proofs.Ytlebppjldoodgaa
/-
  Schemas as data, and that their descriptions tell them apart. No conditions beyond those that each names.
-/
namespace Go.Proofs.Ytlebppjldoodgaa
/-- A varint's bytes. -/
def uv (n : Nat) : List UInt8 := if n < 128 then [UInt8.ofNat n] else UInt8.ofNat (128 + n % 128) :: uv (n / 128)
termination_by n
decreasing_by omega
theorem uv_small {n : Nat} (h : n < 128) : uv n = [UInt8.ofNat n] := by rw [uv, if_pos h]
theorem uv_big {n : Nat} (h : ¬ n < 128) : uv n = UInt8.ofNat (128 + n % 128) :: uv (n / 128) := by rw [uv, if_neg h]
theorem of_nat_inj {a b : Nat} (ha : a < 256) (hb : b < 256) (h : UInt8.ofNat a = UInt8.ofNat b) : a = b := by
  have := congrArg UInt8.toNat h
  rw [UInt8.toNat_ofNat', UInt8.toNat_ofNat'] at this
  rw [Nat.mod_eq_of_lt ha, Nat.mod_eq_of_lt hb] at this
  exact this
theorem uv_inj (n : Nat) : ∀ (m : Nat) (r s : List UInt8), uv n ++ r = uv m ++ s → n = m ∧ r = s := by
  induction n using Nat.strongRecOn with
  | ind n ih =>
    intro m r s h
    by_cases hn : n < 128
    · rw [uv_small hn] at h
      by_cases hm : m < 128
      · rw [uv_small hm] at h
        injection h with h1 h2
        exact ⟨of_nat_inj (by omega) (by omega) h1, h2⟩
      · rw [uv_big hm] at h
        injection h with h1 h2
        have := of_nat_inj (by omega) (by omega) h1
        omega
    · rw [uv_big hn] at h
      by_cases hm : m < 128
      · rw [uv_small hm] at h
        injection h with h1 h2
        have := of_nat_inj (by omega) (by omega) h1
        omega
      · rw [uv_big hm] at h
        injection h with h1 h2
        have h3 := of_nat_inj (by omega) (by omega) h1
        obtain ⟨h4, h5⟩ := ih (n / 128) (by omega) (m / 128) r s h2
        exact ⟨by omega, h5⟩
theorem uv_ne (n : Nat) : uv n ≠ [] := by
  by_cases h : n < 128
  · rw [uv_small h]; simp
  · rw [uv_big h]; simp
/-- An int as it is written. -/
def cnt (n : Int) : List UInt8 := uv (n % 18446744073709551616).toNat
def i64 (n : Int) : Prop := -9223372036854775808 ≤ n ∧ n ≤ 9223372036854775807
theorem cnt_inj {n m : Int} {r s : List UInt8} (hn : i64 n) (hm : i64 m) (h : cnt n ++ r = cnt m ++ s) : n = m ∧ r = s := by
  obtain ⟨h1, h2⟩ := uv_inj _ _ _ _ h
  unfold i64 at hn hm
  exact ⟨by omega, h2⟩
/-- A text as it is written. -/
def txt (t : List UInt8) : List UInt8 := uv t.length ++ t
theorem txt_inj {t u r s : List UInt8} (h : txt t ++ r = txt u ++ s) : t = u ∧ r = s := by
  unfold txt at h
  rw [List.append_assoc, List.append_assoc] at h
  obtain ⟨h1, h2⟩ := uv_inj _ _ _ _ h
  exact List.append_inj h2 h1
/-- A type. -/
inductive Ty where
  | mk : Int → Int → List UInt8 → List Ty → Ty
mutual
/-- A type's description. -/
def dt : Ty → List UInt8
  | .mk k s n e => cnt k ++ (cnt s ++ (txt n ++ (uv e.length ++ dts e)))
def dts : List Ty → List UInt8
  | [] => []
  | t :: ts => dt t ++ dts ts
end
mutual
def inT : Ty → Prop
  | .mk k s _ e => i64 k ∧ i64 s ∧ inTs e
def inTs : List Ty → Prop
  | [] => True
  | t :: ts => inT t ∧ inTs ts
end
mutual
theorem dt_inj : ∀ (t u : Ty) (r s : List UInt8), inT t → inT u → dt t ++ r = dt u ++ s → t = u ∧ r = s
  | .mk k z n e, .mk k' z' n' e', r, s, ht, hu, h => by
    rw [dt, dt] at h
    simp only [List.append_assoc] at h
    rw [inT] at ht hu
    obtain ⟨h1, h⟩ := cnt_inj ht.1 hu.1 h
    obtain ⟨h2, h⟩ := cnt_inj ht.2.1 hu.2.1 h
    obtain ⟨h3, h⟩ := txt_inj h
    obtain ⟨h4, h⟩ := uv_inj _ _ _ _ h
    obtain ⟨h5, h⟩ := dts_inj e e' r s h4 ht.2.2 hu.2.2 h
    exact ⟨by rw [h1, h2, h3, h5], h⟩
theorem dts_inj : ∀ (ts us : List Ty) (r s : List UInt8), ts.length = us.length → inTs ts → inTs us → dts ts ++ r = dts us ++ s → ts = us ∧ r = s
  | [], [], r, s, _, _, _, h => ⟨rfl, by simpa [dts] using h⟩
  | [], _ :: _, _, _, hl, _, _, _ => by cases hl
  | _ :: _, [], _, _, hl, _, _, _ => by cases hl
  | t :: ts, u :: us, r, s, hl, ht, hu, h => by
    rw [dts, dts, List.append_assoc, List.append_assoc] at h
    rw [inTs] at ht hu
    obtain ⟨h1, h⟩ := dt_inj t u _ _ ht.1 hu.1 h
    obtain ⟨h2, h⟩ := dts_inj ts us r s (by simpa using hl) ht.2 hu.2 h
    exact ⟨by rw [h1, h2], h⟩
end
/-- A field, a struct, an enumeration. -/
structure Fd where
  num : Int
  name : List UInt8
  opt : Bool
  type : Ty
structure St where
  name : List UInt8
  fields : List Fd
structure En where
  name : List UInt8
  names : List (List UInt8)
  nums : List Int
def dfd (f : Fd) : List UInt8 := cnt f.num ++ (txt f.name ++ (dt f.type ++ [if f.opt then 1 else 0]))
def dfds : List Fd → List UInt8
  | [] => []
  | f :: fs => dfd f ++ dfds fs
def inF (f : Fd) : Prop := i64 f.num ∧ inT f.type
theorem dfd_inj {f g : Fd} {r s : List UInt8} (hf : inF f) (hg : inF g) (h : dfd f ++ r = dfd g ++ s) : f = g ∧ r = s := by
  obtain ⟨a, b, c, d⟩ := f
  obtain ⟨a', b', c', d'⟩ := g
  unfold dfd at h
  simp only [List.append_assoc] at h
  obtain ⟨h1, h⟩ := cnt_inj hf.1 hg.1 h
  obtain ⟨h2, h⟩ := txt_inj h
  obtain ⟨h3, h⟩ := dt_inj _ _ _ _ hf.2 hg.2 h
  injection h with h4 h5
  refine ⟨?_, h5⟩
  have h4 : c = c' := by
    cases c <;> cases c'
    · rfl
    · simp at h4
    · simp at h4
    · rfl
  have h1 : a = a' := h1
  have h2 : b = b' := h2
  have h3 : d = d' := h3
  rw [h1, h2, h3, h4]
theorem dfds_inj : ∀ (fs gs : List Fd) (r s : List UInt8), fs.length = gs.length → (∀ f ∈ fs, inF f) → (∀ g ∈ gs, inF g) → dfds fs ++ r = dfds gs ++ s → fs = gs ∧ r = s
  | [], [], r, s, _, _, _, h => ⟨rfl, by simpa [dfds] using h⟩
  | [], _ :: _, _, _, hl, _, _, _ => by cases hl
  | _ :: _, [], _, _, hl, _, _, _ => by cases hl
  | f :: fs, g :: gs, r, s, hl, hf, hg, h => by
    rw [dfds, dfds, List.append_assoc, List.append_assoc] at h
    obtain ⟨h1, h⟩ := dfd_inj (hf f (by simp)) (hg g (by simp)) h
    obtain ⟨h2, h⟩ := dfds_inj fs gs r s (by simpa using hl) (fun x hx => hf x (by simp [hx])) (fun x hx => hg x (by simp [hx])) h
    exact ⟨by rw [h1, h2], h⟩
def dst (x : St) : List UInt8 := uv 6 ++ (txt x.name ++ (uv x.fields.length ++ dfds x.fields))
def dns : List (List UInt8) → List Int → List UInt8
  | n :: ns, k :: ks => txt n ++ (cnt k ++ dns ns ks)
  | _, _ => []
def den (x : En) : List UInt8 := uv 7 ++ (txt x.name ++ (uv x.names.length ++ dns x.names x.nums))
theorem dns_inj : ∀ (ns ms : List (List UInt8)) (ks js : List Int) (r s : List UInt8), ns.length = ms.length → ks.length = ns.length → js.length = ms.length → (∀ k ∈ ks, i64 k) → (∀ k ∈ js, i64 k) → dns ns ks ++ r = dns ms js ++ s → ns = ms ∧ ks = js ∧ r = s
  | [], [], [], [], r, s, _, _, _, _, _, h => ⟨rfl, rfl, by simpa [dns] using h⟩
  | n :: ns, m :: ms, k :: ks, j :: js, r, s, h1, h2, h3, hk, hj, h => by
    rw [dns, dns] at h
    simp only [List.append_assoc] at h
    obtain ⟨e1, h⟩ := txt_inj h
    obtain ⟨e2, h⟩ := cnt_inj (hk k (by simp)) (hj j (by simp)) h
    obtain ⟨e3, e4, h⟩ := dns_inj ns ms ks js r s (by simpa using h1) (by simpa using h2) (by simpa using h3) (fun x hx => hk x (by simp [hx])) (fun x hx => hj x (by simp [hx])) h
    exact ⟨by rw [e1, e3], by rw [e2, e4], h⟩
  | [], _ :: _, _, _, _, _, h1, _, _, _, _, _ => by cases h1
  | _ :: _, [], _, _, _, _, h1, _, _, _, _, _ => by cases h1
  | [], [], _ :: _, _, _, _, _, h2, _, _, _, _ => by cases h2
  | [], [], [], _ :: _, _, _, _, _, h3, _, _, _ => by cases h3
  | _ :: _, _ :: _, [], _, _, _, _, h2, _, _, _, _ => by cases h2
  | _ :: _, _ :: _, _ :: _, [], _, _, _, _, h3, _, _, _ => by cases h3
/-- A definition. -/
inductive Df where
  | st : St → Df
  | en : En → Df
def dd : Df → List UInt8
  | .st x => dst x
  | .en x => den x
def inD : Df → Prop
  | .st x => ∀ f ∈ x.fields, inF f
  | .en x => x.nums.length = x.names.length ∧ ∀ k ∈ x.nums, i64 k
theorem dd_inj {a b : Df} {r s : List UInt8} (ha : inD a) (hb : inD b) (h : dd a ++ r = dd b ++ s) : a = b ∧ r = s := by
  match a, b, ha, hb, h with
  | .st ⟨n, fs⟩, .st ⟨m, gs⟩, ha, hb, h =>
    unfold dd dst at h
    simp only [List.append_assoc] at h
    obtain ⟨-, h⟩ := uv_inj _ _ _ _ h
    obtain ⟨h1, h⟩ := txt_inj h
    obtain ⟨h2, h⟩ := uv_inj _ _ _ _ h
    obtain ⟨h3, h⟩ := dfds_inj fs gs r s h2 ha hb h
    exact ⟨by rw [h1, h3], h⟩
  | .en ⟨n, ns, ks⟩, .en ⟨m, ms, js⟩, ha, hb, h =>
    unfold dd den at h
    simp only [List.append_assoc] at h
    obtain ⟨-, h⟩ := uv_inj _ _ _ _ h
    obtain ⟨h1, h⟩ := txt_inj h
    obtain ⟨h2, h⟩ := uv_inj _ _ _ _ h
    obtain ⟨h3, h4, h⟩ := dns_inj ns ms ks js r s h2 ha.1 hb.1 ha.2 hb.2 h
    exact ⟨by rw [h1, h3, h4], h⟩
  | .st x, .en y, _, _, h =>
    unfold dd dst den at h
    simp only [List.append_assoc] at h
    exact absurd (uv_inj _ _ _ _ h).1 (by decide)
  | .en x, .st y, _, _, h =>
    unfold dd dst den at h
    simp only [List.append_assoc] at h
    exact absurd (uv_inj _ _ _ _ h).1 (by decide)
theorem dd_ne (a : Df) : dd a ≠ [] := by
  intro h
  cases a with
  | st x => exact uv_ne 6 (List.append_eq_nil_iff.1 h).1
  | en x => exact uv_ne 7 (List.append_eq_nil_iff.1 h).1
/-- Definitions' descriptions, one after the other, tell the definitions. -/
def dds : List Df → List UInt8
  | [] => []
  | a :: l => dd a ++ dds l
theorem dds_inj : ∀ (l m : List Df), (∀ a ∈ l, inD a) → (∀ a ∈ m, inD a) → dds l = dds m → l = m
  | [], [], _, _, _ => rfl
  | [], b :: m, _, _, h => by
    rw [dds, dds] at h
    exact absurd (List.append_eq_nil_iff.1 h.symm).1 (dd_ne b)
  | a :: l, [], _, _, h => by
    rw [dds, dds] at h
    exact absurd (List.append_eq_nil_iff.1 h).1 (dd_ne a)
  | a :: l, b :: m, hl, hm, h => by
    rw [dds, dds] at h
    obtain ⟨h1, h⟩ := dd_inj (hl a (by simp)) (hm b (by simp)) h
    rw [h1, dds_inj l m (fun x hx => hl x (by simp [hx])) (fun x hx => hm x (by simp [hx])) h]
end Go.Proofs.Ytlebppjldoodgaa
/-
  Definitions found by name, and that their order does not matter: mathematics of looking up. No conditions beyond those that each names.
-/
namespace Go.Proofs.Ytlebppjldoodgaa
section
variable {α β : Type} [DecidableEq β]
/-- The first with this name. -/
def fst_ (key : α → β) (l : List α) (k : β) : Option α := l.find? fun a => decide (key a = k)
theorem fst_nil (key : α → β) (k : β) : fst_ key [] k = none := rfl
theorem fst_cons (key : α → β) (a : α) (l : List α) (k : β) : fst_ key (a :: l) k = if key a = k then some a else fst_ key l k := by
  unfold fst_
  rw [List.find?_cons]
  by_cases h : key a = k <;> simp [h]
theorem fst_mem {key : α → β} {l : List α} {k : β} {a : α} (h : fst_ key l k = some a) : a ∈ l ∧ key a = k := by
  refine ⟨List.mem_of_find?_eq_some h, ?_⟩
  have := List.find?_some h
  simpa using this
theorem fst_none {key : α → β} {l : List α} {k : β} : fst_ key l k = none ↔ ∀ a ∈ l, key a ≠ k := by
  unfold fst_
  rw [List.find?_eq_none]
  exact ⟨fun h a ha e => h a ha (decide_eq_true e), fun h a ha e => h a ha (of_decide_eq_true e)⟩
/-- Where no two have one name, what is found is the one with the name. -/
theorem fst_iff {key : α → β} : ∀ {l : List α}, (l.map key).Nodup → ∀ {k : β} {a : α}, fst_ key l k = some a ↔ a ∈ l ∧ key a = k
  | [], _, k, a => by simp [fst_nil]
  | b :: l, h, k, a => by
    rw [List.map_cons, List.nodup_cons] at h
    rw [fst_cons]
    constructor
    · intro e
      split at e
      · rename_i hb; cases e; exact ⟨by simp, hb⟩
      · have := fst_mem e; exact ⟨by simp [this.1], this.2⟩
    · rintro ⟨hm, rfl⟩
      rcases List.mem_cons.1 hm with rfl | hm
      · simp
      · rw [if_neg fun e => h.1 (by rw [e]; exact List.mem_map_of_mem hm)]
        exact (fst_iff h.2).2 ⟨hm, rfl⟩
/-- Their order does not matter. -/
theorem fst_perm {key : α → β} {l m : List α} (h : (l.map key).Nodup) (p : l.Perm m) (k : β) : fst_ key l k = fst_ key m k := by
  have h' : (m.map key).Nodup := (p.map key).nodup_iff.1 h
  cases e : fst_ key m k with
  | none => exact fst_none.2 fun a ha => fst_none.1 e a (p.mem_iff.1 ha)
  | some a => exact (fst_iff h).2 ⟨p.mem_iff.2 ((fst_iff h').1 e).1, ((fst_iff h').1 e).2⟩
/-- What has another name does not matter. -/
theorem fst_other {key : α → β} (l : List α) {b : α} {k : β} (h : key b ≠ k) : fst_ key (l ++ [b]) k = fst_ key l k := by
  unfold fst_
  rw [List.find?_append]
  simp [h]
theorem fst_other' {key : α → β} {l : List α} {b : α} {k : β} (h : fst_ key l k ≠ none) : fst_ key (l ++ [b]) k = fst_ key l k := by
  unfold fst_ at h ⊢
  rw [List.find?_append]
  cases e : l.find? (fun a => decide (key a = k)) with
  | none => exact absurd e h
  | some a => rfl
end
section
variable {α : Type}
/-- What is reached depends only on the steps of what is reached. -/
theorem Reach.only {next next' : α → List α} {x : α} (hx : ∀ z, z = x ∨ Reach next x z → ∀ y, y ∈ next z ↔ y ∈ next' z) (y : α) : Reach next x y ↔ Reach next' x y := by
  constructor
  · intro h
    induction h with
    | one h => exact .one ((hx _ (.inl rfl) _).1 h)
    | more h hz ih => exact .more ih ((hx _ (.inr h) _).1 hz)
  · intro h
    induction h with
    | one h => exact .one ((hx _ (.inl rfl) _).2 h)
    | more h hz ih => exact .more ih ((hx _ (.inr ih) _).2 hz)
end
end Go.Proofs.Ytlebppjldoodgaa
/-
  Names in the order of their bytes: a total order; a sorted list without doubles is the ascending one.
-/
namespace Go.Proofs.Ytlebppjldoodgaa
/-- The order of names by their bytes. -/
def leB (x y : List UInt8) : Bool := decide (x ≤ y)
theorem tot_leB : Tot leB where
  total a b := by
    rcases List.le_total a b with h | h
    · exact .inl (decide_eq_true h)
    · exact .inr (decide_eq_true h)
  anti a b h k := List.le_antisymm (of_decide_eq_true h) (of_decide_eq_true k)
  trans a b c h k := decide_eq_true (List.le_trans (of_decide_eq_true h) (of_decide_eq_true k))
/-- Sorted, and without doubles: strictly ascending. -/
theorem asc_sorted {α : Type} {le : α → α → Bool} (ht : Tot le) (l : List α) (h : l.Nodup) : Asc le (l.mergeSort le) := by
  have h1 : (l.mergeSort le).Pairwise fun a b => le a b = true :=
    List.pairwise_mergeSort (fun a b c => ht.trans a b c) (fun a b => by
      rcases ht.total a b with h | h
      · rw [h]; rfl
      · rw [h]; simp) l
  have h2 : (l.mergeSort le).Nodup := (List.mergeSort_perm l le).nodup_iff.2 h
  exact List.Pairwise.and h1 h2
theorem sorted_eq {α : Type} {le : α → α → Bool} (ht : Tot le) {l m : List α} (h : l.Nodup) (hm : Asc le m) (he : ∀ z, z ∈ l ↔ z ∈ m) : l.mergeSort le = m :=
  asc_unique ht _ _ (asc_sorted ht l h) hm fun z => by rw [(List.mergeSort_perm l le).mem_iff, he]
/-- Strictly ascending, by neighbours. -/
theorem asc_of_steps {α : Type} {le : α → α → Bool} (ht : Tot le) : ∀ (l : List α), (∀ k (h : k + 1 < l.length), le l[k] l[k + 1] = true ∧ l[k] ≠ l[k + 1]) → Asc le l
  | [], _ => List.Pairwise.nil
  | [a], _ => List.pairwise_singleton _ _
  | a :: b :: r, h => by
    have h1 : Asc le (b :: r) := asc_of_steps ht (b :: r) fun k hk => h (k + 1) (by simpa using hk)
    have h0 : le a b = true ∧ a ≠ b := h 0 (by simp)
    refine List.pairwise_cons.2 ⟨fun z hz => ?_, h1⟩
    rcases List.mem_cons.1 hz with rfl | hz
    · exact h0
    · have hb := (List.pairwise_cons.1 h1).1 z hz
      refine ⟨ht.trans _ _ _ h0.1 hb.1, fun e => ?_⟩
      subst e
      exact h0.2 (ht.anti _ _ h0.1 hb.1)
theorem steps_of_asc {α : Type} {le : α → α → Bool} {l : List α} (h : Asc le l) (k : Nat) (hk : k + 1 < l.length) : le l[k] l[k + 1] = true ∧ l[k] ≠ l[k + 1] :=
  List.pairwise_iff_getElem.1 h k (k + 1) (by omega) hk (by omega)
/-- Strictly less, in the order of bytes. -/
theorem ltB (x y : List UInt8) : x < y ↔ leB x y = true ∧ x ≠ y := by
  constructor
  · intro h
    exact ⟨decide_eq_true (List.le_of_lt h), fun e => by subst e; exact List.lt_irrefl _ h⟩
  · rintro ⟨h, hne⟩
    rcases Decidable.em (x < y) with h1 | h1
    · exact h1
    · exact absurd (List.le_antisymm (of_decide_eq_true h) (List.not_lt.1 h1)) hne
end Go.Proofs.Ytlebppjldoodgaa
/-
  What a visit that calls itself finds: mathematics of a search in depth. No conditions beyond those that each names.
-/
namespace Go.Proofs.Ytlebppjldoodgaa
section
variable {α : Type}
/-- A visit of x, of whose next names those in done were looked at: seen held old at its beginning, and holds now now. -/
structure Lp (next : α → List α) (old : List α) (x : α) (done now : List α) : Prop where
  sub : ∀ y ∈ old, y ∈ now
  dn : ∀ y ∈ done, y ∈ now
  new : ∀ y ∈ now, y ∉ old → Reach next x y ∧ ∀ z ∈ next y, z ∈ now
  nd : old.Nodup → now.Nodup
/-- A visit that has ended. -/
abbrev Vis (next : α → List α) (old : List α) (x : α) (now : List α) : Prop := Lp next old x (next x) now
theorem Lp.start (next : α → List α) (old : List α) (x : α) : Lp next old x [] old := ⟨fun _ h => h, fun _ h => (by cases h), fun _ h k => absurd h k, fun h => h⟩
/-- A name that was seen is passed over. -/
theorem Lp.old_ {next : α → List α} {old : List α} {x : α} {done now : List α} (h : Lp next old x done now) {y : α} (hy : y ∈ now) : Lp next old x (done ++ [y]) now :=
  ⟨h.sub, fun z hz => by
    rcases List.mem_append.1 hz with hz | hz
    · exact h.dn z hz
    · rw [List.mem_singleton.1 hz]; exact hy, h.new, h.nd⟩
/-- A name that was not seen is put behind the others and visited. -/
theorem Lp.new_ {next : α → List α} {old : List α} {x : α} {done now : List α} (h : Lp next old x done now) {y : α} (hn : y ∈ next x) (hy : y ∉ now) {now' : List α} (hv : Vis next (now ++ [y]) y now') : Lp next old x (done ++ [y]) now' := by
  have hs : ∀ z ∈ now, z ∈ now' := fun z hz => hv.sub z (List.mem_append_left _ hz)
  have hy' : y ∈ now' := hv.sub y (by simp)
  refine ⟨fun z hz => hs z (h.sub z hz), fun z hz => ?_, fun z hz hzo => ?_, fun ho => hv.nd ?_⟩
  · rcases List.mem_append.1 hz with hz | hz
    · exact hs z (h.dn z hz)
    · rw [List.mem_singleton.1 hz]; exact hy'
  · by_cases h1 : z ∈ now
    · exact ⟨(h.new z h1 hzo).1, fun u hu => hs u ((h.new z h1 hzo).2 u hu)⟩
    · by_cases h2 : z = y
      · subst h2
        exact ⟨.one hn, fun u hu => hv.dn u hu⟩
      · have h3 := hv.new z hz (by simp [h1, h2])
        exact ⟨(Reach.one hn).trans h3.1, h3.2⟩
  · rw [List.nodup_append]
    refine ⟨h.nd ho, by simp, fun a ha b hb e => ?_⟩
    rw [List.mem_singleton.1 hb] at e
    subst e
    exact hy ha
/-- A name that was not seen and leads nowhere is put behind the others. -/
theorem Lp.leaf {next : α → List α} {old : List α} {x : α} {done now : List α} (h : Lp next old x done now) {y : α} (hn : y ∈ next x) (hy : y ∉ now) (hl : next y = []) : Lp next old x (done ++ [y]) (now ++ [y]) :=
  h.new_ hn hy (by
    have := Lp.start next (now ++ [y]) y
    show Lp next (now ++ [y]) y (next y) (now ++ [y])
    rw [hl]
    exact this)
/-- From nothing seen: what the root leads to. -/
theorem Vis.root {next : α → List α} {x : α} {now : List α} (h : Vis next [] x now) : now.Nodup ∧ ∀ y, y ∈ now ↔ Reach next x y := by
  refine ⟨h.nd List.nodup_nil, fun y => ⟨fun hy => (h.new y hy (by simp)).1, fun hr => ?_⟩⟩
  induction hr with
  | one hy => exact h.dn _ hy
  | more _ hz ih => exact (h.new _ ih (by simp)).2 _ hz
/-- From the root alone seen: what the root leads to, and the root. -/
theorem Vis.self {next : α → List α} {x : α} {now : List α} (h : Vis next [x] x now) : now.Nodup ∧ x ∈ now ∧ ∀ y, y ≠ x → (y ∈ now ↔ Reach next x y) := by
  have hk : ∀ y, Reach next x y → y ∈ now := fun y hr => by
    induction hr with
    | one hy => exact h.dn _ hy
    | @more y z _ hz ih =>
      by_cases e : y = x
      · subst e; exact h.dn _ hz
      · exact (h.new y ih (by simp [e])).2 _ hz
  exact ⟨h.nd (by simp), h.sub x (by simp), fun y hy => ⟨fun hm => (h.new y hm (by simp [hy])).1, hk y⟩⟩
/-- What leads to itself does so through a name of its own next ones. -/
theorem Reach.first {next : α → List α} {x y : α} (h : Reach next x y) : y ∈ next x ∨ ∃ z ∈ next x, Reach next z y := by
  induction h with
  | one h => exact .inl h
  | more _ hz ih =>
    rcases ih with h | ⟨u, hu, hr⟩
    · exact .inr ⟨_, h, .one hz⟩
    · exact .inr ⟨u, hu, .more hr hz⟩
/-- With a rank, nothing leads to itself. -/
theorem Reach.down {next : α → List α} {rk : α → Nat} (hd : ∀ x, ∀ y ∈ next x, rk y < rk x) {x y : α} (h : Reach next x y) : rk y < rk x := by
  induction h with
  | one h => exact hd _ _ h
  | more _ hz ih => exact Nat.lt_trans (hd _ _ hz) ih
end
end Go.Proofs.Ytlebppjldoodgaa

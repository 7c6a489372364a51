/-
  Laws of scans: a printed list of tokens is scanned as it was; places; names. No conditions beyond those that each names.
-/
import Derived.Test.YtcilkcnddgacgaaGreatDoorQM01
namespace Go.Proofs.YtcilkcnddgacgaaGreatDoor
theorem byte_all {P : UInt8 → Prop} (h : ∀ n : Fin 256, P (UInt8.ofNat n.val)) (c : UInt8) : P c := by
  have := h ⟨c.toNat, c.toNat_lt⟩
  simpa using this
set_option maxRecDepth 100000 in
theorem mark_facts (c : UInt8) : isM c = true → isL c = false ∧ isD c = false ∧ (c == 45) = false ∧ c ≠ 34 ∧ isS c = false ∧ c ≠ 35 ∧ isW c = false := by
  refine byte_all (P := fun c => isM c = true → isL c = false ∧ isD c = false ∧ (c == 45) = false ∧ c ≠ 34 ∧ isS c = false ∧ c ≠ 35 ∧ isW c = false) ?_ c
  decide +kernel
set_option maxRecDepth 100000 in
theorem letter_facts (c : UInt8) : isL c = true → isS c = false ∧ c ≠ 35 ∧ 32 < c.toNat ∧ c ≠ 34 ∧ isD c = false ∧ (c == 45) = false := by
  refine byte_all (P := fun c => isL c = true → isS c = false ∧ c ≠ 35 ∧ 32 < c.toNat ∧ c ≠ 34 ∧ isD c = false ∧ (c == 45) = false) ?_ c
  decide +kernel
set_option maxRecDepth 100000 in
theorem digit_facts (c : UInt8) : isD c = true → isS c = false ∧ c ≠ 35 ∧ 32 < c.toNat ∧ c ≠ 34 ∧ isL c = false ∧ (c == 45) = false ∧ isW c = true := by
  refine byte_all (P := fun c => isD c = true → isS c = false ∧ c ≠ 35 ∧ 32 < c.toNat ∧ c ≠ 34 ∧ isL c = false ∧ (c == 45) = false ∧ isW c = true) ?_ c
  decide +kernel
theorem sk_drop (rm : Bool) (l : List UInt8) : sk rm l = l.drop (l.length - (sk rm l).length) := by
  induction l generalizing rm with
  | nil => rfl
  | cons c r ih =>
    unfold sk
    split
    · have h1 := sk_length ((rm && c != 10) || c == 35) r
      rw [List.length_cons, show r.length + 1 - (sk ((rm && c != 10) || c == 35) r).length = (r.length - (sk ((rm && c != 10) || c == 35) r).length) + 1 by omega, List.drop_succ_cons]
      exact ih _
    · simp
theorem takeWhile_all {p : UInt8 → Bool} {a z : List UInt8} (h : ∀ c ∈ a, p c = true) (hz : z = [] ∨ ∃ d z', z = d :: z' ∧ p d = false) : (a ++ z).takeWhile p = a := by
  rw [List.takeWhile_append_of_pos h]
  rcases hz with rfl | ⟨d, z', rfl, hd⟩
  · simp
  · simp [hd]
/-- What may follow a printed token. -/
def After (z : List UInt8) : Prop := z = [] ∨ ∃ z', z = 32 :: z'
theorem After.stop {z : List UInt8} (h : After z) {p : UInt8 → Bool} (hp : p 32 = false) : z = [] ∨ ∃ d z', z = d :: z' ∧ p d = false := by
  rcases h with rfl | ⟨z', rfl⟩
  · exact .inl rfl
  · exact .inr ⟨_, _, rfl, hp⟩
/-! ### digits -/
theorem dval_snoc (l : List UInt8) (c : UInt8) : dval (l ++ [c]) = 10 * dval l + (c.toNat - 48) := by
  unfold dval
  rw [List.foldl_append, List.foldl_cons, List.foldl_nil]
theorem of_toNat' {n : Nat} (h : n < 256) : (UInt8.ofNat n).toNat = n := by rw [UInt8.toNat_ofNat']; exact Nat.mod_eq_of_lt h
theorem dg_small {n : Nat} (h : n < 10) : dg n = [UInt8.ofNat (48 + n)] := by rw [dg, if_pos h]
theorem dg_big {n : Nat} (h : ¬ n < 10) : dg n = dg (n / 10) ++ [UInt8.ofNat (48 + n % 10)] := by rw [dg, if_neg h]
theorem dg_facts (n : Nat) : dval (dg n) = n ∧ (∀ c ∈ dg n, isD c = true) ∧ dg n ≠ [] ∧ (n ≠ 0 → (dg n).head? ≠ some 48) ∧ (n < 10 → (dg n).length = 1) := by
  induction n using Nat.strongRecOn with
  | _ n ih =>
    by_cases h : n < 10
    · have hn : (UInt8.ofNat (48 + n)).toNat = 48 + n := of_toNat' (by omega)
      rw [dg_small h]
      refine ⟨by show 10 * 0 + ((UInt8.ofNat (48 + n)).toNat - 48) = n; rw [hn]; omega, fun c hc => ?_, by simp, fun h0 e => ?_, fun _ => rfl⟩
      · obtain rfl : c = UInt8.ofNat (48 + n) := by simpa using hc
        unfold isD; rw [hn]; simp; omega
      · have : UInt8.ofNat (48 + n) = 48 := by simpa using e
        have := congrArg UInt8.toNat this
        rw [hn] at this
        exact h0 (by simpa using this)
    · obtain ⟨h1, h2, h3, h4, _⟩ := ih (n / 10) (by omega)
      have hn : (UInt8.ofNat (48 + n % 10)).toNat = 48 + n % 10 := of_toNat' (by omega)
      rw [dg_big h]
      refine ⟨by rw [dval_snoc, h1, hn]; omega, fun c hc => ?_, by simp, fun _ => ?_, fun h5 => absurd h5 h⟩
      · rcases List.mem_append.1 hc with hc | hc
        · exact h2 c hc
        · obtain rfl : c = UInt8.ofNat (48 + n % 10) := by simpa using hc
          unfold isD; rw [hn]; simp; omega
      · rw [List.head?_append]
        cases hd : (dg (n / 10)).head? with
        | none => exact absurd (List.head?_eq_none_iff.1 hd) h3
        | some x =>
          simp only [Option.some_or]
          rw [← hd]
          exact h4 (by omega)
theorem numOf_dg {neg : Bool} {n : Nat} (h : n ≤ if neg then 9223372036854775808 else 9223372036854775807) (h0 : neg = true → n ≠ 0) : numOf neg (dg n) = .ok (if neg then -(n : Int) else (n : Int)) := by
  obtain ⟨h1, h2, h3, h4, h5⟩ := dg_facts n
  unfold numOf
  rw [if_neg, if_neg (by rw [h1]; omega), h1]
  rintro (h | ⟨h, h6⟩ | ⟨h, h6⟩)
  · exact h3 (List.eq_nil_of_length_eq_zero h)
  · by_cases hn : n < 10
    · rw [h5 hn] at h; omega
    · exact h4 (by omega) h6
  · exact h4 (h0 h) h6
/-! ### strings -/
theorem qs_cons (c : UInt8) (r : List UInt8) (i : Nat) (out : List UInt8) : qs (c :: r) i out = if c = 34 then .ok (out, i + 1) else if c.toNat < 32 ∨ 126 < c.toNat then .error i else if c = 92 then (match r with | [] => .error i | d :: r => if d = 34 ∨ d = 92 then qs r (i + 2) (out ++ [d]) else .error i) else qs r (i + 1) (out ++ [c]) := by
  rw [qs.eq_def]
  rfl
theorem qs_esc (t : List UInt8) : ∀ (i : Nat) (out z : List UInt8), (∀ c ∈ t, 32 ≤ c.toNat ∧ c.toNat ≤ 126) → qs (esc t ++ 34 :: z) i out = .ok (out ++ t, i + (esc t).length + 1) := by
  induction t with
  | nil => intro i out z _; rw [esc, List.nil_append, qs_cons]; simp
  | cons c t ih =>
    intro i out z h
    obtain ⟨hc, ht⟩ := List.forall_mem_cons.1 h
    by_cases he : c = 34 ∨ c = 92
    · rw [esc, if_pos he, List.cons_append, List.cons_append, qs_cons]
      rw [if_neg (by decide), if_neg (by decide), if_pos rfl]
      simp only
      rw [if_pos he, ih _ _ _ ht]
      simp; omega
    · rw [esc, if_neg he, List.cons_append, qs_cons]
      rw [if_neg (fun e => he (.inl e)), if_neg (by omega), if_neg (fun e => he (.inr e)), ih _ _ _ ht]
      simp; omega
/-- A printed token is read as it was. -/
theorem tok_pr {t : Tk} (h : okT t = true) (hn : t.kind = 2 → -9223372036854775808 ≤ t.num ∧ t.num ≤ 9223372036854775807) {z : List UInt8} (hz : After z) :
    ∃ c r, pr t = c :: r ∧ isS c = false ∧ c ≠ 35 ∧ tok c (r ++ z) = .ok (t.kind, t.text, t.num, (pr t).length) := by
  obtain ⟨kd, tx, n, p⟩ := t
  simp only at hn
  unfold okT at h
  simp only at h
  unfold pr
  simp only
  have hw : isW 32 = false := by decide
  have hd : isD 32 = false := by decide
  by_cases k1 : kd = 1
  · subst k1
    simp only [if_true, Bool.and_eq_true, beq_iff_eq] at h
    obtain ⟨h1, rfl⟩ := h
    unfold isN at h1
    simp only [Bool.and_eq_true, decide_eq_true_eq, List.all_eq_true] at h1
    obtain ⟨⟨⟨h1, h2⟩, h3⟩, h4⟩ := h1
    rw [if_neg (by decide), if_neg (by decide)]
    cases tx with
    | nil => simp at h1
    | cons c r =>
      have hL : isL c = true := by simpa using h3
      obtain ⟨f1, f2, -⟩ := letter_facts c hL
      refine ⟨c, r, rfl, f1, f2, ?_⟩
      have e : (c :: (r ++ z)).takeWhile isW = c :: r := takeWhile_all (a := c :: r) h4 (hz.stop hw)
      have e2 : (c :: (r ++ z)).drop (c :: r).length = z := by rw [← List.cons_append, List.drop_left]
      unfold tok
      rw [if_pos hL, e, if_neg (by omega), e2, if_neg]
      rcases hz with rfl | ⟨z', rfl⟩
      · simp
      · simp
  · by_cases k2 : kd = 2
    · subst k2
      simp only [if_true, if_neg (show ¬ (2 : Nat) = 1 by decide), beq_iff_eq] at h
      subst h
      obtain ⟨n1, n2⟩ := hn rfl
      rw [if_pos rfl]
      obtain ⟨g1, g2, g3, g4, g5⟩ := dg_facts n.natAbs
      have hany : ∀ m : List UInt8, (z.head?.any fun d => isW d || d == 45) = false := by
        intro _
        rcases hz with rfl | ⟨z', rfl⟩
        · rfl
        · show (isW 32 || (32 : UInt8) == 45) = false
          decide
      unfold dec
      by_cases hneg : n < 0
      · rw [if_pos hneg]
        refine ⟨45, dg n.natAbs, rfl, by decide, by decide, ?_⟩
        have e : (dg n.natAbs ++ z).takeWhile isD = dg n.natAbs := takeWhile_all g2 (hz.stop hd)
        unfold tok
        rw [if_neg (by decide), if_pos (by decide)]
        simp only [show ((45 : UInt8) == 45) = true from rfl, if_true, e]
        rw [numOf_dg (by simp; omega) (by intro _; omega)]
        simp only [if_true]
        rw [show (45 :: (dg n.natAbs ++ z)).drop ((true).toNat + (dg n.natAbs).length) = z by
          rw [show (true).toNat + (dg n.natAbs).length = (dg n.natAbs).length + 1 by simp [Nat.add_comm], List.drop_succ_cons, List.drop_left], hany []]
        simp only [Bool.false_eq_true, if_false, List.length_cons]
        congr 4
        · omega
        · simp [Nat.add_comm]
      · rw [if_neg hneg]
        cases hdg : dg n.natAbs with
        | nil => exact absurd hdg g3
        | cons c r =>
          have hc : isD c = true := g2 c (by rw [hdg]; exact List.mem_cons_self ..)
          obtain ⟨f1, f2, -, f4, f5, f6, -⟩ := digit_facts c hc
          refine ⟨c, r, rfl, f1, f2, ?_⟩
          have e : (c :: (r ++ z)).takeWhile isD = c :: r := takeWhile_all (a := c :: r) (by rw [← hdg]; exact g2) (hz.stop hd)
          unfold tok
          rw [if_neg (by rw [f5]; decide), if_pos (by rw [hc]; rfl)]
          simp only [f6, Bool.false_eq_true, if_false, e]
          rw [← hdg, numOf_dg (by simp; omega) (by intro h; cases h), hdg]
          simp only [Bool.false_eq_true, if_false]
          rw [show (c :: (r ++ z)).drop ((false).toNat + (c :: r).length) = z by
            rw [show (false).toNat + (c :: r).length = (c :: r).length by simp, ← List.cons_append, List.drop_left], hany []]
          simp only [Bool.false_eq_true, if_false]
          congr 4
          · omega
          · simp
    · by_cases k3 : kd = 3
      · subst k3
        simp only [if_true, if_neg (show ¬ (3 : Nat) = 1 by decide), if_neg (show ¬ (3 : Nat) = 2 by decide), Bool.and_eq_true, beq_iff_eq, decide_eq_true_eq, List.all_eq_true] at h
        obtain ⟨⟨h1, h2⟩, rfl⟩ := h
        rw [if_neg (by decide), if_pos rfl]
        refine ⟨34, esc tx ++ [34], rfl, by decide, by decide, ?_⟩
        unfold tok
        rw [if_neg (by decide), if_neg (by decide), if_pos rfl, List.append_assoc, List.singleton_append, qs_esc tx 1 [] z (fun c hc => h1 c hc)]
        simp only [List.nil_append]
        rw [if_neg (by omega)]
        congr 4
        simp [quo]; omega
      · by_cases k4 : kd = 4
        · subst k4
          simp only [if_true, if_neg (show ¬ (4 : Nat) = 1 by decide), if_neg (show ¬ (4 : Nat) = 2 by decide), if_neg (show ¬ (4 : Nat) = 3 by decide), Bool.and_eq_true, beq_iff_eq] at h
          obtain ⟨h1, rfl⟩ := h
          rw [if_neg (by decide), if_neg (by decide)]
          match tx, h1 with
          | [c], h1 =>
            obtain ⟨f1, f2, f3, f4, f5, f6, -⟩ := mark_facts c h1
            refine ⟨c, [], rfl, f5, f6, ?_⟩
            unfold tok
            rw [if_neg (by rw [f1]; decide), if_neg (by rw [f2, f3]; decide), if_neg f4, if_pos h1]
            rfl
        · rw [if_neg k1, if_neg k2, if_neg k3, if_neg k4] at h
          cases h
end Go.Proofs.YtcilkcnddgacgaaGreatDoor
/-
  Laws of scans, second part: a printed list is scanned as it was; places ascend; names. No conditions beyond those that each names.
-/
namespace Go.Proofs.YtcilkcnddgacgaaGreatDoor
theorem sc_nil (p : Nat) : sc [] p = .ok [⟨0, [], 0, p⟩] := by rw [sc]
theorem sc_cons (c : UInt8) (r : List UInt8) (p : Nat) : sc (c :: r) p = (match tok c r with
    | .error (e, o) => .error (e, p + o)
    | .ok (kd, t, n, k) => match sc (sk false (r.drop (k - 1))) (p + (r.length + 1 - (sk false (r.drop (k - 1))).length)) with
      | .error x => .error x
      | .ok ts => .ok (⟨kd, t, n, p⟩ :: ts)) := by
  rw [sc]
  rfl
/-! ### places -/
theorem qs_error (l : List UInt8) : ∀ (n : Nat), l.length ≤ n → ∀ (i : Nat) (out : List UInt8) (j : Nat), qs l i out = .error j → j ≤ i + l.length := by
  intro n
  induction n generalizing l with
  | zero =>
    intro hl i out j h
    obtain rfl : l = [] := List.eq_nil_of_length_eq_zero (by omega)
    rw [qs] at h
    injection h with h
    omega
  | succ n ih =>
    intro hl i out j h
    cases l with
    | nil => rw [qs] at h; injection h with h; omega
    | cons c r =>
      rw [List.length_cons] at hl
      rw [qs_cons] at h
      split at h
      · cases h
      split at h
      · injection h with h; simp; omega
      split at h
      · cases r with
        | nil => injection h with h; simp; omega
        | cons d r =>
          simp only at h
          split at h
          · have := ih r (by simp at hl; omega) _ _ _ h
            simp; omega
          · injection h with h; simp; omega
      · have := ih r (by omega) _ _ _ h
        simp; omega
theorem tok_error {c : UInt8} {r : List UInt8} {e o : Nat} (h : tok c r = .error (e, o)) : (e = 2 ∨ e = 3 ∨ e = 4) ∧ o ≤ r.length + 1 := by
  have hW : ((c :: r).takeWhile isW).length ≤ r.length + 1 := by have := (List.takeWhile_sublist isW (l := c :: r)).length_le; simpa using this
  unfold tok at h
  split at h
  · split at h
    · cases h; exact ⟨.inr (.inl rfl), by omega⟩
    split at h
    · cases h; exact ⟨.inl rfl, hW⟩
    · cases h
  split at h
  · have hD : (c == 45).toNat + ((if (c == 45) = true then r else c :: r).takeWhile isD).length ≤ r.length + 1 := by
      have h1 := (List.takeWhile_sublist isD (l := r)).length_le
      have h2 := (List.takeWhile_sublist isD (l := c :: r)).length_le
      rw [List.length_cons] at h2
      cases hc : c == 45 <;> simp <;> omega
    generalize (if (c == 45) = true then r else c :: r).takeWhile isD = ds at h hD
    split at h
    · rename_i e' _
      cases h
      refine ⟨?_, by omega⟩
      by_cases he : e' = 1 <;> simp [he]
    · split at h
      · cases h; exact ⟨.inl rfl, hD⟩
      · cases h
  split at h
  · split at h
    · rename_i i hq
      cases h
      have := qs_error r r.length (Nat.le_refl _) _ _ _ hq
      exact ⟨.inl rfl, by omega⟩
    · split at h
      · cases h; exact ⟨.inr (.inl rfl), by omega⟩
      · cases h
  split at h
  · cases h
  · cases h; exact ⟨.inl rfl, by omega⟩
theorem tok_ok {c : UInt8} {r t : List UInt8} {kd k : Nat} {n : Int} (h : tok c r = .ok (kd, t, n, k)) :
    (kd = 1 ∨ kd = 2 ∨ kd = 3 ∨ kd = 4) ∧ (isL c = true ↔ kd = 1) ∧ (c = 34 ↔ kd = 3) ∧ (isL c = true ∨ isD c = true ∨ c = 45 ∨ c = 34 ∨ isM c = true) ∧ (kd = 1 → t = (c :: r).takeWhile isW ∧ t.length ≤ 16 ∧ k = t.length) := by
  unfold tok at h
  split at h
  · rename_i hL
    split at h
    · cases h
    split at h
    · cases h
    · cases h
      refine ⟨.inl rfl, by simp [hL], ⟨fun e => ?_, fun e => by cases e⟩, .inl hL, fun _ => ⟨rfl, by omega, rfl⟩⟩
      subst e; exact absurd hL (by decide)
  rename_i hL
  split at h
  · rename_i hD
    simp only [Bool.or_eq_true, beq_iff_eq] at hD
    generalize (if (c == 45) = true then r else c :: r).takeWhile isD = ds at h
    split at h
    · cases h
    · split at h
      · cases h
      · cases h
        refine ⟨.inr (.inl rfl), ⟨fun e => absurd e hL, fun e => by cases e⟩, ⟨fun e => ?_, fun e => by cases e⟩, hD.elim (fun h => .inr (.inl h)) (fun h => .inr (.inr (.inl h))), fun e => by cases e⟩
        subst e
        rcases hD with h | h
        · exact absurd h (by decide)
        · exact absurd h (by decide)
  split at h
  · rename_i hq
    split at h
    · cases h
    · split at h
      · cases h
      · cases h
        exact ⟨.inr (.inr (.inl rfl)), ⟨fun e => absurd e hL, fun e => by cases e⟩, ⟨fun _ => rfl, fun _ => hq⟩, .inr (.inr (.inr (.inl hq))), fun e => by cases e⟩
  rename_i hq
  split at h
  · rename_i hM
    cases h
    exact ⟨.inr (.inr (.inr rfl)), ⟨fun e => absurd e hL, fun e => by cases e⟩, ⟨fun e => absurd e hq, fun e => by cases e⟩, .inr (.inr (.inr (.inr hM))), fun e => by cases e⟩
  · cases h
end Go.Proofs.YtcilkcnddgacgaaGreatDoor
/-
  Laws of scans, third part: places ascend; names. No conditions beyond those that each names.
-/
namespace Go.Proofs.YtcilkcnddgacgaaGreatDoor
end Go.Proofs.YtcilkcnddgacgaaGreatDoor
/-
  Schemas as data, and that their descriptions tell them apart. No conditions beyond those that each names.
-/
namespace Go.Proofs.YtcilkcnddgacgaaGreatDoor
/-- A varint's bytes. -/
def uv (n : Nat) : List UInt8 := if n < 128 then [UInt8.ofNat n] else UInt8.ofNat (128 + n % 128) :: uv (n / 128)
termination_by n
decreasing_by omega
/-- An int as it is written. -/
def cnt (n : Int) : List UInt8 := uv (n % 18446744073709551616).toNat
def i64 (n : Int) : Prop := -9223372036854775808 ≤ n ∧ n ≤ 9223372036854775807
/-- A text as it is written. -/
def txt (t : List UInt8) : List UInt8 := uv t.length ++ t
/-- A type. -/
inductive Ty where
  | mk : Int → Int → List UInt8 → List Ty → Ty
mutual
/-- A type's description. -/
def dt : Ty → List UInt8
  | .mk k s n e => cnt k ++ (cnt s ++ (txt n ++ (uv e.length ++ dts e)))
def dts : List Ty → List UInt8
  | [] => []
  | t :: ts => dt t ++ dts ts
end
/-- A field, a struct, an enumeration. -/
structure Fd where
  num : Int
  name : List UInt8
  opt : Bool
  type : Ty
structure St where
  name : List UInt8
  fields : List Fd
structure En where
  name : List UInt8
  names : List (List UInt8)
  nums : List Int
def dfd (f : Fd) : List UInt8 := cnt f.num ++ (txt f.name ++ (dt f.type ++ [if f.opt then 1 else 0]))
def dfds : List Fd → List UInt8
  | [] => []
  | f :: fs => dfd f ++ dfds fs
def dst (x : St) : List UInt8 := uv 6 ++ (txt x.name ++ (uv x.fields.length ++ dfds x.fields))
/-- A definition. -/
inductive Df where
  | st : St → Df
  | en : En → Df
end Go.Proofs.YtcilkcnddgacgaaGreatDoor
/-
  Definitions found by name, and that their order does not matter: mathematics of looking up. No conditions beyond those that each names.
-/
namespace Go.Proofs.YtcilkcnddgacgaaGreatDoor
section
variable {α β : Type} [DecidableEq β]
/-- The first with this name. -/
def fst_ (key : α → β) (l : List α) (k : β) : Option α := l.find? fun a => decide (key a = k)
theorem fst_nil (key : α → β) (k : β) : fst_ key [] k = none := rfl
theorem fst_cons (key : α → β) (a : α) (l : List α) (k : β) : fst_ key (a :: l) k = if key a = k then some a else fst_ key l k := by
  unfold fst_
  rw [List.find?_cons]
  by_cases h : key a = k <;> simp [h]
theorem fst_mem {key : α → β} {l : List α} {k : β} {a : α} (h : fst_ key l k = some a) : a ∈ l ∧ key a = k := by
  refine ⟨List.mem_of_find?_eq_some h, ?_⟩
  have := List.find?_some h
  simpa using this
theorem fst_none {key : α → β} {l : List α} {k : β} : fst_ key l k = none ↔ ∀ a ∈ l, key a ≠ k := by
  unfold fst_
  rw [List.find?_eq_none]
  exact ⟨fun h a ha e => h a ha (decide_eq_true e), fun h a ha e => h a ha (of_decide_eq_true e)⟩
/-- Where no two have one name, what is found is the one with the name. -/
theorem fst_iff {key : α → β} : ∀ {l : List α}, (l.map key).Nodup → ∀ {k : β} {a : α}, fst_ key l k = some a ↔ a ∈ l ∧ key a = k
  | [], _, k, a => by simp [fst_nil]
  | b :: l, h, k, a => by
    rw [List.map_cons, List.nodup_cons] at h
    rw [fst_cons]
    constructor
    · intro e
      split at e
      · rename_i hb; cases e; exact ⟨by simp, hb⟩
      · have := fst_mem e; exact ⟨by simp [this.1], this.2⟩
    · rintro ⟨hm, rfl⟩
      rcases List.mem_cons.1 hm with rfl | hm
      · simp
      · rw [if_neg fun e => h.1 (by rw [e]; exact List.mem_map_of_mem hm)]
        exact (fst_iff h.2).2 ⟨hm, rfl⟩
end
section
variable {α : Type}
/-- What is reached depends only on the steps of what is reached. -/
theorem Reach.only {next next' : α → List α} {x : α} (hx : ∀ z, z = x ∨ Reach next x z → ∀ y, y ∈ next z ↔ y ∈ next' z) (y : α) : Reach next x y ↔ Reach next' x y := by
  constructor
  · intro h
    induction h with
    | one h => exact .one ((hx _ (.inl rfl) _).1 h)
    | more h hz ih => exact .more ih ((hx _ (.inr h) _).1 hz)
  · intro h
    induction h with
    | one h => exact .one ((hx _ (.inl rfl) _).2 h)
    | more h hz ih => exact .more ih ((hx _ (.inr ih) _).2 hz)
end
end Go.Proofs.YtcilkcnddgacgaaGreatDoor
/-
  Names in the order of their bytes: a total order; a sorted list without doubles is the ascending one.
-/
namespace Go.Proofs.YtcilkcnddgacgaaGreatDoor
/-- The order of names by their bytes. -/
def leB (x y : List UInt8) : Bool := decide (x ≤ y)
theorem tot_leB : Tot leB where
  total a b := by
    rcases List.le_total a b with h | h
    · exact .inl (decide_eq_true h)
    · exact .inr (decide_eq_true h)
  anti a b h k := List.le_antisymm (of_decide_eq_true h) (of_decide_eq_true k)
  trans a b c h k := decide_eq_true (List.le_trans (of_decide_eq_true h) (of_decide_eq_true k))
/-- Sorted, and without doubles: strictly ascending. -/
theorem asc_sorted {α : Type} {le : α → α → Bool} (ht : Tot le) (l : List α) (h : l.Nodup) : Asc le (l.mergeSort le) := by
  have h1 : (l.mergeSort le).Pairwise fun a b => le a b = true :=
    List.pairwise_mergeSort (fun a b c => ht.trans a b c) (fun a b => by
      rcases ht.total a b with h | h
      · rw [h]; rfl
      · rw [h]; simp) l
  have h2 : (l.mergeSort le).Nodup := (List.mergeSort_perm l le).nodup_iff.2 h
  exact List.Pairwise.and h1 h2
end Go.Proofs.YtcilkcnddgacgaaGreatDoor


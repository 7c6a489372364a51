/-
  Mathematics of Parse: both ways of rounding are one; the form of the text, told by runs of digits.
-/
import Derived.Test.YtgfahenhobnjpaaDoorFg
namespace Go.Proofs.YtgfahenhobnjpaaDoor
open Go.RowKit
theorem half_eq (x y k : Nat) (hk : k ≤ 5) :
    ((x * 100000 + y * 10 ^ (5 - k)) * 65536 + 50000) / 100000 = x * 65536 + y * 65536 / 10 ^ k + (if 10 ^ k ≤ 2 * (y * 65536 % 10 ^ k) then 1 else 0) := by
  have : k = 0 ∨ k = 1 ∨ k = 2 ∨ k = 3 ∨ k = 4 ∨ k = 5 := by omega
  rcases this with rfl | rfl | rfl | rfl | rfl | rfl <;> (simp only [Nat.reducePow, Nat.reduceSub]; split <;> omega)
theorem big_iff (t : Nat) : 214748364800000 < t ↔ 140737488355328 < (t * 65536 + 50000) / 100000 := by omega
def nD (u : List UInt8) : Nat := (u.takeWhile isDg).length
theorem dg46 : isDg 46 = false := by decide
theorem all_ne46 {l : List UInt8} (h : l.all isDg = true) : ∀ c ∈ l, (c != 46) = true := by
  intro c hc
  have := List.all_eq_true.1 h c hc
  rw [bne_iff_ne]
  rintro rfl
  rw [dg46] at this
  cases this
theorem take_all (l : List UInt8) : (l.takeWhile isDg).all isDg = true := by
  rw [List.all_eq_true]
  intro c hc
  induction l with
  | nil => cases hc
  | cons b l ih =>
    rw [List.takeWhile_cons] at hc
    split at hc
    · rcases List.mem_cons.1 hc with rfl | h
      · assumption
      · exact ih h
    · cases hc
/-- The digits, then what follows them. -/
theorem nD_split (u : List UInt8) : (u = u.takeWhile isDg) ∨ ∃ c r, u = u.takeWhile isDg ++ c :: r ∧ isDg c = false := by
  induction u with
  | nil => exact .inl rfl
  | cons b u ih =>
    rw [List.takeWhile_cons]
    cases hb : isDg b with
    | false => exact .inr ⟨b, u, rfl, hb⟩
    | true =>
      rw [if_pos rfl]
      rcases ih with h | ⟨c, r, h, hc⟩
      · exact .inl (by rw [← h])
      · exact .inr ⟨c, r, by rw [List.cons_append, ← h], hc⟩
theorem dig_only {d : List UInt8} (h : d.all isDg = true) : bef d = d ∧ dot d = false := by
  induction d with
  | nil => exact ⟨rfl, rfl⟩
  | cons b d ih =>
    rw [List.all_cons, Bool.and_eq_true] at h
    have hb := all_ne46 (l := [b]) (by simp [h.1]) b (by simp)
    have := ih h.2
    constructor
    · unfold bef at *; rw [List.takeWhile_cons, hb, if_pos rfl, this.1]
    · unfold dot at *; rw [List.contains_cons, this.2, Bool.or_false]; simpa using (bne_iff_ne.1 hb).symm
theorem dig_dot {d : List UInt8} (r : List UInt8) (h : d.all isDg = true) : bef (d ++ 46 :: r) = d ∧ aft (d ++ 46 :: r) = r ∧ dot (d ++ 46 :: r) = true := by
  induction d with
  | nil => exact ⟨by simp [bef], by simp [aft], by simp [dot]⟩
  | cons b d ih =>
    rw [List.all_cons, Bool.and_eq_true] at h
    have hb := all_ne46 (l := [b]) (by simp [h.1]) b (by simp)
    have := ih h.2
    refine ⟨?_, ?_, ?_⟩
    · unfold bef at *; rw [List.cons_append, List.takeWhile_cons, hb, if_pos rfl, this.1]
    · unfold aft at *; rw [List.cons_append, List.dropWhile_cons, hb, if_pos rfl, this.2.1]
    · unfold dot at *; rw [List.cons_append, List.contains_cons, this.2.2, Bool.or_true]
theorem dig_no {d : List UInt8} {c : UInt8} (r : List UInt8) (h : d.all isDg = true) (hc : isDg c = false) (hc2 : c ≠ 46) : (bef (d ++ c :: r)).all isDg = false := by
  induction d with
  | nil =>
    unfold bef
    rw [List.nil_append, List.takeWhile_cons, bne_iff_ne.2 hc2, if_pos rfl, List.all_cons, hc, Bool.false_and]
  | cons b d ih =>
    rw [List.all_cons, Bool.and_eq_true] at h
    have hb := all_ne46 (l := [b]) (by simp [h.1]) b (by simp)
    have := ih h.2
    unfold bef at *
    rw [List.cons_append, List.takeWhile_cons, hb, if_pos rfl, List.all_cons, this, Bool.and_false]
/-- The form of the text as the reference asks it. -/
def okR (u : List UInt8) : Prop := 1 ≤ nD u ∧ nD u ≤ 10 ∧ ¬ (1 < nD u ∧ u.head? = some 48) ∧
  (nD u = u.length ∨ (u[nD u]? = some 46 ∧ 1 ≤ nD (u.drop (nD u + 1)) ∧ nD (u.drop (nD u + 1)) ≤ 5 ∧ nD u + 1 + nD (u.drop (nD u + 1)) = u.length))
theorem whole_iff {d : List UInt8} (h : d.all isDg = true) : whole d = true ↔ 1 ≤ d.length ∧ d.length ≤ 10 ∧ ¬ (1 < d.length ∧ d.head? = some 48) := by
  unfold whole digs
  rw [h]
  match d with
  | [] => simp
  | [a] => by_cases ha : a = 48 <;> simp [ha]
  | a :: b :: d => simp
theorem nD_len (r : List UInt8) : nD r = r.length ↔ r.all isDg = true := by
  unfold nD
  constructor
  · intro h
    have := (List.takeWhile_prefix isDg (l := r)).eq_of_length h
    rw [← this]
    exact take_all r
  · intro h
    induction r with
    | nil => rfl
    | cons b r ih =>
      rw [List.all_cons, Bool.and_eq_true] at h
      rw [List.takeWhile_cons, if_pos h.1, List.length_cons, ih h.2, List.length_cons]
theorem digs_iff (l : List UInt8) (m : Nat) : digs l m = true ↔ 1 ≤ l.length ∧ l.length ≤ m ∧ l.all isDg = true := by
  unfold digs
  rw [Bool.and_eq_true, Bool.and_eq_true, decide_eq_true_eq, and_assoc]
  cases l <;> simp
theorem ok_iff (u : List UInt8) : okB u = true ↔ okR u := by
  obtain ⟨d, hd⟩ : ∃ d, u.takeWhile isDg = d := ⟨_, rfl⟩
  have ha := take_all u
  have hn : nD u = d.length := by unfold nD; rw [hd]
  have hs := nD_split u
  rw [hd] at ha hs
  unfold okR okB
  rw [hn]
  rcases hs with rfl | ⟨c, r, rfl, hc⟩
  · obtain ⟨e1, e2⟩ := dig_only ha
    rw [e1, e2]
    have := whole_iff ha
    simp [this]
  · have hw := whole_iff ha
    have hdr : (d ++ c :: r).drop (d.length + 1) = r := by simp
    have hg : (d ++ c :: r)[d.length]? = some c := by simp
    have hl : (d ++ c :: r).length = d.length + 1 + r.length := by simp; omega
    rw [hdr, hg, hl]
    have hh : (1 < d.length ∧ (d ++ c :: r).head? = some 48) ↔ (1 < d.length ∧ d.head? = some 48) := by
      cases d with
      | nil => simp
      | cons b d => rfl
    rw [hh]
    by_cases h46 : c = 46
    · subst h46
      obtain ⟨e1, e2, e3⟩ := dig_dot r ha
      rw [e1, e2, e3]
      have hr := nD_len r
      rw [Bool.and_eq_true, hw, Bool.not_true, Bool.false_or, digs_iff, ← hr]
      constructor
      · rintro ⟨⟨a, b, c⟩, d1, d2, d3⟩
        exact ⟨a, b, c, .inr ⟨rfl, by omega, by omega, by omega⟩⟩
      · rintro ⟨a, b, c, h | ⟨_, d1, d2, d3⟩⟩
        · omega
        · exact ⟨⟨a, b, c⟩, by omega, by omega, by omega⟩
    · have hz := dig_no r ha hc h46
      have hf : whole (bef (d ++ c :: r)) = false := by unfold whole digs; rw [hz]; simp
      rw [hf, Bool.false_and]
      constructor
      · intro h; cases h
      · rintro ⟨a, b, e, h | ⟨h, _⟩⟩
        · omega
        · exact absurd (Option.some.inj h) h46
end Go.Proofs.YtgfahenhobnjpaaDoor

import Derived.Test.YtlebppjldoodgaaSn
/-
  Names in the order of their bytes: a total order; a sorted list without doubles is the ascending one.
-/
namespace Go.Proofs.Ytlebppjldoodgaa
/-- The order of names by their bytes. -/
def leB (x y : List UInt8) : Bool := decide (x ≤ y)
theorem tot_leB : Tot leB where
  total a b := by
    rcases List.le_total a b with h | h
    · exact .inl (decide_eq_true h)
    · exact .inr (decide_eq_true h)
  anti a b h k := List.le_antisymm (of_decide_eq_true h) (of_decide_eq_true k)
  trans a b c h k := decide_eq_true (List.le_trans (of_decide_eq_true h) (of_decide_eq_true k))
/-- Sorted, and without doubles: strictly ascending. -/
theorem asc_sorted {α : Type} {le : α → α → Bool} (ht : Tot le) (l : List α) (h : l.Nodup) : Asc le (l.mergeSort le) := by
  have h1 : (l.mergeSort le).Pairwise fun a b => le a b = true :=
    List.pairwise_mergeSort (fun a b c => ht.trans a b c) (fun a b => by
      rcases ht.total a b with h | h
      · rw [h]; rfl
      · rw [h]; simp) l
  have h2 : (l.mergeSort le).Nodup := (List.mergeSort_perm l le).nodup_iff.2 h
  exact List.Pairwise.and h1 h2
theorem sorted_eq {α : Type} {le : α → α → Bool} (ht : Tot le) {l m : List α} (h : l.Nodup) (hm : Asc le m) (he : ∀ z, z ∈ l ↔ z ∈ m) : l.mergeSort le = m :=
  asc_unique ht _ _ (asc_sorted ht l h) hm fun z => by rw [(List.mergeSort_perm l le).mem_iff, he]
/-- Strictly ascending, by neighbours. -/
theorem asc_of_steps {α : Type} {le : α → α → Bool} (ht : Tot le) : ∀ (l : List α), (∀ k (h : k + 1 < l.length), le l[k] l[k + 1] = true ∧ l[k] ≠ l[k + 1]) → Asc le l
  | [], _ => List.Pairwise.nil
  | [a], _ => List.pairwise_singleton _ _
  | a :: b :: r, h => by
    have h1 : Asc le (b :: r) := asc_of_steps ht (b :: r) fun k hk => h (k + 1) (by simpa using hk)
    have h0 : le a b = true ∧ a ≠ b := h 0 (by simp)
    refine List.pairwise_cons.2 ⟨fun z hz => ?_, h1⟩
    rcases List.mem_cons.1 hz with rfl | hz
    · exact h0
    · have hb := (List.pairwise_cons.1 h1).1 z hz
      refine ⟨ht.trans _ _ _ h0.1 hb.1, fun e => ?_⟩
      subst e
      exact h0.2 (ht.anti _ _ h0.1 hb.1)
theorem steps_of_asc {α : Type} {le : α → α → Bool} {l : List α} (h : Asc le l) (k : Nat) (hk : k + 1 < l.length) : le l[k] l[k + 1] = true ∧ l[k] ≠ l[k + 1] :=
  List.pairwise_iff_getElem.1 h k (k + 1) (by omega) hk (by omega)
/-- Strictly less, in the order of bytes. -/
theorem ltB (x y : List UInt8) : x < y ↔ leB x y = true ∧ x ≠ y := by
  constructor
  · intro h
    exact ⟨decide_eq_true (List.le_of_lt h), fun e => by subst e; exact List.lt_irrefl _ h⟩
  · rintro ⟨h, hne⟩
    rcases Decidable.em (x < y) with h1 | h1
    · exact h1
    · exact absurd (List.le_antisymm (of_decide_eq_true h) (List.not_lt.1 h1)) hne
end Go.Proofs.Ytlebppjldoodgaa

import Derived.Test.YtlebppjldoodgaaSn
/-
  Definitions found by name, and that their order does not matter: mathematics of looking up. No conditions beyond those that each names.
-/
namespace Go.Proofs.Ytlebppjldoodgaa
section
variable {α β : Type} [DecidableEq β]
/-- The first with this name. -/
def fst_ (key : α → β) (l : List α) (k : β) : Option α := l.find? fun a => decide (key a = k)
theorem fst_nil (key : α → β) (k : β) : fst_ key [] k = none := rfl
theorem fst_cons (key : α → β) (a : α) (l : List α) (k : β) : fst_ key (a :: l) k = if key a = k then some a else fst_ key l k := by
  unfold fst_
  rw [List.find?_cons]
  by_cases h : key a = k <;> simp [h]
theorem fst_mem {key : α → β} {l : List α} {k : β} {a : α} (h : fst_ key l k = some a) : a ∈ l ∧ key a = k := by
  refine ⟨List.mem_of_find?_eq_some h, ?_⟩
  have := List.find?_some h
  simpa using this
theorem fst_none {key : α → β} {l : List α} {k : β} : fst_ key l k = none ↔ ∀ a ∈ l, key a ≠ k := by
  unfold fst_
  rw [List.find?_eq_none]
  exact ⟨fun h a ha e => h a ha (decide_eq_true e), fun h a ha e => h a ha (of_decide_eq_true e)⟩
/-- Where no two have one name, what is found is the one with the name. -/
theorem fst_iff {key : α → β} : ∀ {l : List α}, (l.map key).Nodup → ∀ {k : β} {a : α}, fst_ key l k = some a ↔ a ∈ l ∧ key a = k
  | [], _, k, a => by simp [fst_nil]
  | b :: l, h, k, a => by
    rw [List.map_cons, List.nodup_cons] at h
    rw [fst_cons]
    constructor
    · intro e
      split at e
      · rename_i hb; cases e; exact ⟨by simp, hb⟩
      · have := fst_mem e; exact ⟨by simp [this.1], this.2⟩
    · rintro ⟨hm, rfl⟩
      rcases List.mem_cons.1 hm with rfl | hm
      · simp
      · rw [if_neg fun e => h.1 (by rw [e]; exact List.mem_map_of_mem hm)]
        exact (fst_iff h.2).2 ⟨hm, rfl⟩
/-- Their order does not matter. -/
theorem fst_perm {key : α → β} {l m : List α} (h : (l.map key).Nodup) (p : l.Perm m) (k : β) : fst_ key l k = fst_ key m k := by
  have h' : (m.map key).Nodup := (p.map key).nodup_iff.1 h
  cases e : fst_ key m k with
  | none => exact fst_none.2 fun a ha => fst_none.1 e a (p.mem_iff.1 ha)
  | some a => exact (fst_iff h).2 ⟨p.mem_iff.2 ((fst_iff h').1 e).1, ((fst_iff h').1 e).2⟩
/-- What has another name does not matter. -/
theorem fst_other {key : α → β} (l : List α) {b : α} {k : β} (h : key b ≠ k) : fst_ key (l ++ [b]) k = fst_ key l k := by
  unfold fst_
  rw [List.find?_append]
  simp [h]
theorem fst_other' {key : α → β} {l : List α} {b : α} {k : β} (h : fst_ key l k ≠ none) : fst_ key (l ++ [b]) k = fst_ key l k := by
  unfold fst_ at h ⊢
  rw [List.find?_append]
  cases e : l.find? (fun a => decide (key a = k)) with
  | none => exact absurd e h
  | some a => rfl
end
section
variable {α : Type}
/-- What is reached depends only on the steps of what is reached. -/
theorem Reach.only {next next' : α → List α} {x : α} (hx : ∀ z, z = x ∨ Reach next x z → ∀ y, y ∈ next z ↔ y ∈ next' z) (y : α) : Reach next x y ↔ Reach next' x y := by
  constructor
  · intro h
    induction h with
    | one h => exact .one ((hx _ (.inl rfl) _).1 h)
    | more h hz ih => exact .more ih ((hx _ (.inr h) _).1 hz)
  · intro h
    induction h with
    | one h => exact .one ((hx _ (.inl rfl) _).2 h)
    | more h hz ih => exact .more ih ((hx _ (.inr ih) _).2 hz)
end
end Go.Proofs.Ytlebppjldoodgaa

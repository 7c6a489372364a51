/-
  Chains of hashes: equal ends mean equal lists, or a collision. No conditions beyond those that each names.
-/
import Derived.Test.YtghmbglnhcdbjaaDoorCg
namespace Go.Proofs.YtghmbglnhcdbjaaDoor
/-- The end of a chain. -/
def chn (x : Nat) (A : List (List UInt8)) : Nat := A.foldl (fun x s => hash (lk x s)) x
theorem chn_lt {x : Nat} (h : x < 18446744073709551616) (A : List (List UInt8)) : chn x A < 18446744073709551616 := by
  induction A generalizing x with
  | nil => exact h
  | cons a A ih => exact ih (hash_lt _)
theorem chn_snoc (x : Nat) (A : List (List UInt8)) (a : List UInt8) : chn x (A ++ [a]) = hash (lk (chn x A) a) := by
  unfold chn
  rw [List.foldl_append, List.foldl_cons, List.foldl_nil]
/-- What two chains hash, in turn. -/
def hsh (x y : Nat) : List (List UInt8) → List (List UInt8) → List (List UInt8)
  | a :: A, b :: B => lk x a :: lk y b :: hsh (hash (lk x a)) (hash (lk y b)) A B
  | _, _ => []
theorem hsh_snoc (x y : Nat) (A B : List (List UInt8)) (a b : List UInt8) (h : A.length = B.length) : hsh x y (A ++ [a]) (B ++ [b]) = hsh x y A B ++ [lk (chn x A) a, lk (chn y B) b] := by
  induction A generalizing B x y with
  | nil => cases B with
    | nil => rfl
    | cons _ _ => cases h
  | cons c A ih => cases B with
    | nil => cases h
    | cons d B =>
      show lk x c :: lk y d :: hsh _ _ (A ++ [a]) (B ++ [b]) = lk x c :: lk y d :: (hsh _ _ A B ++ [lk (chn (hash (lk x c)) A) a, lk (chn (hash (lk y d)) B) b])
      rw [ih _ _ _ (by simpa using h)]
theorem hsh_length (x y : Nat) (A B : List (List UInt8)) (h : A.length = B.length) : (hsh x y A B).length = 2 * A.length := by
  induction A generalizing B x y with
  | nil => cases B with
    | nil => rfl
    | cons _ _ => cases h
  | cons c A ih => cases B with
    | nil => cases h
    | cons d B => simp only [hsh, List.length_cons]; rw [ih _ _ _ (by simpa using h)]; omega
/-- Two different strings of a list have one hash. -/
def Col (L : List (List UInt8)) : Prop := ∃ s ∈ L, ∃ t ∈ L, s ≠ t ∧ hash s = hash t
theorem lk_inj {x y : Nat} {a b : List UInt8} (hx : x < 18446744073709551616) (hy : y < 18446744073709551616) (h : lk x a = lk y b) : x = y ∧ a = b := by
  unfold lk at h
  obtain ⟨h1, h2⟩ := List.append_inj h (by rw [le_length, le_length])
  exact ⟨le_inj (k := 8) hx hy h1, (List.append_inj h2 (by rw [le_length, le_length])).2⟩
theorem chn_col (A : List (List UInt8)) : ∀ (B : List (List UInt8)) (x y : Nat), A.length = B.length → x < 18446744073709551616 → y < 18446744073709551616 → chn x A = chn y B → (x = y ∧ A = B) ∨ Col (hsh x y A B) := by
  induction A with
  | nil =>
    intro B x y h _ _ e
    cases B with
    | nil => exact .inl ⟨e, rfl⟩
    | cons _ _ => cases h
  | cons a A ih =>
    intro B x y h hx hy e
    cases B with
    | nil => cases h
    | cons b B =>
      rcases ih B _ _ (by simpa using h) (hash_lt (lk x a)) (hash_lt (lk y b)) e with ⟨h1, h2⟩ | ⟨s, hs, t, ht, h3⟩
      · by_cases hl : lk x a = lk y b
        · obtain ⟨h4, h5⟩ := lk_inj hx hy hl
          exact .inl ⟨h4, by rw [h5, h2]⟩
        · exact .inr ⟨_, List.mem_cons_self .., _, List.mem_cons_of_mem _ (List.mem_cons_self ..), hl, h1⟩
      · exact .inr ⟨s, List.mem_cons_of_mem _ (List.mem_cons_of_mem _ hs), t, List.mem_cons_of_mem _ (List.mem_cons_of_mem _ ht), h3⟩
/-- A collision, by places, the greater one first. -/
theorem Col.at_ {L : List (List UInt8)} (h : Col L) : ∃ i j, ∃ (hi : i < L.length) (hj : j < i), L[i] ≠ L[j] ∧ hash L[i] = hash L[j] := by
  obtain ⟨s, hs, t, ht, hne, he⟩ := h
  obtain ⟨i, hi, rfl⟩ := List.getElem_of_mem hs
  obtain ⟨j, hj, rfl⟩ := List.getElem_of_mem ht
  rcases Nat.lt_trichotomy i j with h | h | h
  · exact ⟨j, i, hj, h, Ne.symm hne, he.symm⟩
  · subst h; exact absurd rfl hne
  · exact ⟨i, j, hi, h, hne, he⟩
end Go.Proofs.YtghmbglnhcdbjaaDoor

import Derived.Test.YtiooilkbbfflaaaJb
/-
  Timers that fire once, some of them canceled, and what fires up to a time: mathematics. No conditions beyond those that each names.
-/
namespace Go.Proofs.Ytiooilkbbfflaaa
open Go.RowKit Go.Sort Go.Lib Go.Shelf
/-- Timer number j + 1. -/
def tmj (T : Nat → Nat) (j : Nat) : Tm := ⟨j + 1, T j, 0⟩
/-- The timers that are left when the first i were looked at. -/
def kpl (T : Nat → Nat) (G : Nat → Bool) (n i : Nat) : List Tm := ((List.range n).filter fun j => !(decide (j < i) && G j)).map (tmj T)
theorem filter_perm {L : List Nat} (hn : L.Nodup) {p p' : Nat → Bool} {i : Nat} (hi : i ∈ L) (hp : p i = true) (h : ∀ j, p' j = (p j && (j != i))) : (L.filter p).Perm (i :: L.filter p') := by
  have h1 : i ∈ L.filter p := List.mem_filter.2 ⟨hi, hp⟩
  have h2 := List.perm_cons_erase h1
  rw [List.Nodup.erase_eq_filter (hn.filter p) i, List.filter_filter] at h2
  have e : (fun a => (a != i) && p a) = p' := by
    funext a; rw [h a, Bool.and_comm]
  rw [e] at h2
  exact h2
theorem kpl_zero (T : Nat → Nat) (G : Nat → Bool) (n : Nat) : kpl T G n 0 = (List.range n).map (tmj T) := by
  unfold kpl
  rw [List.filter_eq_self.2 (fun j _ => by simp)]
theorem kpl_stay (T : Nat → Nat) (G : Nat → Bool) (n i : Nat) (hG : G i = false) : kpl T G n (i + 1) = kpl T G n i := by
  unfold kpl
  congr 1
  refine List.filter_congr fun j _ => ?_
  by_cases h : j = i
  · subst h; rw [hG]; simp
  · have : decide (j < i + 1) = decide (j < i) := by
      by_cases h2 : j < i
      · rw [decide_eq_true h2, decide_eq_true (by omega)]
      · rw [decide_eq_false h2, decide_eq_false (by omega)]
    rw [this]
theorem kpl_gone (T : Nat → Nat) (G : Nat → Bool) (n i : Nat) (hi : i < n) (hG : G i = true) : (kpl T G n i).Perm (tmj T i :: kpl T G n (i + 1)) := by
  unfold kpl
  rw [← List.map_cons]
  refine (filter_perm List.nodup_range (List.mem_range.2 hi) (by simp) fun j => ?_).map (tmj T)
  by_cases h : j = i
  · subst h; rw [hG]; simp
  · have h1 : (j != i) = true := by simpa using h
    have : decide (j < i + 1) = decide (j < i) := by
      by_cases h2 : j < i
      · rw [decide_eq_true h2, decide_eq_true (by omega)]
      · rw [decide_eq_false h2, decide_eq_false (by omega)]
    rw [h1, this, Bool.and_true]
theorem kpl_mem {T : Nat → Nat} {G : Nat → Bool} {n i : Nat} {x : Tm} (h : x ∈ kpl T G n i) : ∃ j, j < n ∧ x = tmj T j ∧ (j < i → G j = false) := by
  unfold kpl at h
  obtain ⟨j, hj, rfl⟩ := List.mem_map.1 h
  rw [List.mem_filter] at hj
  refine ⟨j, List.mem_range.1 hj.1, rfl, fun hji => ?_⟩
  have := hj.2
  rw [decide_eq_true hji, Bool.true_and] at this
  simpa using this
theorem range_snoc (T : Nat → Nat) (i : Nat) : (List.range (i + 1)).map (tmj T) = (List.range i).map (tmj T) ++ [tmj T i] := by
  rw [List.range_succ, List.map_append]; rfl
/-- One timer goes. -/
theorem erase_perm {l m : List Tm} {x : Tm} {k : Nat} (hk : k < l.length) (hx : l[k]'hk = x) (h : l.Perm (x :: m)) : (l.eraseIdx k).Perm m := by
  have h1 : ((l[k]'hk) :: l.eraseIdx k).Perm l := by
    rw [erase_eq]
    have h2 := List.perm_middle (a := l[k]'hk) (l₁ := l.take k) (l₂ := l.drop (k + 1))
    rw [← List.drop_eq_getElem_cons hk, List.take_append_drop] at h2
    exact h2.symm
  rw [hx] at h1
  exact (h1.trans h).cons_inv
theorem fr_zero (u : Nat) : ∀ (l : List Tm) (f : Nat) (acc : List (Nat × Nat)), (∀ x ∈ l, x.per = 0) → l.length ≤ f → fr u f acc l = some (acc ++ fir (l.takeWhile fun x => decide (x.at_ ≤ u)), l.dropWhile fun x => decide (x.at_ ≤ u))
  | [], f, acc, _, _ => by rw [fr_nil]; simp [fir]
  | x :: l, f, acc, h0, hf => by
    by_cases hx : u < x.at_
    · rw [fr_stop hx, List.takeWhile_cons_of_neg (by simp; omega), List.dropWhile_cons_of_neg (by simp; omega)]; simp [fir]
    · cases f with
      | zero => simp at hf
      | succ f =>
        have hn : nxt x l = l := by unfold nxt; rw [if_neg (by rw [h0 x (List.mem_cons_self ..)]; omega)]
        rw [fr_step (by omega), hn, fr_zero u l f _ (fun y hy => h0 y (List.mem_cons_of_mem _ hy)) (by simpa using hf), List.takeWhile_cons_of_pos (by simp; omega), List.dropWhile_cons_of_pos (by simp; omega)]
        simp [fir]
theorem take_filter (u : Nat) : ∀ (l : List Tm), l.Pairwise ltT → (l.takeWhile fun x => decide (x.at_ ≤ u)) = l.filter fun x => decide (x.at_ ≤ u)
  | [], _ => rfl
  | x :: l, h => by
    rw [List.pairwise_cons] at h
    by_cases hx : x.at_ ≤ u
    · rw [List.takeWhile_cons_of_pos (by simpa using hx), List.filter_cons_of_pos (by simpa using hx), take_filter u l h.2]
    · rw [List.takeWhile_cons_of_neg (by simpa using hx), List.filter_cons_of_neg (by simpa using hx)]
      refine (List.filter_eq_nil_iff.2 fun y hy => ?_).symm
      have := h.1 y hy
      unfold ltT at this
      simp; omega
/-- How many are due among the first i. -/
def due (T : Nat → Nat) (G : Nat → Bool) (u i : Nat) : Nat := (List.range i).countP fun j => !G j && decide (T j ≤ u)
theorem due_succ (T : Nat → Nat) (G : Nat → Bool) (u i : Nat) : due T G u (i + 1) = due T G u i + (if (!G i && decide (T i ≤ u)) = true then 1 else 0) := by
  unfold due
  rw [List.range_succ, List.countP_append, List.countP_singleton]
theorem due_le (T : Nat → Nat) (G : Nat → Bool) (u i : Nat) : due T G u i ≤ i := by
  unfold due
  have := List.countP_le_length (p := fun j => !G j && decide (T j ≤ u)) (l := List.range i)
  simpa using this
theorem due_all {T : Nat → Nat} {G : Nat → Bool} {u n : Nat} {l : List Tm} (h : l.Perm (kpl T G n n)) (hs : l.Pairwise ltT) : (l.takeWhile fun x => decide (x.at_ ≤ u)).length = due T G u n := by
  rw [take_filter u l hs, ← List.countP_eq_length_filter, h.countP_eq]
  unfold kpl due
  rw [List.countP_map, List.countP_filter]
  refine List.countP_congr fun j hj => ?_
  have hjn := List.mem_range.1 hj
  simp only [Function.comp, tmj, decide_eq_true hjn, Bool.true_and]
  rw [Bool.and_comm]
  exact Iff.rfl
theorem kpl_len (T : Nat → Nat) (G : Nat → Bool) (n i : Nat) : (kpl T G n i).length ≤ n := by
  unfold kpl
  rw [List.length_map]
  have := List.length_filter_le (fun j => !(decide (j < i) && G j)) (List.range n)
  simpa using this
end Go.Proofs.Ytiooilkbbfflaaa

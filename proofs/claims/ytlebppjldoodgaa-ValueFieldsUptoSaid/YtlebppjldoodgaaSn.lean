/-
  Ascending lists, and what a search in rounds finds: mathematics of what a struct uses. No conditions beyond those that each names.
-/
namespace Go.Proofs.Ytlebppjldoodgaa
section
variable {α : Type}
/-- A total order, as a test. -/
structure Tot (le : α → α → Bool) : Prop where
  total : ∀ a b, le a b = true ∨ le b a = true
  anti : ∀ a b, le a b = true → le b a = true → a = b
  trans : ∀ a b c, le a b = true → le b c = true → le a c = true
/-- A list with a name put where it belongs, once. -/
def put [DecidableEq α] (le : α → α → Bool) : List α → α → List α
  | [], x => [x]
  | y :: r, x => if le x y then (if x = y then y :: r else x :: y :: r) else y :: put le r x
/-- Strictly ascending. -/
def Asc (le : α → α → Bool) (l : List α) : Prop := l.Pairwise fun a b => le a b = true ∧ a ≠ b
theorem mem_put [DecidableEq α] (le : α → α → Bool) (l : List α) (x z : α) : z ∈ put le l x ↔ z = x ∨ z ∈ l := by
  induction l with
  | nil => simp [put]
  | cons y r ih =>
    unfold put
    split
    · split
      · rename_i h; subst h; simp
      · simp
    · simp only [List.mem_cons, ih]
      constructor
      · rintro (h | h | h)
        · exact .inr (.inl h)
        · exact .inl h
        · exact .inr (.inr h)
      · rintro (h | h | h)
        · exact .inr (.inl h)
        · exact .inl h
        · exact .inr (.inr h)
theorem asc_put [DecidableEq α] {le : α → α → Bool} (ht : Tot le) (l : List α) (x : α) (h : Asc le l) : Asc le (put le l x) := by
  induction l with
  | nil => exact List.pairwise_singleton _ _
  | cons y r ih =>
    obtain ⟨h1, h2⟩ := List.pairwise_cons.1 h
    unfold put
    split
    · rename_i hxy
      split
      · exact h
      · rename_i hne
        refine List.pairwise_cons.2 ⟨fun z hz => ?_, h⟩
        rcases List.mem_cons.1 hz with rfl | hz
        · exact ⟨hxy, hne⟩
        · refine ⟨ht.trans _ _ _ hxy (h1 z hz).1, fun e => ?_⟩
          subst e
          exact (h1 _ hz).2 (ht.anti _ _ (h1 _ hz).1 hxy)
    · rename_i hxy
      refine List.pairwise_cons.2 ⟨fun z hz => ?_, ih h2⟩
      rcases (mem_put le r x z).1 hz with rfl | hz
      · refine ⟨(ht.total y z).resolve_right hxy, fun e => ?_⟩
        subst e
        exact hxy ((ht.total y y).elim id id)
      · exact h1 z hz
/-- Two strictly ascending lists with the same elements are one list. -/
theorem asc_unique {le : α → α → Bool} (ht : Tot le) : ∀ (l m : List α), Asc le l → Asc le m → (∀ z, z ∈ l ↔ z ∈ m) → l = m
  | [], [], _, _, _ => rfl
  | [], b :: m, _, _, h => by have := (h b).2 (by simp); cases this
  | a :: l, [], _, _, h => by have := (h a).1 (by simp); cases this
  | a :: l, b :: m, hl, hm, h => by
    obtain ⟨l1, l2⟩ := List.pairwise_cons.1 hl
    obtain ⟨m1, m2⟩ := List.pairwise_cons.1 hm
    have e : a = b := by
      rcases List.mem_cons.1 ((h a).1 (by simp)) with e | ha
      · exact e
      · rcases List.mem_cons.1 ((h b).2 (by simp)) with e | hb
        · exact e.symm
        · exact ht.anti _ _ (l1 b hb).1 (m1 a ha).1
    subst e
    rw [asc_unique ht l m l2 m2 fun z => ?_]
    constructor
    · intro hz
      rcases List.mem_cons.1 ((h z).1 (by simp [hz])) with e | hz2
      · exact absurd e.symm (l1 z hz).2
      · exact hz2
    · intro hz
      rcases List.mem_cons.1 ((h z).2 (by simp [hz])) with e | hz2
      · exact absurd e.symm (m1 z hz).2
      · exact hz2
theorem asc_nodup {le : α → α → Bool} {l : List α} (h : Asc le l) : l.Nodup := h.imp fun h => h.2
/-- What a name leads to, in one step or more. -/
inductive Reach (next : α → List α) (x : α) : α → Prop where
  | one {y : α} : y ∈ next x → Reach next x y
  | more {y z : α} : Reach next x y → z ∈ next y → Reach next x z
theorem Reach.trans {next : α → List α} {x y z : α} (h : Reach next x y) (k : Reach next y z) : Reach next x z := by
  induction k with
  | one h2 => exact .more h h2
  | more _ h2 ih => exact .more ih h2
/-- The search after the names before number i, and of number i those in done: out is what was found, todo what is looked at in order. -/
structure Bf (le : α → α → Bool) (next : α → List α) (root : α) (out todo : List α) (i : Nat) (done : List α) : Prop where
  asc : Asc le out
  hd : ∃ rest, todo = root :: rest ∧ rest.Nodup ∧ ∀ y, y ∈ rest ↔ y ∈ out
  re : ∀ y ∈ out, Reach next root y
  cl : ∀ k (h : k < todo.length), k < i → ∀ y ∈ next (todo[k]'h), y ∈ out
  dn : ∀ y ∈ done, y ∈ out
theorem Bf.start (le : α → α → Bool) (next : α → List α) (root : α) : Bf le next root [] [root] 0 [] :=
  ⟨List.Pairwise.nil, ⟨[], rfl, List.nodup_nil, fun _ => Iff.rfl⟩, fun _ h => (by cases h), fun _ _ h => (by omega), fun _ h => (by cases h)⟩
theorem Bf.old {le : α → α → Bool} {next : α → List α} {root : α} {out todo : List α} {i : Nat} {done : List α} (h : Bf le next root out todo i done) {y : α} (hy : y ∈ out) : Bf le next root out todo i (done ++ [y]) :=
  ⟨h.asc, h.hd, h.re, h.cl, fun z hz => by
    rcases List.mem_append.1 hz with hz | hz
    · exact h.dn z hz
    · rw [List.mem_singleton.1 hz]; exact hy⟩
theorem Bf.new [DecidableEq α] {le : α → α → Bool} (ht : Tot le) {next : α → List α} {root : α} {out todo : List α} {i : Nat} {done : List α} (h : Bf le next root out todo i done) {y : α} (hi : i < todo.length) (hn : y ∈ next (todo[i]'hi)) (hy : y ∉ out) : Bf le next root (put le out y) (todo ++ [y]) i (done ++ [y]) := by
  obtain ⟨rest, rfl, h1, h2⟩ := h.hd
  refine ⟨asc_put ht _ _ h.asc, ⟨rest ++ [y], rfl, ?_, fun z => ?_⟩, fun z hz => ?_, fun k hk hki z hz => ?_, fun z hz => ?_⟩
  · rw [List.nodup_append]
    refine ⟨h1, by simp, fun a ha b hb e => ?_⟩
    rw [List.mem_singleton.1 hb] at e
    subst e
    exact hy ((h2 _).1 ha)
  · rw [mem_put, List.mem_append, List.mem_singleton, h2, or_comm]
  · rcases (mem_put _ _ _ _).1 hz with rfl | hz
    · cases i with
      | zero => exact .one hn
      | succ j =>
        have hj : j < rest.length := by simpa using hi
        have hm : rest[j] ∈ out := (h2 _).1 (List.getElem_mem hj)
        exact .more (h.re _ hm) hn
    · exact h.re z hz
  · have hk2 : k < (root :: rest).length := by omega
    rw [List.getElem_append_left hk2] at hz
    exact (mem_put _ _ _ _).2 (.inr (h.cl k hk2 hki z hz))
  · rcases List.mem_append.1 hz with hz | hz
    · exact (mem_put _ _ _ _).2 (.inr (h.dn z hz))
    · exact (mem_put _ _ _ _).2 (.inl (List.mem_singleton.1 hz))
theorem Bf.next {le : α → α → Bool} {next : α → List α} {root : α} {out todo : List α} {i : Nat} {done : List α} (h : Bf le next root out todo i done) (hi : i < todo.length) (hd : done = next (todo[i]'hi)) : Bf le next root out todo (i + 1) [] := by
  refine ⟨h.asc, h.hd, h.re, fun k hk hki y hy => ?_, fun _ h => by cases h⟩
  by_cases e : k = i
  · subst e
    exact h.dn y (by rw [hd]; exact hy)
  · exact h.cl k hk (by omega) y hy
/-- At the end: what was found is what the root leads to. -/
theorem Bf.done_ {le : α → α → Bool} {next : α → List α} {root : α} {out todo : List α} {i : Nat} {done : List α} (h : Bf le next root out todo i done) (hi : i = todo.length) : Asc le out ∧ ∀ y, y ∈ out ↔ Reach next root y := by
  refine ⟨h.asc, fun y => ⟨h.re y, fun hr => ?_⟩⟩
  obtain ⟨rest, rfl, -, h2⟩ := h.hd
  induction hr with
  | one hy => exact h.cl 0 (by simp) (by rw [hi]; simp) _ hy
  | more _ hz ih =>
    obtain ⟨k, hk, e⟩ := List.mem_iff_getElem.1 ((h2 _).2 ih)
    refine h.cl (k + 1) (by simpa using hk) (by rw [hi]; simpa using hk) _ ?_
    rw [List.getElem_cons_succ, e]
    exact hz
/-- So many names at the most. -/
theorem nodup_le [DecidableEq α] : ∀ (l U : List α), l.Nodup → (∀ y ∈ l, y ∈ U) → l.length ≤ U.length
  | [], _, _, _ => Nat.zero_le _
  | a :: l, U, h, hs => by
    obtain ⟨h1, h2⟩ := List.nodup_cons.1 h
    have hm := hs a (by simp)
    have := nodup_le l (U.erase a) h2 fun y hy => (List.mem_erase_of_ne (fun e => h1 (by rw [← e]; exact hy))).2 (hs y (by simp [hy]))
    rw [List.length_erase_of_mem hm] at this
    have := List.length_pos_of_mem hm
    simp only [List.length_cons]
    omega
theorem Bf.len [DecidableEq α] {le : α → α → Bool} {next : α → List α} {root : α} {out todo : List α} {i : Nat} {done : List α} (h : Bf le next root out todo i done) (U : List α) (hU : ∀ x, ∀ y ∈ next x, y ∈ U) : todo.length ≤ U.length + 1 := by
  obtain ⟨rest, rfl, h1, h2⟩ := h.hd
  have := nodup_le rest U h1 fun y hy => by
    have hr := h.re y ((h2 y).1 hy)
    cases hr with
    | one h => exact hU _ _ h
    | more _ h => exact hU _ _ h
  simp only [List.length_cons]
  omega
/-- Reaching does not depend on how the steps are listed. -/
theorem Reach.same {next next' : α → List α} (h : ∀ x y, y ∈ next x ↔ y ∈ next' x) {x y : α} (k : Reach next x y) : Reach next' x y := by
  induction k with
  | one h1 => exact .one ((h _ _).1 h1)
  | more _ h1 ih => exact .more ih ((h _ _).1 h1)
end
end Go.Proofs.Ytlebppjldoodgaa

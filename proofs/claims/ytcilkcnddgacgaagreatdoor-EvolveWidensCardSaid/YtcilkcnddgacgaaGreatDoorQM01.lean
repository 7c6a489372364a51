/-
  Ascending lists, and what a search in rounds finds: mathematics of what a struct uses. No conditions beyond those that each names.
-/
namespace Go.Proofs.YtcilkcnddgacgaaGreatDoor
section
variable {α : Type}
/-- A total order, as a test. -/
structure Tot (le : α → α → Bool) : Prop where
  total : ∀ a b, le a b = true ∨ le b a = true
  anti : ∀ a b, le a b = true → le b a = true → a = b
  trans : ∀ a b c, le a b = true → le b c = true → le a c = true
/-- A list with a name put where it belongs, once. -/
def put [DecidableEq α] (le : α → α → Bool) : List α → α → List α
  | [], x => [x]
  | y :: r, x => if le x y then (if x = y then y :: r else x :: y :: r) else y :: put le r x
/-- Strictly ascending. -/
def Asc (le : α → α → Bool) (l : List α) : Prop := l.Pairwise fun a b => le a b = true ∧ a ≠ b
theorem mem_put [DecidableEq α] (le : α → α → Bool) (l : List α) (x z : α) : z ∈ put le l x ↔ z = x ∨ z ∈ l := by
  induction l with
  | nil => simp [put]
  | cons y r ih =>
    unfold put
    split
    · split
      · rename_i h; subst h; simp
      · simp
    · simp only [List.mem_cons, ih]
      constructor
      · rintro (h | h | h)
        · exact .inr (.inl h)
        · exact .inl h
        · exact .inr (.inr h)
      · rintro (h | h | h)
        · exact .inr (.inl h)
        · exact .inl h
        · exact .inr (.inr h)
theorem asc_put [DecidableEq α] {le : α → α → Bool} (ht : Tot le) (l : List α) (x : α) (h : Asc le l) : Asc le (put le l x) := by
  induction l with
  | nil => exact List.pairwise_singleton _ _
  | cons y r ih =>
    obtain ⟨h1, h2⟩ := List.pairwise_cons.1 h
    unfold put
    split
    · rename_i hxy
      split
      · exact h
      · rename_i hne
        refine List.pairwise_cons.2 ⟨fun z hz => ?_, h⟩
        rcases List.mem_cons.1 hz with rfl | hz
        · exact ⟨hxy, hne⟩
        · refine ⟨ht.trans _ _ _ hxy (h1 z hz).1, fun e => ?_⟩
          subst e
          exact (h1 _ hz).2 (ht.anti _ _ (h1 _ hz).1 hxy)
    · rename_i hxy
      refine List.pairwise_cons.2 ⟨fun z hz => ?_, ih h2⟩
      rcases (mem_put le r x z).1 hz with rfl | hz
      · refine ⟨(ht.total y z).resolve_right hxy, fun e => ?_⟩
        subst e
        exact hxy ((ht.total y y).elim id id)
      · exact h1 z hz
/-- Two strictly ascending lists with the same elements are one list. -/
theorem asc_unique {le : α → α → Bool} (ht : Tot le) : ∀ (l m : List α), Asc le l → Asc le m → (∀ z, z ∈ l ↔ z ∈ m) → l = m
  | [], [], _, _, _ => rfl
  | [], b :: m, _, _, h => by have := (h b).2 (by simp); cases this
  | a :: l, [], _, _, h => by have := (h a).1 (by simp); cases this
  | a :: l, b :: m, hl, hm, h => by
    obtain ⟨l1, l2⟩ := List.pairwise_cons.1 hl
    obtain ⟨m1, m2⟩ := List.pairwise_cons.1 hm
    have e : a = b := by
      rcases List.mem_cons.1 ((h a).1 (by simp)) with e | ha
      · exact e
      · rcases List.mem_cons.1 ((h b).2 (by simp)) with e | hb
        · exact e.symm
        · exact ht.anti _ _ (l1 b hb).1 (m1 a ha).1
    subst e
    rw [asc_unique ht l m l2 m2 fun z => ?_]
    constructor
    · intro hz
      rcases List.mem_cons.1 ((h z).1 (by simp [hz])) with e | hz2
      · exact absurd e.symm (l1 z hz).2
      · exact hz2
    · intro hz
      rcases List.mem_cons.1 ((h z).2 (by simp [hz])) with e | hz2
      · exact absurd e.symm (m1 z hz).2
      · exact hz2
theorem asc_nodup {le : α → α → Bool} {l : List α} (h : Asc le l) : l.Nodup := h.imp fun h => h.2
/-- What a name leads to, in one step or more. -/
inductive Reach (next : α → List α) (x : α) : α → Prop where
  | one {y : α} : y ∈ next x → Reach next x y
  | more {y z : α} : Reach next x y → z ∈ next y → Reach next x z
theorem Reach.trans {next : α → List α} {x y z : α} (h : Reach next x y) (k : Reach next y z) : Reach next x z := by
  induction k with
  | one h2 => exact .more h h2
  | more _ h2 ih => exact .more ih h2
/-- The search after the names before number i, and of number i those in done: out is what was found, todo what is looked at in order. -/
structure Bf (le : α → α → Bool) (next : α → List α) (root : α) (out todo : List α) (i : Nat) (done : List α) : Prop where
  asc : Asc le out
  hd : ∃ rest, todo = root :: rest ∧ rest.Nodup ∧ ∀ y, y ∈ rest ↔ y ∈ out
  re : ∀ y ∈ out, Reach next root y
  cl : ∀ k (h : k < todo.length), k < i → ∀ y ∈ next (todo[k]'h), y ∈ out
  dn : ∀ y ∈ done, y ∈ out
theorem Bf.start (le : α → α → Bool) (next : α → List α) (root : α) : Bf le next root [] [root] 0 [] :=
  ⟨List.Pairwise.nil, ⟨[], rfl, List.nodup_nil, fun _ => Iff.rfl⟩, fun _ h => (by cases h), fun _ _ h => (by omega), fun _ h => (by cases h)⟩
theorem Bf.old {le : α → α → Bool} {next : α → List α} {root : α} {out todo : List α} {i : Nat} {done : List α} (h : Bf le next root out todo i done) {y : α} (hy : y ∈ out) : Bf le next root out todo i (done ++ [y]) :=
  ⟨h.asc, h.hd, h.re, h.cl, fun z hz => by
    rcases List.mem_append.1 hz with hz | hz
    · exact h.dn z hz
    · rw [List.mem_singleton.1 hz]; exact hy⟩
theorem Bf.new [DecidableEq α] {le : α → α → Bool} (ht : Tot le) {next : α → List α} {root : α} {out todo : List α} {i : Nat} {done : List α} (h : Bf le next root out todo i done) {y : α} (hi : i < todo.length) (hn : y ∈ next (todo[i]'hi)) (hy : y ∉ out) : Bf le next root (put le out y) (todo ++ [y]) i (done ++ [y]) := by
  obtain ⟨rest, rfl, h1, h2⟩ := h.hd
  refine ⟨asc_put ht _ _ h.asc, ⟨rest ++ [y], rfl, ?_, fun z => ?_⟩, fun z hz => ?_, fun k hk hki z hz => ?_, fun z hz => ?_⟩
  · rw [List.nodup_append]
    refine ⟨h1, by simp, fun a ha b hb e => ?_⟩
    rw [List.mem_singleton.1 hb] at e
    subst e
    exact hy ((h2 _).1 ha)
  · rw [mem_put, List.mem_append, List.mem_singleton, h2, or_comm]
  · rcases (mem_put _ _ _ _).1 hz with rfl | hz
    · cases i with
      | zero => exact .one hn
      | succ j =>
        have hj : j < rest.length := by simpa using hi
        have hm : rest[j] ∈ out := (h2 _).1 (List.getElem_mem hj)
        exact .more (h.re _ hm) hn
    · exact h.re z hz
  · have hk2 : k < (root :: rest).length := by omega
    rw [List.getElem_append_left hk2] at hz
    exact (mem_put _ _ _ _).2 (.inr (h.cl k hk2 hki z hz))
  · rcases List.mem_append.1 hz with hz | hz
    · exact (mem_put _ _ _ _).2 (.inr (h.dn z hz))
    · exact (mem_put _ _ _ _).2 (.inl (List.mem_singleton.1 hz))
theorem Bf.next {le : α → α → Bool} {next : α → List α} {root : α} {out todo : List α} {i : Nat} {done : List α} (h : Bf le next root out todo i done) (hi : i < todo.length) (hd : done = next (todo[i]'hi)) : Bf le next root out todo (i + 1) [] := by
  refine ⟨h.asc, h.hd, h.re, fun k hk hki y hy => ?_, fun _ h => by cases h⟩
  by_cases e : k = i
  · subst e
    exact h.dn y (by rw [hd]; exact hy)
  · exact h.cl k hk (by omega) y hy
/-- So many names at the most. -/
theorem nodup_le [DecidableEq α] : ∀ (l U : List α), l.Nodup → (∀ y ∈ l, y ∈ U) → l.length ≤ U.length
  | [], _, _, _ => Nat.zero_le _
  | a :: l, U, h, hs => by
    obtain ⟨h1, h2⟩ := List.nodup_cons.1 h
    have hm := hs a (by simp)
    have := nodup_le l (U.erase a) h2 fun y hy => (List.mem_erase_of_ne (fun e => h1 (by rw [← e]; exact hy))).2 (hs y (by simp [hy]))
    rw [List.length_erase_of_mem hm] at this
    have := List.length_pos_of_mem hm
    simp only [List.length_cons]
    omega
theorem Bf.len [DecidableEq α] {le : α → α → Bool} {next : α → List α} {root : α} {out todo : List α} {i : Nat} {done : List α} (h : Bf le next root out todo i done) (U : List α) (hU : ∀ x, ∀ y ∈ next x, y ∈ U) : todo.length ≤ U.length + 1 := by
  obtain ⟨rest, rfl, h1, h2⟩ := h.hd
  have := nodup_le rest U h1 fun y hy => by
    have hr := h.re y ((h2 y).1 hy)
    cases hr with
    | one h => exact hU _ _ h
    | more _ h => exact hU _ _ h
  simp only [List.length_cons]
  omega
/-- Reaching does not depend on how the steps are listed. -/
theorem Reach.same {next next' : α → List α} (h : ∀ x y, y ∈ next x ↔ y ∈ next' x) {x y : α} (k : Reach next x y) : Reach next' x y := by
  induction k with
  | one h1 => exact .one ((h _ _).1 h1)
  | more _ h1 ih => exact .more ih ((h _ _).1 h1)
end
end Go.Proofs.YtcilkcnddgacgaaGreatDoor
/-
  Depths found in rounds: mathematics of how deep structs are. What leads to nothing of its own has a rank, and rounds as many as the greatest rank find the one solution.
-/
namespace Go.Proofs.YtcilkcnddgacgaaGreatDoor
section
variable {α : Type}
/-- Every step goes down in rank. -/
def Down (next : α → List α) (rk : α → Nat) : Prop := ∀ x, ∀ y ∈ next x, rk y < rk x
/-- A value that looks only at where the name leads in one step. -/
def Near (next : α → List α) (F : (α → Nat) → α → Nat) : Prop := ∀ d d' x, (∀ y ∈ next x, d y = d' y) → F d x = F d' x
/-- So many rounds of a value, from nothing. -/
def gd (F : (α → Nat) → α → Nat) : Nat → α → Nat
  | 0, _ => 0
  | t + 1, x => F (gd F t) x
theorem gd_stays {next : α → List α} {rk : α → Nat} {F : (α → Nat) → α → Nat} (hd : Down next rk) (hF : Near next F) : ∀ (t : Nat) (x : α), rk x < t → gd F t x = gd F (t + 1) x
  | 0, _, h => absurd h (Nat.not_lt_zero _)
  | t + 1, x, h => hF _ _ _ fun y hy => gd_stays hd hF t y (by have := hd x y hy; omega)
/-- A solution there is. -/
theorem gd_fix {next : α → List α} {rk : α → Nat} {F : (α → Nat) → α → Nat} (hd : Down next rk) (hF : Near next F) {n : Nat} (hn : ∀ x, rk x < n) (x : α) : gd F n x = F (gd F n) x :=
  gd_stays hd hF n x (hn x)
/-- A row of values found so far: those of a rank under m are right, and of the rank m those before number i. -/
structure Rd (rk : Nat → Nat) (G : Nat → Nat) (m : Nat) (d : List Nat) (i : Nat) : Prop where
  lo : ∀ k, k < d.length → rk k < m → d.getD k 0 = G k
  at_ : ∀ k, k < d.length → k < i → rk k ≤ m → d.getD k 0 = G k
theorem Rd.start (rk G : Nat → Nat) (d : List Nat) : Rd rk G 0 d 0 := ⟨fun _ _ h => absurd h (Nat.not_lt_zero _), fun _ _ h => absurd h (Nat.not_lt_zero _)⟩
theorem Rd.step {next : Nat → List Nat} {rk G : Nat → Nat} {F : (Nat → Nat) → Nat → Nat} (hd : Down next rk) (hF : Near next F) (hG : ∀ k, G k = F G k) {m : Nat} {d : List Nat} {i : Nat} (hi : i < d.length) (hb : ∀ y ∈ next i, y < d.length) (h : Rd rk G m d i) : Rd rk G m (d.set i (F (fun k => d.getD k 0) i)) (i + 1) := by
  have hv : rk i ≤ m → F (fun k => d.getD k 0) i = G i := fun hr => by
    rw [hG i]
    exact hF _ _ _ fun y hy => h.lo y (hb y hy) (Nat.lt_of_lt_of_le (hd i y hy) hr)
  have hs : ∀ k, (d.set i (F (fun k => d.getD k 0) i)).getD k 0 = if k = i then F (fun k => d.getD k 0) i else d.getD k 0 := fun k => by
    rw [List.getD_eq_getElem?_getD, List.getElem?_set]
    by_cases e : i = k
    · subst e; simp [hi]
    · simp [e, Ne.symm e]
  refine ⟨fun k hk hr => ?_, fun k hk hki hr => ?_⟩
  · rw [hs]
    split
    · rename_i e; subst e; exact hv (Nat.le_of_lt hr)
    · exact h.lo k (by simpa using hk) hr
  · rw [hs]
    split
    · rename_i e; subst e; exact hv hr
    · exact h.at_ k (by simpa using hk) (by omega) hr
theorem Rd.next {rk G : Nat → Nat} {m : Nat} {d : List Nat} (h : Rd rk G m d d.length) : Rd rk G (m + 1) d 0 :=
  ⟨fun k hk hr => h.at_ k hk hk (by omega), fun _ _ h => absurd h (Nat.not_lt_zero _)⟩
/-- The greatest of so many values and one more. -/
theorem foldl_max_le (l : List Nat) : ∀ (a b : Nat), l.foldl max a ≤ b ↔ a ≤ b ∧ ∀ x ∈ l, x ≤ b := by
  induction l with
  | nil => simp
  | cons y r ih =>
    intro a b
    rw [List.foldl_cons, ih, List.forall_mem_cons, Nat.max_le, and_assoc]
end
end Go.Proofs.YtcilkcnddgacgaaGreatDoor
/-
  What a scan of a text gives, by lists of bytes. No conditions.
-/
namespace Go.Proofs.YtcilkcnddgacgaaGreatDoor
def isL (c : UInt8) : Bool := (decide (97 ≤ c.toNat) && decide (c.toNat ≤ 122)) || (decide (65 ≤ c.toNat) && decide (c.toNat ≤ 90))
def isD (c : UInt8) : Bool := decide (48 ≤ c.toNat) && decide (c.toNat ≤ 57)
def isW (c : UInt8) : Bool := isL c || isD c || c == 95
def marks : List UInt8 := [123, 125, 40, 41, 91, 93, 58, 59, 44, 61, 46, 63, 33, 38, 124, 64]
def isM (c : UInt8) : Bool := marks.contains c
def isS (c : UInt8) : Bool := c == 32 || c == 9 || c == 10
/-- What is left behind white space and remarks; rm: inside a remark. -/
def sk : Bool → List UInt8 → List UInt8
  | _, [] => []
  | rm, c :: r => if ((rm && c != 10) || c == 35) || isS c then sk ((rm && c != 10) || c == 35) r else c :: r
/-- A token. -/
structure Tk where
  kind : Nat
  text : List UInt8
  num : Int
  at_ : Nat
deriving DecidableEq
def dval (l : List UInt8) : Nat := l.foldl (fun n c => 10 * n + (c.toNat - 48)) 0
/-- The number of digits behind an optional minus sign; 1: out of range, 2: no number. -/
def numOf (neg : Bool) (ds : List UInt8) : Except Nat Int :=
  if ds.length = 0 ∨ (1 < ds.length ∧ ds.head? = some 48) ∨ (neg = true ∧ ds.head? = some 48) then .error 2
  else if (if neg then 9223372036854775808 else 9223372036854775807) < dval ds then .error 1
  else .ok (if neg then -(dval ds : Int) else (dval ds : Int))
/-- A string's content, and the place behind it; i: the place, out: the content so far. -/
def qs (l : List UInt8) (i : Nat) (out : List UInt8) : Except Nat (List UInt8 × Nat) :=
  match l with
  | [] => .error i
  | c :: r =>
    if c = 34 then .ok (out, i + 1)
    else if c.toNat < 32 ∨ 126 < c.toNat then .error i
    else if c = 92 then
      match r with
      | [] => .error i
      | d :: r => if d = 34 ∨ d = 92 then qs r (i + 2) (out ++ [d]) else .error i
    else qs r (i + 1) (out ++ [c])
termination_by l.length
decreasing_by all_goals (simp only [List.length_cons]; omega)
/-- The token that begins with c, and its length; an error with its place. -/
def tok (c : UInt8) (r : List UInt8) : Except (Nat × Nat) (Nat × List UInt8 × Int × Nat) :=
  if isL c then
    if 16 < ((c :: r).takeWhile isW).length then .error (3, 0)
    else if ((c :: r).drop ((c :: r).takeWhile isW).length).head? = some 45 then .error (2, ((c :: r).takeWhile isW).length)
    else .ok (1, (c :: r).takeWhile isW, 0, ((c :: r).takeWhile isW).length)
  else if isD c || c == 45 then
    match numOf (c == 45) ((if c == 45 then r else c :: r).takeWhile isD) with
    | .error e => .error (if e = 1 then 4 else 2, 0)
    | .ok n =>
      if ((c :: r).drop ((c == 45).toNat + ((if c == 45 then r else c :: r).takeWhile isD).length)).head?.any (fun d => isW d || d == 45) then
        .error (2, (c == 45).toNat + ((if c == 45 then r else c :: r).takeWhile isD).length)
      else .ok (2, [], n, (c == 45).toNat + ((if c == 45 then r else c :: r).takeWhile isD).length)
  else if c = 34 then
    match qs r 1 [] with
    | .error i => .error (2, i)
    | .ok (t, k) => if 200 < t.length then .error (3, 0) else .ok (3, t, 0, k)
  else if isM c then .ok (4, [c], 0, 1)
  else .error (2, 0)
theorem sk_length (rm : Bool) (l : List UInt8) : (sk rm l).length ≤ l.length := by
  induction l generalizing rm with
  | nil => simp [sk]
  | cons c r ih =>
    unfold sk
    split
    · have := ih ((rm && c != 10) || c == 35)
      simp only [List.length_cons]
      omega
    · exact Nat.le_refl _
/-- The tokens of what stands at place p, behind white space. -/
def sc (l : List UInt8) (p : Nat) : Except (Nat × Nat) (List Tk) :=
  match l with
  | [] => .ok [⟨0, [], 0, p⟩]
  | c :: r =>
    match tok c r with
    | .error (e, o) => .error (e, p + o)
    | .ok (kd, t, n, k) =>
      match sc (sk false (r.drop (k - 1))) (p + (r.length + 1 - (sk false (r.drop (k - 1))).length)) with
      | .error x => .error x
      | .ok ts => .ok (⟨kd, t, n, p⟩ :: ts)
termination_by l.length
decreasing_by
  have := sk_length false (r.drop (k - 1))
  simp only [List.length_drop, List.length_cons] at *
  omega
/-- The tokens of a text. -/
def scan (l : List UInt8) : Except (Nat × Nat) (List Tk) :=
  if 4000 < l.length then .error (3, 0) else sc (sk false l) (l.length - (sk false l).length)
/-- A name. -/
def isN (l : List UInt8) : Bool := decide (1 ≤ l.length) && decide (l.length ≤ 16) && (l.head?.any isL) && l.all isW
/-- A token that a scan can give, other than the end. -/
def okT (t : Tk) : Bool :=
  if t.kind = 1 then isN t.text && t.num == 0
  else if t.kind = 2 then t.text == []
  else if t.kind = 3 then (t.text.all fun c => decide (32 ≤ c.toNat) && decide (c.toNat ≤ 126)) && decide (t.text.length ≤ 200) && t.num == 0
  else if t.kind = 4 then (match t.text with | [c] => isM c | _ => false) && t.num == 0
  else false
/-- Digits. -/
def dg (n : Nat) : List UInt8 := if n < 10 then [UInt8.ofNat (48 + n)] else dg (n / 10) ++ [UInt8.ofNat (48 + n % 10)]
termination_by n
decreasing_by omega
def dec (n : Int) : List UInt8 := if n < 0 then 45 :: dg n.natAbs else dg n.natAbs
def esc : List UInt8 → List UInt8
  | [] => []
  | c :: r => if c = 34 ∨ c = 92 then 92 :: c :: esc r else c :: esc r
def quo (l : List UInt8) : List UInt8 := 34 :: (esc l ++ [34])
/-- A token as printed. -/
def pr (t : Tk) : List UInt8 := if t.kind = 2 then dec t.num else if t.kind = 3 then quo t.text else t.text
end Go.Proofs.YtcilkcnddgacgaaGreatDoor


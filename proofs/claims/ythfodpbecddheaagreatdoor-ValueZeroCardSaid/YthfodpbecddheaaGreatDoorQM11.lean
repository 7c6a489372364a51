/-
  The developers' With, of any value. No conditions beyond those that each names.
-/
import Derived.Test.YthfodpbecddheaaGreatDoorQM10
import Derived.Test.YthfodpbecddheaaGreatDoorQM07
import Derived.Test.YthfodpbecddheaaGreatDoorQM02
import Derived.Test.YthfodpbecddheaaGreatDoorQM01
namespace Go.Proofs.YthfodpbecddheaaGreatDoor
open Go.RowKit Go.Shelf Go.Sort
theorem encE_one (x : Int × Vl) (s : Sb) : ∀ u ∈ encE x s, u.oneCell' = true := fun u hu => by
  simp only [encE, List.mem_cons, List.not_mem_nil, or_false] at hu
  rcases hu with rfl | rfl | rfl | rfl | rfl | rfl <;> rfl
theorem IL.one {P : Nat → Int × Vl → Sb → Prop} {l : List (Int × Vl)} {xs : List Value} (h : IL 6 encE P l xs) : ∀ u ∈ xs, u.oneCell' = true := fun u hu => by
  obtain ⟨q, hq, rfl⟩ := List.getElem_of_mem hu
  have h1 := h.1
  have hj : q / 6 < l.length := by omega
  obtain ⟨b, hb, -⟩ := h.2 _ hj
  have h2 := hb (q % 6) (Nat.mod_lt _ (by decide))
  rw [show q / 6 * 6 + q % 6 = q by omega, List.getElem?_eq_getElem hq] at h2
  exact encE_one _ b _ (List.mem_of_getElem? h2.symm)
theorem Bx.gbo {w w' : World} {b : Nat} {vs : List Value} {q : Option Nat} (h : Bx w b vs) (hg : w.grownBy w' q) (hn : ∀ g, q = some g → b ≠ g) : Bx w' b vs := by
  cases q with
  | none => exact h.next (below_of_gb hg)
  | some g => exact h.gb hg (hn g rfl)
end Go.Proofs.YthfodpbecddheaaGreatDoor
/-
  The developers' Without, of any value. No conditions beyond those that each names.
-/
namespace Go.Proofs.YthfodpbecddheaaGreatDoor
open Go.RowKit Go.Shelf Go.Sort
end Go.Proofs.YthfodpbecddheaaGreatDoor
/-
  The reference's Without, of any value. No conditions beyond those that each names.
-/
namespace Go.Proofs.YthfodpbecddheaaGreatDoor
open Go.RowKit Go.Sort
/-- A slice of one new element. -/
def FNb (cells : List Value) (W0 : World) : Fact := ⟨fun v w' => ∃ g, v = .slice (some ⟨g, 0, none⟩) 1 1 ∧ Bx w' g cells ∧ W0.heap.size ≤ g ∧ Below W0.heap.size W0 w', fun _ _ _ ⟨g, h1, h2, h3, h4⟩ hb => ⟨g, h1, h2.next hb, h3, upG h4 hb⟩⟩
theorem own_slice2 {w : World} {B : Nat} {e : TypeId} {z n : Nat} {v : Value} {xs : List Value} (h : w.ownsRow B e z v n xs) : ∃ A k c, v = .slice A k c := by
  rcases h.2 with ⟨h1, -⟩ | ⟨g, cap, cur, h1, -⟩
  · exact ⟨_, _, _, h1⟩
  · exact ⟨_, _, _, h1⟩
end Go.Proofs.YthfodpbecddheaaGreatDoor
/-
  Which schemas are valid, and with which error others are not: mathematics. No conditions beyond those that each names.
-/
namespace Go.Proofs.YthfodpbecddheaaGreatDoor
/-- The first error of so many. -/
def fe (f : Nat → Nat) (n : Nat) : Nat := (((List.range n).map f).find? (fun x => decide (x ≠ 0))).getD 0
theorem fe_zero {f : Nat → Nat} {n : Nat} (h : ∀ j, j < n → f j = 0) : fe f n = 0 := by
  unfold fe
  rw [List.find?_eq_none.2]
  · rfl
  · intro x hx
    obtain ⟨j, hj, rfl⟩ := List.mem_map.1 hx
    rw [h j (List.mem_range.1 hj)]
    simp
theorem fe_succ (f : Nat → Nat) (n : Nat) : fe f (n + 1) = if fe f n = 0 then f n else fe f n := by
  unfold fe
  rw [List.range_succ, List.map_append, List.find?_append]
  cases h : List.find? (fun x => decide (x ≠ 0)) (List.map f (List.range n)) with
  | none =>
    by_cases h0 : f n = 0
    · simp [h0]
    · simp [h0]
  | some x =>
    have hx := List.find?_some h
    have hx : x ≠ 0 := by simpa using hx
    simp [hx]
theorem fe_le {f : Nat → Nat} {k : Nat} : ∀ {n : Nat}, k ≤ n → fe f k ≠ 0 → fe f n = fe f k := by
  intro n
  induction n with
  | zero => intro hk h; rw [Nat.le_zero.1 hk]
  | succ n ih =>
    intro hk h
    rcases Nat.lt_or_ge k (n + 1) with h1 | h1
    · rw [fe_succ, ih (by omega) h, if_neg h]
    · rw [show k = n + 1 by omega]
theorem fe_at {f : Nat → Nat} {n k e : Nat} (hk : k < n) (h : ∀ j, j < k → f j = 0) (he : f k = e) (h0 : e ≠ 0) : fe f n = e := by
  have h1 : fe f (k + 1) = e := by rw [fe_succ, fe_zero h, if_pos rfl, he]
  rw [fe_le (k := k + 1) (by omega) (by rw [h1]; exact h0), h1]
theorem fe_iff {f : Nat → Nat} {n : Nat} : fe f n = 0 ↔ ∀ j, j < n → f j = 0 := by
  refine ⟨fun h j hj => ?_, fe_zero⟩
  have key : ∀ n, fe f n = 0 → ∀ j, j < n → f j = 0 := by
    intro n
    induction n with
    | zero => intro _ j hj; omega
    | succ n ih =>
      intro h j hj
      rw [fe_succ] at h
      by_cases h0 : fe f n = 0
      · rw [if_pos h0] at h
        rcases Nat.lt_or_ge j n with h1 | h1
        · exact ih h0 j h1
        · rw [show j = n by omega]; exact h
      · rw [if_neg h0] at h
        exact absurd h h0
  exact key n h j hj
theorem before_succ {p : Nat → Prop} {k : Nat} (h : ∀ j, j < k → p j) (hk : p k) : ∀ j, j < k + 1 → p j := fun j hj => by
  by_cases e : j < k
  · exact h j e
  · rw [show j = k by omega]; exact hk
/-- A type's name. -/
def isTn (l : List UInt8) : Bool := isN l && match l with | c :: _ => decide (65 ≤ c.toNat) && decide (c.toNat ≤ 90) | [] => false
theorem isTn_isN {l : List UInt8} (h : isTn l = true) : isN l = true := by unfold isTn at h; simp at h; exact h.1
theorem isN_ne {l : List UInt8} (h : isN l = true) : l ≠ [] := by intro e; subst e; cases h
theorem isN_lenS {l : List UInt8} (h : isN l = true) : l.length ≤ 16 := by unfold isN at h; simp at h; exact h.1.1.2
def ens (S : Sch) : List (List UInt8) := S.enums.map En.name
def sns (S : Sch) : List (List UInt8) := S.structs.map St.name
/-- Sizes of kinds. -/
def szOk (k s : Int) : Bool :=
  if k = 1 then decide (s = 0) else if k = 2 then (decide (s = 8) || decide (s = 16) || decide (s = 32) || decide (s = 64)) else if k = 3 then (decide (s = 8) || decide (s = 16) || decide (s = 32)) else
    if k = 4 then (decide (1 ≤ s) && decide (s ≤ 2000)) else if k = 5 then (decide (1 ≤ s) && decide (s ≤ 32)) else if k = 6 then decide (s = 0) else if k = 7 then decide (s = 0) else false
mutual
/-- A valid type. -/
def right (S : Sch) : Ty → Bool
  | .mk k s n e => szOk k s && (if k = 5 then decide (n = []) && rights S e else if k = 6 then (sns S).contains n && decide (e.length = 0) else if k = 7 then (ens S).contains n && decide (e.length = 0) else decide (n = []) && decide (e.length = 0))
def rights (S : Sch) : List Ty → Bool
  | [] => false
  | t :: ts => right S t && decide (ts.length = 0)
end
/-- The names that a type refers to. -/
def dir : Ty → List (List UInt8)
  | .mk k _ n e => if k = 6 ∨ k = 7 then [n] else dirs e
where dirs : List Ty → List (List UInt8)
  | [] => []
  | t :: ts => dir t ++ dirs ts
/-- The type within all lists, and how many lists. -/
def inn : Ty → Ty
  | .mk k s n e => if k = 5 then (match e with | [] => .mk k s n e | t :: _ => inn t) else .mk k s n e
def lst : Ty → Nat
  | .mk k _ _ e => if k = 5 then (match e with | [] => 0 | t :: _ => 1 + lst t) else 0
theorem right_eq (S : Sch) (k s : Int) (n : List UInt8) (e : List Ty) : right S (.mk k s n e) = (szOk k s && (if k = 5 then decide (n = []) && rights S e else if k = 6 then (sns S).contains n && decide (e.length = 0) else if k = 7 then (ens S).contains n && decide (e.length = 0) else decide (n = []) && decide (e.length = 0))) := by rw [right]
theorem right_list {S : Sch} {s : Int} {n : List UInt8} {e : List Ty} (h : right S (.mk 5 s n e) = true) : n = [] ∧ ∃ t, e = [t] ∧ right S t = true := by
  rw [right_eq, if_pos rfl] at h
  simp only [Bool.and_eq_true, decide_eq_true_eq] at h
  obtain ⟨-, h1, h2⟩ := h
  match e, h2 with
  | [], h2 => rw [rights] at h2; cases h2
  | t :: ts, h2 =>
    rw [rights] at h2
    simp only [Bool.and_eq_true, decide_eq_true_eq] at h2
    exact ⟨h1, t, by rw [List.eq_nil_of_length_eq_zero h2.2], h2.1⟩
theorem inn_list (s : Int) (n : List UInt8) (t : Ty) (ts : List Ty) : inn (.mk 5 s n (t :: ts)) = inn t := by rw [inn, if_pos rfl]
theorem inn_not {k : Int} (s : Int) (n : List UInt8) (e : List Ty) (h : k ≠ 5) : inn (.mk k s n e) = .mk k s n e := by cases e <;> simp [inn, h]
theorem lst_list (s : Int) (n : List UInt8) (t : Ty) (ts : List Ty) : lst (.mk 5 s n (t :: ts)) = 1 + lst t := by rw [lst, if_pos rfl]
theorem lst_not {k : Int} (s : Int) (n : List UInt8) (e : List Ty) (h : k ≠ 5) : lst (.mk k s n e) = 0 := by cases e <;> simp [lst, h]
theorem dir_pos {k : Int} (s : Int) (n : List UInt8) (e : List Ty) (h : k = 6 ∨ k = 7) : dir (.mk k s n e) = [n] := by rw [dir, if_pos h]
theorem dir_neg {k : Int} (s : Int) (n : List UInt8) (e : List Ty) (h : ¬ (k = 6 ∨ k = 7)) : dir (.mk k s n e) = dir.dirs e := by rw [dir, if_neg h]
/-- What a valid type refers to is told by the type within all lists. -/
theorem right_dir {S : Sch} : ∀ (t : Ty), right S t = true → (dir t = [(inn t).name] ∧ ((inn t).kind = 6 ∧ (inn t).name ∈ sns S ∨ (inn t).kind = 7 ∧ (inn t).name ∈ ens S)) ∨ (dir t = [] ∧ (inn t).name = [] ∧ (inn t).kind ≠ 6 ∧ (inn t).kind ≠ 7)
  | .mk k s n e, h => by
    by_cases h5 : k = 5
    · subst h5
      obtain ⟨rfl, t, rfl, ht⟩ := right_list h
      have := right_dir t ht
      rw [inn_list, dir_neg _ _ _ (by decide), dir.dirs, dir.dirs, List.append_nil]
      exact this
    · rw [inn_not _ _ _ h5]
      rw [right_eq, if_neg h5] at h
      simp only [Bool.and_eq_true] at h
      obtain ⟨-, h⟩ := h
      by_cases h6 : k = 6
      · rw [if_pos h6] at h
        simp only [Bool.and_eq_true, List.contains_iff_mem] at h
        exact .inl ⟨dir_pos _ _ _ (.inl h6), .inl ⟨h6, h.1⟩⟩
      · rw [if_neg h6] at h
        by_cases h7 : k = 7
        · rw [if_pos h7] at h
          simp only [Bool.and_eq_true, List.contains_iff_mem] at h
          exact .inl ⟨dir_pos _ _ _ (.inr h7), .inr ⟨h7, h.1⟩⟩
        · rw [if_neg h7] at h
          simp only [Bool.and_eq_true, decide_eq_true_eq] at h
          obtain ⟨rfl, he⟩ := h
          obtain rfl := List.eq_nil_of_length_eq_zero he
          exact .inr ⟨by rw [dir_neg _ _ _ (by rintro (h | h); exact h6 h; exact h7 h), dir.dirs], rfl, h6, h7⟩
/-- An enumeration's name number k, and its number. -/
def nmErr (x : En) (k : Nat) : Nat :=
  if isN (x.names.getD k []) = false then 5 else if (x.names.take k).contains (x.names.getD k []) = true then 7 else if x.nums.getD k 0 < 0 ∨ 127 < x.nums.getD k 0 then 4 else
    if (k = 0 ∧ x.nums.getD k 0 ≠ 0) ∨ (0 < k ∧ x.nums.getD k 0 ≤ x.nums.getD (k - 1) 0) then 2 else 0
def enErr (pre : List (List UInt8)) (x : En) : Nat :=
  if isTn x.name = false then 5 else if pre.contains x.name = true then 7 else if x.names.length = 0 ∨ x.nums.length ≠ x.names.length then 2 else fe (nmErr x) x.names.length
def fdErr (S : Sch) (t : St) (k : Nat) : Nat :=
  if (t.fields.getD k fd0).num < 1 ∨ 127 < (t.fields.getD k fd0).num then 4 else if 0 < k ∧ (t.fields.getD k fd0).num ≤ (t.fields.getD (k - 1) fd0).num then 2 else if isN (t.fields.getD k fd0).name = false then 5 else
    if ((t.fields.take k).map Fd.name).contains (t.fields.getD k fd0).name = true then 7 else if right S (t.fields.getD k fd0).type = false then 13 else 0
def stErr (S : Sch) (pre : List (List UInt8)) (t : St) : Nat :=
  if isTn t.name = false then 5 else if pre.contains t.name = true then 7 else fe (fdErr S t) t.fields.length
def enE (S : Sch) (i : Nat) : Nat := enErr ((ens S).take i) (S.enums.getD i en0)
def stE (S : Sch) (i : Nat) : Nat := stErr S (ens S ++ (sns S).take i) (S.structs.getD i st0)
def longS (S : Sch) : Prop := 16 < S.enums.length + S.structs.length ∨ (∃ x ∈ S.enums, 16 < x.names.length) ∨ ∃ t ∈ S.structs, 16 < t.fields.length
/-- The names that a struct refers to. -/
def nxs (t : St) : List (List UInt8) := t.fields.flatMap fun f => dir f.type
def nx (S : Sch) (x : List UInt8) : List (List UInt8) := nxs ((fst_ St.name S.structs x).getD st0)
/-- The depth of a type, given those of the structs. -/
def td (S : Sch) (d : List UInt8 → Nat) : Ty → Nat
  | .mk k _ n e => if k = 5 then (match e with | [] => 0 | t :: _ => 1 + td S d t) else if k = 6 then (if n ∈ sns S then d n else 0) else 0
def fdep (S : Sch) (d : List UInt8 → Nat) (t : St) : Nat := 1 + (t.fields.map fun f => td S d f.type).foldl max 0
def dF (S : Sch) (d : List UInt8 → Nat) (x : List UInt8) : Nat := fdep S d ((fst_ St.name S.structs x).getD st0)
def dep (S : Sch) (x : List UInt8) : Nat := gd (dF S) (S.structs.length + 1) x
def cyc (S : Sch) : Prop := ∃ t ∈ S.structs, Reach (nx S) t.name t.name
def deep (S : Sch) : Prop := ∃ t ∈ S.structs, 6 < dep S t.name
open Classical in
/-- The first error of a schema. -/
noncomputable def chk (S : Sch) : Nat :=
  if S.ver < 1 ∨ 999 < S.ver then 4 else if longS S then 3 else if fe (enE S) S.enums.length ≠ 0 then fe (enE S) S.enums.length else if fe (stE S) S.structs.length ≠ 0 then fe (stE S) S.structs.length else if cyc S then 19 else if deep S then 9 else 0
/-- Valid in all its parts. -/
structure Parts (S : Sch) : Prop where
  en : ∀ i, i < S.enums.length → enE S i = 0
  st : ∀ i, i < S.structs.length → stE S i = 0
theorem nmErr_cases (x : En) (k : Nat) : (isN (x.names.getD k []) = false ∧ nmErr x k = 5) ∨ (isN (x.names.getD k []) = true ∧ (x.names.take k).contains (x.names.getD k []) = true ∧ nmErr x k = 7) ∨
    (isN (x.names.getD k []) = true ∧ (x.names.take k).contains (x.names.getD k []) = false ∧ (x.nums.getD k 0 < 0 ∨ 127 < x.nums.getD k 0) ∧ nmErr x k = 4) ∨
    (isN (x.names.getD k []) = true ∧ (x.names.take k).contains (x.names.getD k []) = false ∧ 0 ≤ x.nums.getD k 0 ∧ x.nums.getD k 0 ≤ 127 ∧ ((k = 0 ∧ x.nums.getD k 0 ≠ 0) ∨ (0 < k ∧ x.nums.getD k 0 ≤ x.nums.getD (k - 1) 0)) ∧ nmErr x k = 2) ∨
    (isN (x.names.getD k []) = true ∧ (x.names.take k).contains (x.names.getD k []) = false ∧ 0 ≤ x.nums.getD k 0 ∧ x.nums.getD k 0 ≤ 127 ∧ (k = 0 → x.nums.getD k 0 = 0) ∧ (0 < k → x.nums.getD (k - 1) 0 < x.nums.getD k 0) ∧ nmErr x k = 0) := by
  unfold nmErr
  by_cases h1 : isN (x.names.getD k []) = false
  · exact .inl ⟨h1, by rw [if_pos h1]⟩
  · have h1' : isN (x.names.getD k []) = true := by simpa using h1
    rw [if_neg h1]
    refine .inr ?_
    by_cases h2 : (x.names.take k).contains (x.names.getD k []) = true
    · exact .inl ⟨h1', h2, by rw [if_pos h2]⟩
    · rw [if_neg h2]
      have h2' : (x.names.take k).contains (x.names.getD k []) = false := by rw [Bool.not_eq_true] at h2; exact h2
      refine .inr ?_
      by_cases h3 : x.nums.getD k 0 < 0 ∨ 127 < x.nums.getD k 0
      · exact .inl ⟨h1', h2', h3, by rw [if_pos h3]⟩
      · rw [if_neg h3]
        refine .inr ?_
        by_cases h4 : (k = 0 ∧ x.nums.getD k 0 ≠ 0) ∨ (0 < k ∧ x.nums.getD k 0 ≤ x.nums.getD (k - 1) 0)
        · exact .inl ⟨h1', h2', by omega, by omega, h4, by rw [if_pos h4]⟩
        · exact .inr ⟨h1', h2', by omega, by omega, fun h => by omega, fun h => by omega, by rw [if_neg h4]⟩
theorem fdErr_cases (S : Sch) (t : St) (k : Nat) : (((t.fields.getD k fd0).num < 1 ∨ 127 < (t.fields.getD k fd0).num) ∧ fdErr S t k = 4) ∨ (1 ≤ (t.fields.getD k fd0).num ∧ (t.fields.getD k fd0).num ≤ 127 ∧ (0 < k ∧ (t.fields.getD k fd0).num ≤ (t.fields.getD (k - 1) fd0).num) ∧ fdErr S t k = 2) ∨
    (1 ≤ (t.fields.getD k fd0).num ∧ (t.fields.getD k fd0).num ≤ 127 ∧ (0 < k → (t.fields.getD (k - 1) fd0).num < (t.fields.getD k fd0).num) ∧ isN (t.fields.getD k fd0).name = false ∧ fdErr S t k = 5) ∨
    (1 ≤ (t.fields.getD k fd0).num ∧ (t.fields.getD k fd0).num ≤ 127 ∧ (0 < k → (t.fields.getD (k - 1) fd0).num < (t.fields.getD k fd0).num) ∧ isN (t.fields.getD k fd0).name = true ∧ ((t.fields.take k).map Fd.name).contains (t.fields.getD k fd0).name = true ∧ fdErr S t k = 7) ∨
    (1 ≤ (t.fields.getD k fd0).num ∧ (t.fields.getD k fd0).num ≤ 127 ∧ (0 < k → (t.fields.getD (k - 1) fd0).num < (t.fields.getD k fd0).num) ∧ isN (t.fields.getD k fd0).name = true ∧ ((t.fields.take k).map Fd.name).contains (t.fields.getD k fd0).name = false ∧ right S (t.fields.getD k fd0).type = false ∧ fdErr S t k = 13) ∨
    (1 ≤ (t.fields.getD k fd0).num ∧ (t.fields.getD k fd0).num ≤ 127 ∧ (0 < k → (t.fields.getD (k - 1) fd0).num < (t.fields.getD k fd0).num) ∧ isN (t.fields.getD k fd0).name = true ∧ ((t.fields.take k).map Fd.name).contains (t.fields.getD k fd0).name = false ∧ right S (t.fields.getD k fd0).type = true ∧ fdErr S t k = 0) := by
  unfold fdErr
  generalize t.fields.getD k fd0 = f
  by_cases h1 : f.num < 1 ∨ 127 < f.num
  · exact .inl ⟨h1, by rw [if_pos h1]⟩
  · rw [if_neg h1]
    refine .inr ?_
    by_cases h2 : 0 < k ∧ f.num ≤ (t.fields.getD (k - 1) fd0).num
    · exact .inl ⟨by omega, by omega, h2, by rw [if_pos h2]⟩
    · rw [if_neg h2]
      refine .inr ?_
      by_cases h3 : isN f.name = false
      · exact .inl ⟨by omega, by omega, fun h => by omega, h3, by rw [if_pos h3]⟩
      · rw [if_neg h3]
        have h3' : isN f.name = true := by simpa using h3
        refine .inr ?_
        by_cases h4 : ((t.fields.take k).map Fd.name).contains f.name = true
        · exact .inl ⟨by omega, by omega, fun h => by omega, h3', h4, by rw [if_pos h4]⟩
        · rw [if_neg h4]
          have h4' : ((t.fields.take k).map Fd.name).contains f.name = false := by rw [Bool.not_eq_true] at h4; exact h4
          refine .inr ?_
          by_cases h5 : right S f.type = false
          · exact .inl ⟨by omega, by omega, fun h => by omega, h3', h4', h5, by rw [if_pos h5]⟩
          · exact .inr ⟨by omega, by omega, fun h => by omega, h3', h4', by simpa using h5, by rw [if_neg h5]⟩
end Go.Proofs.YthfodpbecddheaaGreatDoor


/-
  What a visit that calls itself finds: mathematics of a search in depth. No conditions beyond those that each names.
-/
import Derived.Test.YtcilkcnddgacgaaGreatDoorQM01
import Derived.Test.YtcilkcnddgacgaaGreatDoorQM02
namespace Go.Proofs.YtcilkcnddgacgaaGreatDoor
section
variable {α : Type}
/-- A visit of x, of whose next names those in done were looked at: seen held old at its beginning, and holds now now. -/
structure Lp (next : α → List α) (old : List α) (x : α) (done now : List α) : Prop where
  sub : ∀ y ∈ old, y ∈ now
  dn : ∀ y ∈ done, y ∈ now
  new : ∀ y ∈ now, y ∉ old → Reach next x y ∧ ∀ z ∈ next y, z ∈ now
  nd : old.Nodup → now.Nodup
/-- A visit that has ended. -/
abbrev Vis (next : α → List α) (old : List α) (x : α) (now : List α) : Prop := Lp next old x (next x) now
theorem Lp.start (next : α → List α) (old : List α) (x : α) : Lp next old x [] old := ⟨fun _ h => h, fun _ h => (by cases h), fun _ h k => absurd h k, fun h => h⟩
/-- A name that was seen is passed over. -/
theorem Lp.old_ {next : α → List α} {old : List α} {x : α} {done now : List α} (h : Lp next old x done now) {y : α} (hy : y ∈ now) : Lp next old x (done ++ [y]) now :=
  ⟨h.sub, fun z hz => by
    rcases List.mem_append.1 hz with hz | hz
    · exact h.dn z hz
    · rw [List.mem_singleton.1 hz]; exact hy, h.new, h.nd⟩
/-- A name that was not seen is put behind the others and visited. -/
theorem Lp.new_ {next : α → List α} {old : List α} {x : α} {done now : List α} (h : Lp next old x done now) {y : α} (hn : y ∈ next x) (hy : y ∉ now) {now' : List α} (hv : Vis next (now ++ [y]) y now') : Lp next old x (done ++ [y]) now' := by
  have hs : ∀ z ∈ now, z ∈ now' := fun z hz => hv.sub z (List.mem_append_left _ hz)
  have hy' : y ∈ now' := hv.sub y (by simp)
  refine ⟨fun z hz => hs z (h.sub z hz), fun z hz => ?_, fun z hz hzo => ?_, fun ho => hv.nd ?_⟩
  · rcases List.mem_append.1 hz with hz | hz
    · exact hs z (h.dn z hz)
    · rw [List.mem_singleton.1 hz]; exact hy'
  · by_cases h1 : z ∈ now
    · exact ⟨(h.new z h1 hzo).1, fun u hu => hs u ((h.new z h1 hzo).2 u hu)⟩
    · by_cases h2 : z = y
      · subst h2
        exact ⟨.one hn, fun u hu => hv.dn u hu⟩
      · have h3 := hv.new z hz (by simp [h1, h2])
        exact ⟨(Reach.one hn).trans h3.1, h3.2⟩
  · rw [List.nodup_append]
    refine ⟨h.nd ho, by simp, fun a ha b hb e => ?_⟩
    rw [List.mem_singleton.1 hb] at e
    subst e
    exact hy ha
/-- From nothing seen: what the root leads to. -/
theorem Vis.root {next : α → List α} {x : α} {now : List α} (h : Vis next [] x now) : now.Nodup ∧ ∀ y, y ∈ now ↔ Reach next x y := by
  refine ⟨h.nd List.nodup_nil, fun y => ⟨fun hy => (h.new y hy (by simp)).1, fun hr => ?_⟩⟩
  induction hr with
  | one hy => exact h.dn _ hy
  | more _ hz ih => exact (h.new _ ih (by simp)).2 _ hz
/-- From the root alone seen: what the root leads to, and the root. -/
theorem Vis.self {next : α → List α} {x : α} {now : List α} (h : Vis next [x] x now) : now.Nodup ∧ x ∈ now ∧ ∀ y, y ≠ x → (y ∈ now ↔ Reach next x y) := by
  have hk : ∀ y, Reach next x y → y ∈ now := fun y hr => by
    induction hr with
    | one hy => exact h.dn _ hy
    | @more y z _ hz ih =>
      by_cases e : y = x
      · subst e; exact h.dn _ hz
      · exact (h.new y ih (by simp [e])).2 _ hz
  exact ⟨h.nd (by simp), h.sub x (by simp), fun y hy => ⟨fun hm => (h.new y hm (by simp [hy])).1, hk y⟩⟩
/-- What leads to itself does so through a name of its own next ones. -/
theorem Reach.first {next : α → List α} {x y : α} (h : Reach next x y) : y ∈ next x ∨ ∃ z ∈ next x, Reach next z y := by
  induction h with
  | one h => exact .inl h
  | more _ hz ih =>
    rcases ih with h | ⟨u, hu, hr⟩
    · exact .inr ⟨_, h, .one hz⟩
    · exact .inr ⟨u, hu, .more hr hz⟩
/-- With a rank, nothing leads to itself. -/
theorem Reach.down {next : α → List α} {rk : α → Nat} (hd : ∀ x, ∀ y ∈ next x, rk y < rk x) {x y : α} (h : Reach next x y) : rk y < rk x := by
  induction h with
  | one h => exact hd _ _ h
  | more _ hz ih => exact Nat.lt_trans (hd _ _ hz) ih
end
end Go.Proofs.YtcilkcnddgacgaaGreatDoor
/-
  The developers' kinds of characters, by bytes; what skipping white space and remarks comes to. No conditions.
-/
namespace Go.Proofs.YtcilkcnddgacgaaGreatDoor
/-- The kind of a character. -/
def kd (n : Nat) : Nat :=
  if n = 32 ∨ n = 9 ∨ n = 10 then 1 else if n = 95 then 4 else if n = 45 then 5 else if n = 34 then 6 else if n = 35 then 7
  else if n = 123 ∨ n = 125 ∨ n = 40 ∨ n = 41 ∨ n = 91 ∨ n = 93 ∨ n = 58 ∨ n = 59 ∨ n = 44 ∨ n = 61 ∨ n = 46 ∨ n = 63 ∨ n = 33 ∨ n = 38 ∨ n = 124 ∨ n = 64 then 8
  else if (97 ≤ n ∧ n ≤ 122) ∨ (65 ≤ n ∧ n ≤ 90) then 2 else if 48 ≤ n ∧ n ≤ 57 then 3 else 9
def kat (l : List UInt8) (a : Nat) : Nat := match l[a]? with | none => 0 | some c => kd c.toNat
theorem kd_facts (c : UInt8) : (kd c.toNat = 2 ↔ isL c = true) ∧ (kd c.toNat = 3 ↔ isD c = true) ∧ (kd c.toNat = 4 ↔ c = 95) ∧ (kd c.toNat = 5 ↔ c = 45) ∧ (kd c.toNat = 6 ↔ c = 34) ∧ (kd c.toNat = 7 ↔ c = 35) ∧ (kd c.toNat = 8 ↔ isM c = true) ∧ (kd c.toNat = 1 ↔ isS c = true) := by
  revert c
  exact byte_all (by decide +kernel)
/-- The characters that have one of the kinds. -/
def inK (ks : List Nat) (c : UInt8) : Bool := ks.contains (kd c.toNat)
theorem inK_digit : inK [3] = isD := by
  funext c
  have h := (kd_facts c).2.1
  rw [Bool.eq_iff_iff, ← h]
  simp [inK]
theorem inK_word : inK [2, 3, 4] = isW := by
  funext c
  obtain ⟨h1, h2, h3, -⟩ := kd_facts c
  rw [Bool.eq_iff_iff]
  unfold isW
  simp only [Bool.or_eq_true, ← h1, ← h2, beq_iff_eq, ← h3]
  simp [inK]
  omega
theorem kat_lt {l : List UInt8} {a : Nat} (h : a < l.length) : kat l a = kd (l[a]'h).toNat := by unfold kat; rw [List.getElem?_eq_getElem h]
theorem kat_end {l : List UInt8} {a : Nat} (h : l.length ≤ a) : kat l a = 0 := by unfold kat; rw [List.getElem?_eq_none h]
/-- May what stands there not follow a name or a number? -/
def jn (l : List UInt8) (a : Nat) : Bool := kat l a == 2 || kat l a == 3 || kat l a == 4 || kat l a == 5
theorem jn_eq (l : List UInt8) (a : Nat) : jn l a = l[a]?.any (fun d => isW d || d == 45) := by
  by_cases h : a < l.length
  · rw [List.getElem?_eq_getElem h]
    unfold jn
    rw [kat_lt h]
    obtain ⟨h1, h2, h3, h4, -⟩ := kd_facts (l[a]'h)
    rw [Bool.eq_iff_iff]
    simp only [Option.any_some, isW, Bool.or_eq_true, beq_iff_eq, h1, h2, h3, h4]
  · unfold jn
    rw [kat_end (by omega), List.getElem?_eq_none (by omega)]
    rfl
theorem tw_stop (p : UInt8 → Bool) (l : List UInt8) (j : Nat) (h : j + ((l.drop j).takeWhile p).length < l.length) : p (l[j + ((l.drop j).takeWhile p).length]'h) = false := by
  have key : ∀ (m : List UInt8) (h : (m.takeWhile p).length < m.length), p (m[(m.takeWhile p).length]'h) = false := by
    intro m
    induction m with
    | nil => intro h; simp at h
    | cons c r ih =>
      cases e : p c
      · intro h; simp [e]
      · intro h
        simp [e] at h ⊢
        exact ih h
  have h2 := key (l.drop j) (by rw [List.length_drop]; omega)
  simpa using h2
end Go.Proofs.YtcilkcnddgacgaaGreatDoor


import Derived.Test.YtnfdoflmdlomhaaGreatDoorM01
import Derived.Test.YtnfdoflmdlomhaaGreatDoorM02
/-
  Schemas as data, and that their descriptions tell them apart. No conditions beyond those that each names.
-/
namespace Go.Proofs.YtnfdoflmdlomhaaGreatDoor
/-- A varint's bytes. -/
def uv (n : Nat) : List UInt8 := if n < 128 then [UInt8.ofNat n] else UInt8.ofNat (128 + n % 128) :: uv (n / 128)
termination_by n
decreasing_by omega
theorem uv_small {n : Nat} (h : n < 128) : uv n = [UInt8.ofNat n] := by rw [uv, if_pos h]
theorem uv_big {n : Nat} (h : ¬ n < 128) : uv n = UInt8.ofNat (128 + n % 128) :: uv (n / 128) := by rw [uv, if_neg h]
theorem of_nat_inj {a b : Nat} (ha : a < 256) (hb : b < 256) (h : UInt8.ofNat a = UInt8.ofNat b) : a = b := by
  have := congrArg UInt8.toNat h
  rw [UInt8.toNat_ofNat', UInt8.toNat_ofNat'] at this
  rw [Nat.mod_eq_of_lt ha, Nat.mod_eq_of_lt hb] at this
  exact this
theorem uv_inj (n : Nat) : ∀ (m : Nat) (r s : List UInt8), uv n ++ r = uv m ++ s → n = m ∧ r = s := by
  induction n using Nat.strongRecOn with
  | ind n ih =>
    intro m r s h
    by_cases hn : n < 128
    · rw [uv_small hn] at h
      by_cases hm : m < 128
      · rw [uv_small hm] at h
        injection h with h1 h2
        exact ⟨of_nat_inj (by omega) (by omega) h1, h2⟩
      · rw [uv_big hm] at h
        injection h with h1 h2
        have := of_nat_inj (by omega) (by omega) h1
        omega
    · rw [uv_big hn] at h
      by_cases hm : m < 128
      · rw [uv_small hm] at h
        injection h with h1 h2
        have := of_nat_inj (by omega) (by omega) h1
        omega
      · rw [uv_big hm] at h
        injection h with h1 h2
        have h3 := of_nat_inj (by omega) (by omega) h1
        obtain ⟨h4, h5⟩ := ih (n / 128) (by omega) (m / 128) r s h2
        exact ⟨by omega, h5⟩
theorem uv_ne (n : Nat) : uv n ≠ [] := by
  by_cases h : n < 128
  · rw [uv_small h]; simp
  · rw [uv_big h]; simp
/-- An int as it is written. -/
def cnt (n : Int) : List UInt8 := uv (n % 18446744073709551616).toNat
def i64 (n : Int) : Prop := -9223372036854775808 ≤ n ∧ n ≤ 9223372036854775807
theorem cnt_inj {n m : Int} {r s : List UInt8} (hn : i64 n) (hm : i64 m) (h : cnt n ++ r = cnt m ++ s) : n = m ∧ r = s := by
  obtain ⟨h1, h2⟩ := uv_inj _ _ _ _ h
  unfold i64 at hn hm
  exact ⟨by omega, h2⟩
/-- A text as it is written. -/
def txt (t : List UInt8) : List UInt8 := uv t.length ++ t
theorem txt_inj {t u r s : List UInt8} (h : txt t ++ r = txt u ++ s) : t = u ∧ r = s := by
  unfold txt at h
  rw [List.append_assoc, List.append_assoc] at h
  obtain ⟨h1, h2⟩ := uv_inj _ _ _ _ h
  exact List.append_inj h2 h1
/-- A type. -/
inductive Ty where
  | mk : Int → Int → List UInt8 → List Ty → Ty
mutual
/-- A type's description. -/
def dt : Ty → List UInt8
  | .mk k s n e => cnt k ++ (cnt s ++ (txt n ++ (uv e.length ++ dts e)))
def dts : List Ty → List UInt8
  | [] => []
  | t :: ts => dt t ++ dts ts
end
mutual
def inT : Ty → Prop
  | .mk k s _ e => i64 k ∧ i64 s ∧ inTs e
def inTs : List Ty → Prop
  | [] => True
  | t :: ts => inT t ∧ inTs ts
end
mutual
theorem dt_inj : ∀ (t u : Ty) (r s : List UInt8), inT t → inT u → dt t ++ r = dt u ++ s → t = u ∧ r = s
  | .mk k z n e, .mk k' z' n' e', r, s, ht, hu, h => by
    rw [dt, dt] at h
    simp only [List.append_assoc] at h
    rw [inT] at ht hu
    obtain ⟨h1, h⟩ := cnt_inj ht.1 hu.1 h
    obtain ⟨h2, h⟩ := cnt_inj ht.2.1 hu.2.1 h
    obtain ⟨h3, h⟩ := txt_inj h
    obtain ⟨h4, h⟩ := uv_inj _ _ _ _ h
    obtain ⟨h5, h⟩ := dts_inj e e' r s h4 ht.2.2 hu.2.2 h
    exact ⟨by rw [h1, h2, h3, h5], h⟩
theorem dts_inj : ∀ (ts us : List Ty) (r s : List UInt8), ts.length = us.length → inTs ts → inTs us → dts ts ++ r = dts us ++ s → ts = us ∧ r = s
  | [], [], r, s, _, _, _, h => ⟨rfl, by simpa [dts] using h⟩
  | [], _ :: _, _, _, hl, _, _, _ => by cases hl
  | _ :: _, [], _, _, hl, _, _, _ => by cases hl
  | t :: ts, u :: us, r, s, hl, ht, hu, h => by
    rw [dts, dts, List.append_assoc, List.append_assoc] at h
    rw [inTs] at ht hu
    obtain ⟨h1, h⟩ := dt_inj t u _ _ ht.1 hu.1 h
    obtain ⟨h2, h⟩ := dts_inj ts us r s (by simpa using hl) ht.2 hu.2 h
    exact ⟨by rw [h1, h2], h⟩
end
/-- A field, a struct, an enumeration. -/
structure Fd where
  num : Int
  name : List UInt8
  opt : Bool
  type : Ty
structure St where
  name : List UInt8
  fields : List Fd
structure En where
  name : List UInt8
  names : List (List UInt8)
  nums : List Int
def dfd (f : Fd) : List UInt8 := cnt f.num ++ (txt f.name ++ (dt f.type ++ [if f.opt then 1 else 0]))
def dfds : List Fd → List UInt8
  | [] => []
  | f :: fs => dfd f ++ dfds fs
def inF (f : Fd) : Prop := i64 f.num ∧ inT f.type
theorem dfd_inj {f g : Fd} {r s : List UInt8} (hf : inF f) (hg : inF g) (h : dfd f ++ r = dfd g ++ s) : f = g ∧ r = s := by
  obtain ⟨a, b, c, d⟩ := f
  obtain ⟨a', b', c', d'⟩ := g
  unfold dfd at h
  simp only [List.append_assoc] at h
  obtain ⟨h1, h⟩ := cnt_inj hf.1 hg.1 h
  obtain ⟨h2, h⟩ := txt_inj h
  obtain ⟨h3, h⟩ := dt_inj _ _ _ _ hf.2 hg.2 h
  injection h with h4 h5
  refine ⟨?_, h5⟩
  have h4 : c = c' := by
    cases c <;> cases c'
    · rfl
    · simp at h4
    · simp at h4
    · rfl
  have h1 : a = a' := h1
  have h2 : b = b' := h2
  have h3 : d = d' := h3
  rw [h1, h2, h3, h4]
theorem dfds_inj : ∀ (fs gs : List Fd) (r s : List UInt8), fs.length = gs.length → (∀ f ∈ fs, inF f) → (∀ g ∈ gs, inF g) → dfds fs ++ r = dfds gs ++ s → fs = gs ∧ r = s
  | [], [], r, s, _, _, _, h => ⟨rfl, by simpa [dfds] using h⟩
  | [], _ :: _, _, _, hl, _, _, _ => by cases hl
  | _ :: _, [], _, _, hl, _, _, _ => by cases hl
  | f :: fs, g :: gs, r, s, hl, hf, hg, h => by
    rw [dfds, dfds, List.append_assoc, List.append_assoc] at h
    obtain ⟨h1, h⟩ := dfd_inj (hf f (by simp)) (hg g (by simp)) h
    obtain ⟨h2, h⟩ := dfds_inj fs gs r s (by simpa using hl) (fun x hx => hf x (by simp [hx])) (fun x hx => hg x (by simp [hx])) h
    exact ⟨by rw [h1, h2], h⟩
def dst (x : St) : List UInt8 := uv 6 ++ (txt x.name ++ (uv x.fields.length ++ dfds x.fields))
def dns : List (List UInt8) → List Int → List UInt8
  | n :: ns, k :: ks => txt n ++ (cnt k ++ dns ns ks)
  | _, _ => []
def den (x : En) : List UInt8 := uv 7 ++ (txt x.name ++ (uv x.names.length ++ dns x.names x.nums))
theorem dns_inj : ∀ (ns ms : List (List UInt8)) (ks js : List Int) (r s : List UInt8), ns.length = ms.length → ks.length = ns.length → js.length = ms.length → (∀ k ∈ ks, i64 k) → (∀ k ∈ js, i64 k) → dns ns ks ++ r = dns ms js ++ s → ns = ms ∧ ks = js ∧ r = s
  | [], [], [], [], r, s, _, _, _, _, _, h => ⟨rfl, rfl, by simpa [dns] using h⟩
  | n :: ns, m :: ms, k :: ks, j :: js, r, s, h1, h2, h3, hk, hj, h => by
    rw [dns, dns] at h
    simp only [List.append_assoc] at h
    obtain ⟨e1, h⟩ := txt_inj h
    obtain ⟨e2, h⟩ := cnt_inj (hk k (by simp)) (hj j (by simp)) h
    obtain ⟨e3, e4, h⟩ := dns_inj ns ms ks js r s (by simpa using h1) (by simpa using h2) (by simpa using h3) (fun x hx => hk x (by simp [hx])) (fun x hx => hj x (by simp [hx])) h
    exact ⟨by rw [e1, e3], by rw [e2, e4], h⟩
  | [], _ :: _, _, _, _, _, h1, _, _, _, _, _ => by cases h1
  | _ :: _, [], _, _, _, _, h1, _, _, _, _, _ => by cases h1
  | [], [], _ :: _, _, _, _, _, h2, _, _, _, _ => by cases h2
  | [], [], [], _ :: _, _, _, _, _, h3, _, _, _ => by cases h3
  | _ :: _, _ :: _, [], _, _, _, _, h2, _, _, _, _ => by cases h2
  | _ :: _, _ :: _, _ :: _, [], _, _, _, _, h3, _, _, _ => by cases h3
/-- A definition. -/
inductive Df where
  | st : St → Df
  | en : En → Df
def dd : Df → List UInt8
  | .st x => dst x
  | .en x => den x
def inD : Df → Prop
  | .st x => ∀ f ∈ x.fields, inF f
  | .en x => x.nums.length = x.names.length ∧ ∀ k ∈ x.nums, i64 k
theorem dd_inj {a b : Df} {r s : List UInt8} (ha : inD a) (hb : inD b) (h : dd a ++ r = dd b ++ s) : a = b ∧ r = s := by
  match a, b, ha, hb, h with
  | .st ⟨n, fs⟩, .st ⟨m, gs⟩, ha, hb, h =>
    unfold dd dst at h
    simp only [List.append_assoc] at h
    obtain ⟨-, h⟩ := uv_inj _ _ _ _ h
    obtain ⟨h1, h⟩ := txt_inj h
    obtain ⟨h2, h⟩ := uv_inj _ _ _ _ h
    obtain ⟨h3, h⟩ := dfds_inj fs gs r s h2 ha hb h
    exact ⟨by rw [h1, h3], h⟩
  | .en ⟨n, ns, ks⟩, .en ⟨m, ms, js⟩, ha, hb, h =>
    unfold dd den at h
    simp only [List.append_assoc] at h
    obtain ⟨-, h⟩ := uv_inj _ _ _ _ h
    obtain ⟨h1, h⟩ := txt_inj h
    obtain ⟨h2, h⟩ := uv_inj _ _ _ _ h
    obtain ⟨h3, h4, h⟩ := dns_inj ns ms ks js r s h2 ha.1 hb.1 ha.2 hb.2 h
    exact ⟨by rw [h1, h3, h4], h⟩
  | .st x, .en y, _, _, h =>
    unfold dd dst den at h
    simp only [List.append_assoc] at h
    exact absurd (uv_inj _ _ _ _ h).1 (by decide)
  | .en x, .st y, _, _, h =>
    unfold dd dst den at h
    simp only [List.append_assoc] at h
    exact absurd (uv_inj _ _ _ _ h).1 (by decide)
theorem dd_ne (a : Df) : dd a ≠ [] := by
  intro h
  cases a with
  | st x => exact uv_ne 6 (List.append_eq_nil_iff.1 h).1
  | en x => exact uv_ne 7 (List.append_eq_nil_iff.1 h).1
/-- Definitions' descriptions, one after the other, tell the definitions. -/
def dds : List Df → List UInt8
  | [] => []
  | a :: l => dd a ++ dds l
theorem dds_inj : ∀ (l m : List Df), (∀ a ∈ l, inD a) → (∀ a ∈ m, inD a) → dds l = dds m → l = m
  | [], [], _, _, _ => rfl
  | [], b :: m, _, _, h => by
    rw [dds, dds] at h
    exact absurd (List.append_eq_nil_iff.1 h.symm).1 (dd_ne b)
  | a :: l, [], _, _, h => by
    rw [dds, dds] at h
    exact absurd (List.append_eq_nil_iff.1 h).1 (dd_ne a)
  | a :: l, b :: m, hl, hm, h => by
    rw [dds, dds] at h
    obtain ⟨h1, h⟩ := dd_inj (hl a (by simp)) (hm b (by simp)) h
    rw [h1, dds_inj l m (fun x hx => hl x (by simp [hx])) (fun x hx => hm x (by simp [hx])) h]
end Go.Proofs.YtnfdoflmdlomhaaGreatDoor
/-
  Definitions found by name, and that their order does not matter: mathematics of looking up. No conditions beyond those that each names.
-/
namespace Go.Proofs.YtnfdoflmdlomhaaGreatDoor
section
variable {α β : Type} [DecidableEq β]
/-- The first with this name. -/
def fst_ (key : α → β) (l : List α) (k : β) : Option α := l.find? fun a => decide (key a = k)
theorem fst_nil (key : α → β) (k : β) : fst_ key [] k = none := rfl
theorem fst_cons (key : α → β) (a : α) (l : List α) (k : β) : fst_ key (a :: l) k = if key a = k then some a else fst_ key l k := by
  unfold fst_
  rw [List.find?_cons]
  by_cases h : key a = k <;> simp [h]
theorem fst_mem {key : α → β} {l : List α} {k : β} {a : α} (h : fst_ key l k = some a) : a ∈ l ∧ key a = k := by
  refine ⟨List.mem_of_find?_eq_some h, ?_⟩
  have := List.find?_some h
  simpa using this
theorem fst_none {key : α → β} {l : List α} {k : β} : fst_ key l k = none ↔ ∀ a ∈ l, key a ≠ k := by
  unfold fst_
  rw [List.find?_eq_none]
  exact ⟨fun h a ha e => h a ha (decide_eq_true e), fun h a ha e => h a ha (of_decide_eq_true e)⟩
/-- Where no two have one name, what is found is the one with the name. -/
theorem fst_iff {key : α → β} : ∀ {l : List α}, (l.map key).Nodup → ∀ {k : β} {a : α}, fst_ key l k = some a ↔ a ∈ l ∧ key a = k
  | [], _, k, a => by simp [fst_nil]
  | b :: l, h, k, a => by
    rw [List.map_cons, List.nodup_cons] at h
    rw [fst_cons]
    constructor
    · intro e
      split at e
      · rename_i hb; cases e; exact ⟨by simp, hb⟩
      · have := fst_mem e; exact ⟨by simp [this.1], this.2⟩
    · rintro ⟨hm, rfl⟩
      rcases List.mem_cons.1 hm with rfl | hm
      · simp
      · rw [if_neg fun e => h.1 (by rw [e]; exact List.mem_map_of_mem hm)]
        exact (fst_iff h.2).2 ⟨hm, rfl⟩
/-- Their order does not matter. -/
theorem fst_perm {key : α → β} {l m : List α} (h : (l.map key).Nodup) (p : l.Perm m) (k : β) : fst_ key l k = fst_ key m k := by
  have h' : (m.map key).Nodup := (p.map key).nodup_iff.1 h
  cases e : fst_ key m k with
  | none => exact fst_none.2 fun a ha => fst_none.1 e a (p.mem_iff.1 ha)
  | some a => exact (fst_iff h).2 ⟨p.mem_iff.2 ((fst_iff h').1 e).1, ((fst_iff h').1 e).2⟩
/-- What has another name does not matter. -/
theorem fst_other {key : α → β} (l : List α) {b : α} {k : β} (h : key b ≠ k) : fst_ key (l ++ [b]) k = fst_ key l k := by
  unfold fst_
  rw [List.find?_append]
  simp [h]
theorem fst_other' {key : α → β} {l : List α} {b : α} {k : β} (h : fst_ key l k ≠ none) : fst_ key (l ++ [b]) k = fst_ key l k := by
  unfold fst_ at h ⊢
  rw [List.find?_append]
  cases e : l.find? (fun a => decide (key a = k)) with
  | none => exact absurd e h
  | some a => rfl
end
section
variable {α : Type}
/-- What is reached depends only on the steps of what is reached. -/
theorem Reach.only {next next' : α → List α} {x : α} (hx : ∀ z, z = x ∨ Reach next x z → ∀ y, y ∈ next z ↔ y ∈ next' z) (y : α) : Reach next x y ↔ Reach next' x y := by
  constructor
  · intro h
    induction h with
    | one h => exact .one ((hx _ (.inl rfl) _).1 h)
    | more h hz ih => exact .more ih ((hx _ (.inr h) _).1 hz)
  · intro h
    induction h with
    | one h => exact .one ((hx _ (.inl rfl) _).2 h)
    | more h hz ih => exact .more ih ((hx _ (.inr ih) _).2 hz)
end
end Go.Proofs.YtnfdoflmdlomhaaGreatDoor
/-
  Names in the order of their bytes: a total order; a sorted list without doubles is the ascending one.
-/
namespace Go.Proofs.YtnfdoflmdlomhaaGreatDoor
/-- The order of names by their bytes. -/
def leB (x y : List UInt8) : Bool := decide (x ≤ y)
theorem tot_leB : Tot leB where
  total a b := by
    rcases List.le_total a b with h | h
    · exact .inl (decide_eq_true h)
    · exact .inr (decide_eq_true h)
  anti a b h k := List.le_antisymm (of_decide_eq_true h) (of_decide_eq_true k)
  trans a b c h k := decide_eq_true (List.le_trans (of_decide_eq_true h) (of_decide_eq_true k))
/-- Sorted, and without doubles: strictly ascending. -/
theorem asc_sorted {α : Type} {le : α → α → Bool} (ht : Tot le) (l : List α) (h : l.Nodup) : Asc le (l.mergeSort le) := by
  have h1 : (l.mergeSort le).Pairwise fun a b => le a b = true :=
    List.pairwise_mergeSort (fun a b c => ht.trans a b c) (fun a b => by
      rcases ht.total a b with h | h
      · rw [h]; rfl
      · rw [h]; simp) l
  have h2 : (l.mergeSort le).Nodup := (List.mergeSort_perm l le).nodup_iff.2 h
  exact List.Pairwise.and h1 h2
theorem sorted_eq {α : Type} {le : α → α → Bool} (ht : Tot le) {l m : List α} (h : l.Nodup) (hm : Asc le m) (he : ∀ z, z ∈ l ↔ z ∈ m) : l.mergeSort le = m :=
  asc_unique ht _ _ (asc_sorted ht l h) hm fun z => by rw [(List.mergeSort_perm l le).mem_iff, he]
/-- Strictly ascending, by neighbours. -/
theorem asc_of_steps {α : Type} {le : α → α → Bool} (ht : Tot le) : ∀ (l : List α), (∀ k (h : k + 1 < l.length), le l[k] l[k + 1] = true ∧ l[k] ≠ l[k + 1]) → Asc le l
  | [], _ => List.Pairwise.nil
  | [a], _ => List.pairwise_singleton _ _
  | a :: b :: r, h => by
    have h1 : Asc le (b :: r) := asc_of_steps ht (b :: r) fun k hk => h (k + 1) (by simpa using hk)
    have h0 : le a b = true ∧ a ≠ b := h 0 (by simp)
    refine List.pairwise_cons.2 ⟨fun z hz => ?_, h1⟩
    rcases List.mem_cons.1 hz with rfl | hz
    · exact h0
    · have hb := (List.pairwise_cons.1 h1).1 z hz
      refine ⟨ht.trans _ _ _ h0.1 hb.1, fun e => ?_⟩
      subst e
      exact h0.2 (ht.anti _ _ h0.1 hb.1)
theorem steps_of_asc {α : Type} {le : α → α → Bool} {l : List α} (h : Asc le l) (k : Nat) (hk : k + 1 < l.length) : le l[k] l[k + 1] = true ∧ l[k] ≠ l[k + 1] :=
  List.pairwise_iff_getElem.1 h k (k + 1) (by omega) hk (by omega)
/-- Strictly less, in the order of bytes. -/
theorem ltB (x y : List UInt8) : x < y ↔ leB x y = true ∧ x ≠ y := by
  constructor
  · intro h
    exact ⟨decide_eq_true (List.le_of_lt h), fun e => by subst e; exact List.lt_irrefl _ h⟩
  · rintro ⟨h, hne⟩
    rcases Decidable.em (x < y) with h1 | h1
    · exact h1
    · exact absurd (List.le_antisymm (of_decide_eq_true h) (List.not_lt.1 h1)) hne
end Go.Proofs.YtnfdoflmdlomhaaGreatDoor
/-
  What a visit that calls itself finds: mathematics of a search in depth. No conditions beyond those that each names.
-/
namespace Go.Proofs.YtnfdoflmdlomhaaGreatDoor
section
variable {α : Type}
/-- A visit of x, of whose next names those in done were looked at: seen held old at its beginning, and holds now now. -/
structure Lp (next : α → List α) (old : List α) (x : α) (done now : List α) : Prop where
  sub : ∀ y ∈ old, y ∈ now
  dn : ∀ y ∈ done, y ∈ now
  new : ∀ y ∈ now, y ∉ old → Reach next x y ∧ ∀ z ∈ next y, z ∈ now
  nd : old.Nodup → now.Nodup
/-- A visit that has ended. -/
abbrev Vis (next : α → List α) (old : List α) (x : α) (now : List α) : Prop := Lp next old x (next x) now
theorem Lp.start (next : α → List α) (old : List α) (x : α) : Lp next old x [] old := ⟨fun _ h => h, fun _ h => (by cases h), fun _ h k => absurd h k, fun h => h⟩
/-- A name that was seen is passed over. -/
theorem Lp.old_ {next : α → List α} {old : List α} {x : α} {done now : List α} (h : Lp next old x done now) {y : α} (hy : y ∈ now) : Lp next old x (done ++ [y]) now :=
  ⟨h.sub, fun z hz => by
    rcases List.mem_append.1 hz with hz | hz
    · exact h.dn z hz
    · rw [List.mem_singleton.1 hz]; exact hy, h.new, h.nd⟩
/-- A name that was not seen is put behind the others and visited. -/
theorem Lp.new_ {next : α → List α} {old : List α} {x : α} {done now : List α} (h : Lp next old x done now) {y : α} (hn : y ∈ next x) (hy : y ∉ now) {now' : List α} (hv : Vis next (now ++ [y]) y now') : Lp next old x (done ++ [y]) now' := by
  have hs : ∀ z ∈ now, z ∈ now' := fun z hz => hv.sub z (List.mem_append_left _ hz)
  have hy' : y ∈ now' := hv.sub y (by simp)
  refine ⟨fun z hz => hs z (h.sub z hz), fun z hz => ?_, fun z hz hzo => ?_, fun ho => hv.nd ?_⟩
  · rcases List.mem_append.1 hz with hz | hz
    · exact hs z (h.dn z hz)
    · rw [List.mem_singleton.1 hz]; exact hy'
  · by_cases h1 : z ∈ now
    · exact ⟨(h.new z h1 hzo).1, fun u hu => hs u ((h.new z h1 hzo).2 u hu)⟩
    · by_cases h2 : z = y
      · subst h2
        exact ⟨.one hn, fun u hu => hv.dn u hu⟩
      · have h3 := hv.new z hz (by simp [h1, h2])
        exact ⟨(Reach.one hn).trans h3.1, h3.2⟩
  · rw [List.nodup_append]
    refine ⟨h.nd ho, by simp, fun a ha b hb e => ?_⟩
    rw [List.mem_singleton.1 hb] at e
    subst e
    exact hy ha
/-- A name that was not seen and leads nowhere is put behind the others. -/
theorem Lp.leaf {next : α → List α} {old : List α} {x : α} {done now : List α} (h : Lp next old x done now) {y : α} (hn : y ∈ next x) (hy : y ∉ now) (hl : next y = []) : Lp next old x (done ++ [y]) (now ++ [y]) :=
  h.new_ hn hy (by
    have := Lp.start next (now ++ [y]) y
    show Lp next (now ++ [y]) y (next y) (now ++ [y])
    rw [hl]
    exact this)
/-- From nothing seen: what the root leads to. -/
theorem Vis.root {next : α → List α} {x : α} {now : List α} (h : Vis next [] x now) : now.Nodup ∧ ∀ y, y ∈ now ↔ Reach next x y := by
  refine ⟨h.nd List.nodup_nil, fun y => ⟨fun hy => (h.new y hy (by simp)).1, fun hr => ?_⟩⟩
  induction hr with
  | one hy => exact h.dn _ hy
  | more _ hz ih => exact (h.new _ ih (by simp)).2 _ hz
/-- From the root alone seen: what the root leads to, and the root. -/
theorem Vis.self {next : α → List α} {x : α} {now : List α} (h : Vis next [x] x now) : now.Nodup ∧ x ∈ now ∧ ∀ y, y ≠ x → (y ∈ now ↔ Reach next x y) := by
  have hk : ∀ y, Reach next x y → y ∈ now := fun y hr => by
    induction hr with
    | one hy => exact h.dn _ hy
    | @more y z _ hz ih =>
      by_cases e : y = x
      · subst e; exact h.dn _ hz
      · exact (h.new y ih (by simp [e])).2 _ hz
  exact ⟨h.nd (by simp), h.sub x (by simp), fun y hy => ⟨fun hm => (h.new y hm (by simp [hy])).1, hk y⟩⟩
/-- What leads to itself does so through a name of its own next ones. -/
theorem Reach.first {next : α → List α} {x y : α} (h : Reach next x y) : y ∈ next x ∨ ∃ z ∈ next x, Reach next z y := by
  induction h with
  | one h => exact .inl h
  | more _ hz ih =>
    rcases ih with h | ⟨u, hu, hr⟩
    · exact .inr ⟨_, h, .one hz⟩
    · exact .inr ⟨u, hu, .more hr hz⟩
/-- With a rank, nothing leads to itself. -/
theorem Reach.down {next : α → List α} {rk : α → Nat} (hd : ∀ x, ∀ y ∈ next x, rk y < rk x) {x y : α} (h : Reach next x y) : rk y < rk x := by
  induction h with
  | one h => exact hd _ _ h
  | more _ hz ih => exact Nat.lt_trans (hd _ _ hz) ih
end
end Go.Proofs.YtnfdoflmdlomhaaGreatDoor
/-
  The developers' kinds of characters, by bytes; what skipping white space and remarks comes to. No conditions.
-/
namespace Go.Proofs.YtnfdoflmdlomhaaGreatDoor
/-- The kind of a character. -/
def kd (n : Nat) : Nat :=
  if n = 32 ∨ n = 9 ∨ n = 10 then 1 else if n = 95 then 4 else if n = 45 then 5 else if n = 34 then 6 else if n = 35 then 7
  else if n = 123 ∨ n = 125 ∨ n = 40 ∨ n = 41 ∨ n = 91 ∨ n = 93 ∨ n = 58 ∨ n = 59 ∨ n = 44 ∨ n = 61 ∨ n = 46 ∨ n = 63 ∨ n = 33 ∨ n = 38 ∨ n = 124 ∨ n = 64 then 8
  else if (97 ≤ n ∧ n ≤ 122) ∨ (65 ≤ n ∧ n ≤ 90) then 2 else if 48 ≤ n ∧ n ≤ 57 then 3 else 9
def kat (l : List UInt8) (a : Nat) : Nat := match l[a]? with | none => 0 | some c => kd c.toNat
theorem kd_pos (n : Nat) : 1 ≤ kd n ∧ kd n ≤ 9 := by
  unfold kd
  constructor <;> (repeat' split) <;> omega
theorem kd_facts (c : UInt8) : (kd c.toNat = 2 ↔ isL c = true) ∧ (kd c.toNat = 3 ↔ isD c = true) ∧ (kd c.toNat = 4 ↔ c = 95) ∧ (kd c.toNat = 5 ↔ c = 45) ∧ (kd c.toNat = 6 ↔ c = 34) ∧ (kd c.toNat = 7 ↔ c = 35) ∧ (kd c.toNat = 8 ↔ isM c = true) ∧ (kd c.toNat = 1 ↔ isS c = true) := by
  revert c
  exact byte_all (by decide +kernel)
/-- The characters that have one of the kinds. -/
def inK (ks : List Nat) (c : UInt8) : Bool := ks.contains (kd c.toNat)
theorem inK_white : inK [1] = isS := by
  funext c
  have h := (kd_facts c).2.2.2.2.2.2.2
  rw [Bool.eq_iff_iff, ← h]
  simp [inK]
theorem inK_digit : inK [3] = isD := by
  funext c
  have h := (kd_facts c).2.1
  rw [Bool.eq_iff_iff, ← h]
  simp [inK]
theorem inK_word : inK [2, 3, 4] = isW := by
  funext c
  obtain ⟨h1, h2, h3, -⟩ := kd_facts c
  rw [Bool.eq_iff_iff]
  unfold isW
  simp only [Bool.or_eq_true, ← h1, ← h2, beq_iff_eq, ← h3]
  simp [inK]
  omega
theorem kat_lt {l : List UInt8} {a : Nat} (h : a < l.length) : kat l a = kd (l[a]'h).toNat := by unfold kat; rw [List.getElem?_eq_getElem h]
theorem kat_end {l : List UInt8} {a : Nat} (h : l.length ≤ a) : kat l a = 0 := by unfold kat; rw [List.getElem?_eq_none h]
/-- May what stands there not follow a name or a number? -/
def jn (l : List UInt8) (a : Nat) : Bool := kat l a == 2 || kat l a == 3 || kat l a == 4 || kat l a == 5
theorem jn_eq (l : List UInt8) (a : Nat) : jn l a = l[a]?.any (fun d => isW d || d == 45) := by
  by_cases h : a < l.length
  · rw [List.getElem?_eq_getElem h]
    unfold jn
    rw [kat_lt h]
    obtain ⟨h1, h2, h3, h4, -⟩ := kd_facts (l[a]'h)
    rw [Bool.eq_iff_iff]
    simp only [Option.any_some, isW, Bool.or_eq_true, beq_iff_eq, h1, h2, h3, h4]
  · unfold jn
    rw [kat_end (by omega), List.getElem?_eq_none (by omega)]
    rfl
/-- The place of the next line feed, or the end. -/
def eol (l : List UInt8) (a : Nat) : Nat := a + ((l.drop a).takeWhile (fun c => c != 10)).length
theorem sk_white (l : List UInt8) : sk false l = sk false (l.dropWhile isS) := by
  induction l with
  | nil => rfl
  | cons c r ih =>
    cases h : isS c
    · rw [List.dropWhile_cons_of_neg (by simp [h])]
    · rw [List.dropWhile_cons_of_pos h, ← ih]
      rw [sk]
      have h35 : (c == 35) = false := by
        cases e : c == 35
        · rfl
        · rw [beq_iff_eq] at e; subst e; cases h
      simp [h, h35]
theorem sk_true (l : List UInt8) : sk true l = sk false (l.dropWhile (fun c => c != 10)) := by
  induction l with
  | nil => rfl
  | cons c r ih =>
    cases h : c != 10
    · rw [List.dropWhile_cons_of_neg (by simp [h])]
      have : c = 10 := by simpa using h
      subst this
      rw [sk, sk]
      rfl
    · rw [List.dropWhile_cons_of_pos (by simp [h]), ← ih]
      rw [sk]
      simp [h]
theorem sk_remark (r : List UInt8) : sk false (35 :: r) = sk false (r.dropWhile (fun c => c != 10)) := by
  rw [← sk_true, sk]
  rfl
theorem dropW (p : UInt8 → Bool) (l : List UInt8) : l.dropWhile p = l.drop (l.takeWhile p).length := by
  induction l with
  | nil => rfl
  | cons c r ih =>
    cases h : p c
    · simp [h]
    · simp [h, ih]
/-- At place j, behind white space. -/
theorem sk_past (l : List UInt8) (j : Nat) : sk false (l.drop (j + ((l.drop j).takeWhile isS).length)) = sk false (l.drop j) := by
  rw [sk_white (l.drop j), dropW, List.drop_drop]
theorem sk_hash (l : List UInt8) (j : Nat) (h : j < l.length) (hc : l[j] = 35) : sk false (l.drop (eol l j)) = sk false (l.drop j) := by
  rw [List.drop_eq_getElem_cons h, hc, sk_remark, dropW, List.drop_drop]
  unfold eol
  rw [List.drop_eq_getElem_cons h, hc]
  simp
  congr 2
  omega
theorem eol_gt (l : List UInt8) (j : Nat) (h : j < l.length) (hc : l[j] = 35) : j < eol l j ∧ eol l j ≤ l.length := by
  unfold eol
  have h1 := List.takeWhile_sublist (fun c : UInt8 => c != 10) (l := l.drop j)
  have h2 := h1.length_le
  rw [List.length_drop] at h2
  refine ⟨?_, by omega⟩
  rw [List.drop_eq_getElem_cons h, hc]
  simp
theorem sk_stop (l : List UInt8) (j : Nat) (h : kat l j ≠ 1) (h7 : kat l j ≠ 7) : sk false (l.drop j) = l.drop j := by
  by_cases hj : j < l.length
  · rw [List.drop_eq_getElem_cons hj]
    rw [kat_lt hj] at h h7
    obtain ⟨-, -, -, -, -, f7, -, f1⟩ := kd_facts (l[j]'hj)
    refine sk_keep _ ?_ ?_
    · cases e : isS l[j]
      · rfl
      · exact absurd (f1.2 e) h
    · exact fun e => h7 (f7.2 e)
  · rw [List.drop_eq_nil_of_le (by omega)]; rfl
theorem tw_stop (p : UInt8 → Bool) (l : List UInt8) (j : Nat) (h : j + ((l.drop j).takeWhile p).length < l.length) : p (l[j + ((l.drop j).takeWhile p).length]'h) = false := by
  have key : ∀ (m : List UInt8) (h : (m.takeWhile p).length < m.length), p (m[(m.takeWhile p).length]'h) = false := by
    intro m
    induction m with
    | nil => intro h; simp at h
    | cons c r ih =>
      cases e : p c
      · intro h; simp [e]
      · intro h
        simp [e] at h ⊢
        exact ih h
  have h2 := key (l.drop j) (by rw [List.length_drop]; omega)
  simpa using h2
theorem kat_past (l : List UInt8) (m : Nat) : kat l (m + ((l.drop m).takeWhile isS).length) ≠ 1 := by
  by_cases h : m + ((l.drop m).takeWhile isS).length < l.length
  · have := tw_stop isS l m h
    rw [kat_lt h]
    intro h1
    rw [(kd_facts _).2.2.2.2.2.2.2.1 h1] at this
    cases this
  · rw [kat_end (by omega)]; decide
end Go.Proofs.YtnfdoflmdlomhaaGreatDoor

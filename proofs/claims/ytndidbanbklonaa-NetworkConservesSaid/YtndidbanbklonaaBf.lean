import Derived.Test.YtndidbanbklonaaBe
/-
  A schedule as data: what adding an arrival and taking those up to a time make of it. No conditions beyond those that each names.
-/
namespace Go.Proofs.Ytndidbanbklonaa
open Go.RowKit Go.Sort Go.Lib Go.Shelf
/-- A schedule: its times, the arrivals at each, how many there are. -/
structure Sq where
  T : List Int
  G : Int → List Ar
  n : Nat
/-- All arrivals, in order. -/
def Sq.fl (Q : Sq) : List Ar := Q.T.flatMap Q.G
structure Okq (Q : Sq) : Prop where
  asc : Q.T.Pairwise (· < ·)
  mem : ∀ t, t ∈ Q.T ↔ Q.G t ≠ []
  at_ : ∀ t, ∀ a ∈ Q.G t, a.at_ = t
  cnt : Q.n = Q.fl.length
def Sq.nil : Sq := ⟨[], fun _ => [], 0⟩
theorem Okq.nil : Okq Sq.nil := ⟨List.Pairwise.nil, fun t => by simp [Sq.nil], fun t a h => (by cases h), rfl⟩
def Sq.add (a : Ar) (Q : Sq) : Sq :=
  ⟨if (Q.G a.at_).isEmpty then Q.T.take (psI a.at_ Q.T) ++ a.at_ :: Q.T.drop (psI a.at_ Q.T) else Q.T, fun u => if u = a.at_ then Q.G a.at_ ++ [a] else Q.G u, Q.n + 1⟩
theorem psI_take (t : Int) : ∀ l : List Int, ∀ x ∈ l.take (psI t l), x < t
  | [], x, h => by simp [psI] at h
  | y :: l, x, h => by
    unfold psI at h
    split at h
    · rename_i hy
      rw [List.take_succ_cons] at h
      rcases List.mem_cons.1 h with rfl | h
      · exact hy
      · exact psI_take t l x h
    · rw [List.take_zero] at h; cases h
theorem psI_drop (t : Int) : ∀ l : List Int, l.Pairwise (· < ·) → ∀ x ∈ l.drop (psI t l), t ≤ x
  | [], _, x, h => by simp [psI] at h
  | y :: l, hp, x, h => by
    obtain ⟨h1, h2⟩ := List.pairwise_cons.1 hp
    unfold psI at h
    split at h
    · rw [List.drop_succ_cons] at h; exact psI_drop t l h2 x h
    · rename_i hy
      rw [List.drop_zero] at h
      rcases List.mem_cons.1 h with rfl | h
      · omega
      · have := h1 x h; omega
theorem fm_congr {T : List Int} {G G' : Int → List Ar} (h : ∀ t ∈ T, G t = G' t) : T.flatMap G = T.flatMap G' := by
  induction T with
  | nil => rfl
  | cons x T ih =>
    rw [List.flatMap_cons, List.flatMap_cons, h x (List.mem_cons_self ..), ih fun t ht => h t (List.mem_cons_of_mem _ ht)]
theorem fm_mem {Q : Sq} (h : Okq Q) {T : List Int} {x : Ar} (hx : x ∈ T.flatMap Q.G) : x.at_ ∈ T := by
  obtain ⟨t, ht, hx⟩ := List.mem_flatMap.1 hx
  rw [h.at_ t x hx]; exact ht
/-- What an addition makes of the list of all arrivals. -/
theorem add_fl {Q : Sq} (h : Okq Q) (a : Ar) : ∃ F1 F2, Q.fl = F1 ++ F2 ∧ (Q.add a).fl = F1 ++ a :: F2 ∧ (∀ x ∈ F1, x.at_ ≤ a.at_) ∧ (∀ x ∈ F2, a.at_ < x.at_) := by
  have e : Q.T = Q.T.take (psI a.at_ Q.T) ++ Q.T.drop (psI a.at_ Q.T) := (List.take_append_drop _ _).symm
  have h1 := psI_take a.at_ Q.T
  have h2 := psI_drop a.at_ Q.T h.asc
  have hG1 : (Q.T.take (psI a.at_ Q.T)).flatMap (Q.add a).G = (Q.T.take (psI a.at_ Q.T)).flatMap Q.G := fm_congr fun t ht => by
    have := h1 t ht
    exact if_neg (by omega)
  have hGt : (Q.add a).G a.at_ = Q.G a.at_ ++ [a] := if_pos rfl
  by_cases hm : a.at_ ∈ Q.T
  · have hd : a.at_ ∈ Q.T.drop (psI a.at_ Q.T) := by
      rw [e] at hm
      rcases List.mem_append.1 hm with hm | hm
      · have := h1 _ hm; omega
      · exact hm
    cases hD : Q.T.drop (psI a.at_ Q.T) with
    | nil => rw [hD] at hd; cases hd
    | cons y T2 =>
      have hpw : (y :: T2).Pairwise (· < ·) := by rw [← hD]; exact h.asc.drop
      obtain ⟨h3, -⟩ := List.pairwise_cons.1 hpw
      have hy : y = a.at_ := by
        have h4 := h2 y (by rw [hD]; exact List.mem_cons_self ..)
        rw [hD] at hd
        rcases List.mem_cons.1 hd with e | e
        · exact e.symm
        · have := h3 _ e; omega
      subst hy
      have hG2 : T2.flatMap (Q.add a).G = T2.flatMap Q.G := fm_congr fun t ht => by
        have := h3 t ht
        exact if_neg (by omega)
      have hne : (Q.G a.at_).isEmpty = false := by
        have := (h.mem a.at_).1 hm
        cases hq : Q.G a.at_ with
        | nil => exact absurd hq this
        | cons _ _ => rfl
      have hT : (Q.add a).T = Q.T := by show (if _ then _ else _) = _; rw [hne]; rfl
      refine ⟨(Q.T.take (psI a.at_ Q.T)).flatMap Q.G ++ Q.G a.at_, T2.flatMap Q.G, ?_, ?_, fun x hx => ?_, fun x hx => ?_⟩
      · show Q.T.flatMap Q.G = _
        rw [List.append_assoc, ← List.flatMap_cons, ← hD, ← List.flatMap_append, ← e]
      · show (Q.add a).T.flatMap (Q.add a).G = _
        rw [hT]
        conv => lhs; rw [e, hD]
        rw [List.flatMap_append, List.flatMap_cons, hG1, hG2, hGt]
        simp
      · rcases List.mem_append.1 hx with hx | hx
        · have := h1 _ (fm_mem h hx); omega
        · rw [h.at_ _ x hx]; exact Int.le_refl _
      · exact h3 _ (fm_mem h hx)
  · have hnil : Q.G a.at_ = [] := by
      cases hq : Q.G a.at_ with
      | nil => rfl
      | cons _ _ => exact absurd ((h.mem a.at_).2 (by rw [hq]; simp)) hm
    have hT : (Q.add a).T = Q.T.take (psI a.at_ Q.T) ++ a.at_ :: Q.T.drop (psI a.at_ Q.T) := by show (if _ then _ else _) = _; rw [hnil]; rfl
    have hG2 : (Q.T.drop (psI a.at_ Q.T)).flatMap (Q.add a).G = (Q.T.drop (psI a.at_ Q.T)).flatMap Q.G := fm_congr fun t ht => if_neg fun e => hm (by rw [← e]; exact List.mem_of_mem_drop ht)
    refine ⟨(Q.T.take (psI a.at_ Q.T)).flatMap Q.G, (Q.T.drop (psI a.at_ Q.T)).flatMap Q.G, ?_, ?_, fun x hx => ?_, fun x hx => ?_⟩
    · show Q.T.flatMap Q.G = _
      rw [← List.flatMap_append, ← e]
    · show (Q.add a).T.flatMap (Q.add a).G = _
      rw [hT, List.flatMap_append, List.flatMap_cons, hG1, hG2, hGt, hnil]
      rfl
    · have := h1 _ (fm_mem h hx); omega
    · have h4 := fm_mem h hx
      have h5 := h2 _ h4
      have : x.at_ ≠ a.at_ := fun e => hm (e ▸ List.mem_of_mem_drop h4)
      omega
theorem add_memT {Q : Sq} (a : Ar) (h : Okq Q) (t : Int) : t ∈ (Q.add a).T ↔ t = a.at_ ∨ t ∈ Q.T := by
  show t ∈ (if _ then _ else _) ↔ _
  by_cases hq : (Q.G a.at_).isEmpty = true
  · rw [if_pos hq]
    conv => rhs; rw [(List.take_append_drop (psI a.at_ Q.T) Q.T).symm]
    simp only [List.mem_append, List.mem_cons]
    constructor
    · rintro (h | h | h)
      · exact .inr (.inl h)
      · exact .inl h
      · exact .inr (.inr h)
    · rintro (h | h | h)
      · exact .inr (.inl h)
      · exact .inl h
      · exact .inr (.inr h)
  · rw [if_neg hq]
    have : a.at_ ∈ Q.T := (h.mem _).2 fun e => hq (by rw [e]; rfl)
    exact ⟨.inr, fun k => k.elim (fun e => e ▸ this) id⟩
theorem Okq.add {Q : Sq} (h : Okq Q) (a : Ar) : Okq (Q.add a) := by
  refine ⟨?_, fun t => ?_, fun t x hx => ?_, ?_⟩
  · show List.Pairwise _ (if _ then _ else _)
    by_cases hq : (Q.G a.at_).isEmpty = true
    · rw [if_pos hq]
      have hm : a.at_ ∉ Q.T := fun e => (h.mem _).1 e (by simpa using hq)
      have h0 := h.asc
      rw [(List.take_append_drop (psI a.at_ Q.T) Q.T).symm] at h0
      obtain ⟨p1, p2, p3⟩ := List.pairwise_append.1 h0
      have q1 := psI_take a.at_ Q.T
      have q2 := psI_drop a.at_ Q.T h.asc
      refine List.pairwise_append.2 ⟨p1, List.pairwise_cons.2 ⟨fun y hy => ?_, p2⟩, fun x hx y hy => ?_⟩
      · have := q2 y hy
        have : y ≠ a.at_ := fun e => hm (e ▸ List.mem_of_mem_drop hy)
        omega
      · rcases List.mem_cons.1 hy with rfl | hy
        · exact q1 x hx
        · exact p3 x hx y hy
    · rw [if_neg hq]; exact h.asc
  · rw [add_memT a h]
    show _ ↔ (if _ then _ else _) ≠ []
    by_cases ht : t = a.at_
    · rw [if_pos ht]; simp [ht]
    · rw [if_neg ht, ← h.mem]; simp [ht]
  · have hx : x ∈ (if t = a.at_ then Q.G a.at_ ++ [a] else Q.G t) := hx
    by_cases ht : t = a.at_
    · rw [if_pos ht] at hx
      rcases List.mem_append.1 hx with hx | hx
      · rw [ht]; exact h.at_ _ x hx
      · rw [List.mem_singleton.1 hx, ht]
    · rw [if_neg ht] at hx; exact h.at_ t x hx
  · obtain ⟨F1, F2, e1, e2, -⟩ := add_fl h a
    rw [e2]
    show Q.n + 1 = _
    rw [h.cnt, e1]; simp; omega
/-- What is left of the times behind the first. -/
def Sq.pop (Q : Sq) (t : Int) (T : List Int) : Sq := ⟨T, fun u => if u = t then [] else Q.G u, Q.n - (Q.G t).length⟩
theorem len_G {Q : Sq} (h : Okq Q) (t : Int) : (Q.G t).length ≤ Q.n := by
  by_cases ht : t ∈ Q.T
  · rw [h.cnt]
    show _ ≤ (Q.T.flatMap Q.G).length
    have : ∀ l : List Int, t ∈ l → (Q.G t).length ≤ (l.flatMap Q.G).length := fun l => by
      induction l with
      | nil => intro h; cases h
      | cons x l ih =>
        intro hl
        rw [List.flatMap_cons, List.length_append]
        rcases List.mem_cons.1 hl with rfl | hl
        · omega
        · have := ih hl; omega
    exact this _ ht
  · have : Q.G t = [] := by
      cases hq : Q.G t with
      | nil => rfl
      | cons _ _ => exact absurd ((h.mem t).2 (by rw [hq]; simp)) ht
    rw [this]; exact Nat.zero_le _
theorem len_T {Q : Sq} (h : Okq Q) : Q.T.length ≤ Q.n := by
  rw [h.cnt]
  show _ ≤ (Q.T.flatMap Q.G).length
  have : ∀ l : List Int, (∀ t ∈ l, t ∈ Q.T) → l.length ≤ (l.flatMap Q.G).length := fun l => by
    induction l with
    | nil => intro _; exact Nat.le_refl _
    | cons x l ih =>
      intro hl
      rw [List.flatMap_cons, List.length_append, List.length_cons]
      have h1 := ih fun t ht => hl t (List.mem_cons_of_mem _ ht)
      have h2 := (h.mem x).1 (hl x (List.mem_cons_self ..))
      have h3 : 0 < (Q.G x).length := List.length_pos_iff.2 h2
      omega
  exact this _ fun _ h => h
theorem Okq.pop {Q : Sq} (h : Okq Q) {t : Int} {T : List Int} (hT : Q.T = t :: T) : Okq (Q.pop t T) ∧ Q.fl = Q.G t ++ (Q.pop t T).fl := by
  have h0 := h.asc
  rw [hT] at h0
  obtain ⟨p1, p2⟩ := List.pairwise_cons.1 h0
  have hG : T.flatMap (Q.pop t T).G = T.flatMap Q.G := fm_congr fun u hu => if_neg (by have := p1 u hu; omega)
  have hfl : Q.fl = Q.G t ++ (Q.pop t T).fl := by
    show Q.T.flatMap Q.G = _
    rw [hT, List.flatMap_cons, ← hG]; rfl
  refine ⟨⟨p2, fun u => ?_, fun u x hx => ?_, ?_⟩, hfl⟩
  · show u ∈ T ↔ (if _ then _ else _) ≠ []
    by_cases hu : u = t
    · rw [if_pos hu]; simp; intro e; have := p1 u e; omega
    · rw [if_neg hu, ← h.mem, hT]; simp [hu]
  · have hx : x ∈ (if u = t then [] else Q.G u) := hx
    by_cases hu : u = t
    · rw [if_pos hu] at hx; cases hx
    · rw [if_neg hu] at hx; exact h.at_ u x hx
  · show Q.n - _ = _
    rw [h.cnt, hfl]; simp
/-- The arrivals are in the order of their times. -/
theorem fl_sorted {Q : Sq} (h : Okq Q) : Q.fl.Pairwise fun x y => x.at_ ≤ y.at_ := by
  have : ∀ l : List Int, l.Pairwise (· < ·) → (l.flatMap Q.G).Pairwise fun x y => x.at_ ≤ y.at_ := fun l => by
    induction l with
    | nil => intro _; exact List.Pairwise.nil
    | cons t l ih =>
      intro hl
      obtain ⟨p1, p2⟩ := List.pairwise_cons.1 hl
      rw [List.flatMap_cons]
      refine List.pairwise_append.2 ⟨List.pairwise_iff_forall_sublist.2 fun {x y} hs => ?_, ih p2, fun x hx y hy => ?_⟩
      · rw [h.at_ t x (hs.subset (by simp)), h.at_ t y (hs.subset (by simp))]; exact Int.le_refl _
      · have := p1 _ (fm_mem h hy)
        rw [h.at_ t x hx]; omega
  exact this _ h.asc
end Go.Proofs.Ytndidbanbklonaa

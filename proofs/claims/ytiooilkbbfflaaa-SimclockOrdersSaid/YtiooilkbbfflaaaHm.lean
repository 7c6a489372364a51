import Derived.Test.YtiooilkbbfflaaaHi
/-
  Timers in firing order, and what fires up to a time: mathematics. No conditions beyond those that each names.
-/
namespace Go.Proofs.Ytiooilkbbfflaaa
/-- Firing order. -/
def ltT (a b : Tm) : Prop := a.at_ < b.at_ ∨ (a.at_ = b.at_ ∧ a.id < b.id)
theorem cT_lt {x y : Tm} : cT x y < 0 ↔ ltT x y := by
  unfold cT ltT
  rcases Nat.lt_trichotomy x.at_ y.at_ with h | h | h
  · rw [sg_lt (show (x.at_ : Int) < y.at_ by omega)]; simp [orI, h]
  · rw [h, sg_eq]
    rcases Nat.lt_trichotomy x.id y.id with h2 | h2 | h2
    · rw [sg_lt (show (x.id : Int) < y.id by omega)]; simp [orI, h2]
    · rw [h2, sg_eq]; simp [orI]
    · rw [sg_gt (show (y.id : Int) < x.id by omega)]; simp [orI]; omega
  · rw [sg_gt (show (y.at_ : Int) < x.at_ by omega)]; simp [orI]; omega
theorem ltT_trans {a b c : Tm} (h : ltT a b) (k : ltT b c) : ltT a c := by unfold ltT at *; omega
theorem ltT_irrefl (a : Tm) : ¬ ltT a a := by unfold ltT; omega
theorem ltT_tri {a b : Tm} (h : a.id ≠ b.id) : ltT a b ∨ ltT b a := by unfold ltT; omega
/-- Timers that stand as they must. -/
structure Iv (l : List Tm) : Prop where
  sq : l.Pairwise ltT
  nd : (l.map Tm.id).Nodup
  hat : ∀ x ∈ l, x.at_ ≤ 2199023255552
  hper : ∀ x ∈ l, x.per ≤ 1099511627776
  hid : ∀ x ∈ l, x.id ≤ 1000000
theorem Iv.nil : Iv [] := ⟨List.Pairwise.nil, List.nodup_nil, fun _ h => by simp at h, fun _ h => by simp at h, fun _ h => by simp at h⟩
theorem sq_get {l : List Tm} (h : l.Pairwise ltT) {a b : Nat} (ha : a < l.length) (hb : b < l.length) (hab : a < b) : ltT (l[a]'ha) (l[b]'hb) := (List.pairwise_iff_getElem.1 h) a b ha hb hab
theorem sq_mono {l : List Tm} (h : l.Pairwise ltT) (x : Tm) (a b : Nat) (ha : a < l.length) (hb : b < l.length) (hab : a ≤ b) (hx : cT (l[b]'hb) x < 0) : cT (l[a]'ha) x < 0 := by
  rcases Nat.lt_or_ge a b with h1 | h1
  · rw [cT_lt] at hx ⊢
    exact ltT_trans (sq_get h ha hb h1) hx
  · obtain rfl : a = b := by omega
    exact hx
theorem ps_take (t : Tm) : ∀ (l : List Tm), ∀ x ∈ l.take (ps t l), cT x t < 0
  | [], x, h => by simp [ps] at h
  | y :: l, x, h => by
    unfold ps at h
    by_cases hy : cT y t < 0
    · rw [if_pos hy, List.take_succ_cons, List.mem_cons] at h
      rcases h with rfl | h
      · exact hy
      · exact ps_take t l x h
    · rw [if_neg hy] at h; simp at h
theorem ps_drop (t : Tm) : ∀ (l : List Tm), l.Pairwise ltT → ∀ x ∈ l.drop (ps t l), ¬ cT x t < 0
  | [], _, x, h => by simp at h
  | y :: l, hp, x, h => by
    rw [List.pairwise_cons] at hp
    unfold ps at h
    by_cases hy : cT y t < 0
    · rw [if_pos hy, List.drop_succ_cons] at h
      exact ps_drop t l hp.2 x h
    · rw [if_neg hy, List.drop_zero, List.mem_cons] at h
      rcases h with rfl | h
      · exact hy
      · intro hx
        rw [cT_lt] at hy hx
        exact hy (ltT_trans (hp.1 x h) hx)
theorem ins_perm (t : Tm) (l : List Tm) : (ins t l).Perm (t :: l) := by
  unfold ins
  have := List.perm_middle (a := t) (l₁ := l.take (ps t l)) (l₂ := l.drop (ps t l))
  rwa [List.take_append_drop] at this
theorem ins_mem {t : Tm} {l : List Tm} {x : Tm} : x ∈ ins t l ↔ x = t ∨ x ∈ l := by rw [(ins_perm t l).mem_iff, List.mem_cons]
theorem ins_sq {t : Tm} {l : List Tm} (h : l.Pairwise ltT) (hn : ∀ y ∈ l, y.id ≠ t.id) : (ins t l).Pairwise ltT := by
  have h0 : l.take (ps t l) ++ l.drop (ps t l) = l := List.take_append_drop _ _
  have h1 : (l.take (ps t l) ++ l.drop (ps t l)).Pairwise ltT := by rw [h0]; exact h
  rw [List.pairwise_append] at h1
  have hd : ∀ x ∈ l.drop (ps t l), ltT t x := fun x hx => by
    have := ps_drop t l h x hx
    rw [cT_lt] at this
    rcases ltT_tri (hn x (List.mem_of_mem_drop hx)) with k | k
    · exact absurd k this
    · exact k
  unfold ins
  rw [List.pairwise_append]
  refine ⟨h1.1, List.pairwise_cons.2 ⟨hd, h1.2.1⟩, fun a ha b hb => ?_⟩
  rcases List.mem_cons.1 hb with rfl | hb
  · exact cT_lt.1 (ps_take b l a ha)
  · exact h1.2.2 a ha b hb
theorem Iv.tail {x : Tm} {l : List Tm} (h : Iv (x :: l)) : Iv l :=
  ⟨(List.pairwise_cons.1 h.sq).2, (List.nodup_cons.1 h.nd).2, fun y hy => h.hat y (List.mem_cons_of_mem _ hy), fun y hy => h.hper y (List.mem_cons_of_mem _ hy), fun y hy => h.hid y (List.mem_cons_of_mem _ hy)⟩
theorem Iv.ins {t : Tm} {l : List Tm} (h : Iv l) (hn : ∀ y ∈ l, y.id ≠ t.id) (h1 : t.at_ ≤ 2199023255552) (h2 : t.per ≤ 1099511627776) (h3 : t.id ≤ 1000000) : Iv (ins t l) := by
  refine ⟨ins_sq h.sq hn, ?_, fun x hx => ?_, fun x hx => ?_, fun x hx => ?_⟩
  · rw [((ins_perm t l).map Tm.id).nodup_iff, List.map_cons, List.nodup_cons]
    refine ⟨fun hm => ?_, h.nd⟩
    obtain ⟨y, hy, e⟩ := List.mem_map.1 hm
    exact hn y hy e
  · rcases ins_mem.1 hx with rfl | hx
    · exact h1
    · exact h.hat x hx
  · rcases ins_mem.1 hx with rfl | hx
    · exact h2
    · exact h.hper x hx
  · rcases ins_mem.1 hx with rfl | hx
    · exact h3
    · exact h.hid x hx
theorem Iv.head_ne {x : Tm} {l : List Tm} (h : Iv (x :: l)) : ∀ y ∈ l, y.id ≠ x.id := fun y hy e => (List.nodup_cons.1 h.nd).1 (List.mem_map.2 ⟨y, hy, e⟩)
/-- The timers behind a firing of the first. -/
def nxt (x : Tm) (l : List Tm) : List Tm := if 0 < x.per then ins ⟨x.id, x.at_ + x.per, x.per⟩ l else l
theorem Iv.nxt {x : Tm} {l : List Tm} (h : Iv (x :: l)) (hx : x.at_ ≤ 1099511627776) : Iv (nxt x l) := by
  unfold Go.Proofs.Ytiooilkbbfflaaa.nxt
  have hp := h.hper x (List.mem_cons_self ..)
  have hi := h.hid x (List.mem_cons_self ..)
  split
  · exact h.tail.ins h.head_ne (by show x.at_ + x.per ≤ _; omega) hp hi
  · exact h.tail
theorem nxt_len (x : Tm) (l : List Tm) : (nxt x l).length ≤ l.length + 1 := by
  unfold nxt
  split
  · rw [ins_len]; exact Nat.le_refl _
  · omega
/-- What fires up to a time: the firings and the timers behind them; none if there are too many. -/
def fr (u : Nat) : Nat → List (Nat × Nat) → List Tm → Option (List (Nat × Nat) × List Tm)
  | _, acc, [] => some (acc, [])
  | 0, acc, x :: l => if u < x.at_ then some (acc, x :: l) else none
  | f + 1, acc, x :: l => if u < x.at_ then some (acc, x :: l) else fr u f (acc ++ [(x.id, x.at_)]) (nxt x l)
theorem fr_nil (u f : Nat) (acc : List (Nat × Nat)) : fr u f acc [] = some (acc, []) := by cases f <;> rfl
theorem fr_stop {u f : Nat} {acc : List (Nat × Nat)} {x : Tm} {l : List Tm} (h : u < x.at_) : fr u f acc (x :: l) = some (acc, x :: l) := by
  cases f <;> (unfold fr; rw [if_pos h])
theorem fr_long {u : Nat} {acc : List (Nat × Nat)} {x : Tm} {l : List Tm} (h : x.at_ ≤ u) : fr u 0 acc (x :: l) = none := by
  unfold fr; rw [if_neg (by omega)]
theorem fr_step {u f : Nat} {acc : List (Nat × Nat)} {x : Tm} {l : List Tm} (h : x.at_ ≤ u) : fr u (f + 1) acc (x :: l) = fr u f (acc ++ [(x.id, x.at_)]) (nxt x l) := by
  rw [fr, if_neg (by omega)]
theorem fr_iv {u : Nat} (ht : u ≤ 1099511627776) : ∀ {f : Nat} {acc : List (Nat × Nat)} {l : List Tm} {r : List (Nat × Nat) × List Tm}, Iv l → fr u f acc l = some r → Iv r.2 ∧ ∀ x ∈ r.2, u < x.at_
  | f, acc, [], r, h, e => by rw [fr_nil] at e; injection e with e; subst e; exact ⟨h, fun x hx => by simp at hx⟩
  | f, acc, x :: l, r, h, e => by
    by_cases hx : u < x.at_
    · rw [fr_stop hx] at e; injection e with e; subst e
      refine ⟨h, fun y hy => ?_⟩
      rcases List.mem_cons.1 hy with rfl | hy
      · exact hx
      · have := (List.pairwise_cons.1 h.sq).1 y hy
        unfold ltT at this; omega
    · cases f with
      | zero => rw [fr_long (by omega)] at e; cases e
      | succ f => rw [fr_step (by omega)] at e; exact fr_iv ht (h.nxt (by omega)) e
end Go.Proofs.Ytiooilkbbfflaaa

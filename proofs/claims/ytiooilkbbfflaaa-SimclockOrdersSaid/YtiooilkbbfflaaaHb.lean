import Derived.Test.YtiooilkbbfflaaaHa
/-
  Timers as data; rows of timers and of firings that a call owns; append. No conditions beyond those that each names.
-/
namespace Go.Proofs.Ytiooilkbbfflaaa
open Go.RowKit Go.Shelf
/-- A timer: its number, its next firing, its period. -/
structure Tm where
  id : Nat
  at_ : Nat
  per : Nat
def e3 (x : Tm) : List Value := [.int .i64 (x.id : Int), .int .i64 (x.at_ : Int), .int .i64 (x.per : Int)]
/-- A firing: number and time. -/
def e2 (x : Nat × Nat) : List Value := [.int .i64 (x.1 : Int), .int .i64 (x.2 : Int)]
/-- The cells of a row. -/
def tc {α : Type} (enc : α → List Value) (l : List α) : List Value := l.flatMap enc
theorem tc_nil {α : Type} (enc : α → List Value) : tc enc [] = [] := rfl
theorem tc_cons {α : Type} (enc : α → List Value) (x : α) (l : List α) : tc enc (x :: l) = enc x ++ tc enc l := rfl
theorem tc_app {α : Type} (enc : α → List Value) (l m : List α) : tc enc (l ++ m) = tc enc l ++ tc enc m := by simp [tc]
theorem tc_one {α : Type} (enc : α → List Value) (x : α) : tc enc [x] = enc x := by simp [tc]
theorem tc_len {α : Type} {enc : α → List Value} {z : Nat} (hz : ∀ x, (enc x).length = z) : ∀ l : List α, (tc enc l).length = l.length * z
  | [] => by simp [tc]
  | x :: l => by rw [tc_cons, List.length_append, hz, tc_len hz l, List.length_cons, Nat.add_mul, Nat.one_mul, Nat.add_comm]
theorem tc_take {α : Type} {enc : α → List Value} {z : Nat} (hz : ∀ x, (enc x).length = z) (l : List α) (i : Nat) (hi : i ≤ l.length) : (tc enc l).take (i * z) = tc enc (l.take i) := by
  have h1 : (tc enc (l.take i)).length = i * z := by rw [tc_len hz, List.length_take, Nat.min_eq_left hi]
  have e : tc enc l = tc enc (l.take i) ++ tc enc (l.drop i) := by rw [← tc_app, List.take_append_drop]
  rw [e, ← h1, List.take_left]
theorem tc_drop {α : Type} {enc : α → List Value} {z : Nat} (hz : ∀ x, (enc x).length = z) (l : List α) (i : Nat) (hi : i ≤ l.length) : (tc enc l).drop (i * z) = tc enc (l.drop i) := by
  have h1 : (tc enc (l.take i)).length = i * z := by rw [tc_len hz, List.length_take, Nat.min_eq_left hi]
  have e : tc enc l = tc enc (l.take i) ++ tc enc (l.drop i) := by rw [← tc_app, List.take_append_drop]
  rw [e, ← h1, List.drop_left]
theorem tc_get {α : Type} {enc : α → List Value} {z : Nat} (hz : ∀ x, (enc x).length = z) (l : List α) (i j : Nat) (hi : i < l.length) (hj : j < z) : (tc enc l)[i * z + j]? = (enc (l[i]'hi))[j]? := by
  have h1 : ((tc enc l).drop (i * z))[j]? = (enc (l[i]'hi))[j]? := by
    rw [tc_drop hz l i (by omega), List.drop_eq_getElem_cons hi, tc_cons, List.getElem?_append_left (by rw [hz]; exact hj)]
  rw [List.getElem?_drop] at h1
  exact h1
theorem tc_one' {α : Type} {enc : α → List Value} (hz : ∀ x (u : Value), u ∈ enc x → u.oneCell' = true) (l : List α) : ∀ u ∈ tc enc l, u.oneCell' = true := fun u hu => by
  obtain ⟨x, -, hx⟩ := List.mem_flatMap.1 hu
  exact hz x u hx
theorem e3_len (x : Tm) : (e3 x).length = 3 := rfl
theorem e2_len (x : Nat × Nat) : (e2 x).length = 2 := rfl
theorem e3_one (x : Tm) (u : Value) (h : u ∈ e3 x) : u.oneCell' = true := by
  simp only [e3, List.mem_cons, List.not_mem_nil, or_false] at h
  rcases h with rfl | rfl | rfl <;> rfl
theorem e2_one (x : Nat × Nat) (u : Value) (h : u ∈ e2 x) : u.oneCell' = true := by
  simp only [e2, List.mem_cons, List.not_mem_nil, or_false] at h
  rcases h with rfl | rfl <;> rfl
/-- The slice v owns the timers l. -/
def OwT (B : Nat) (w : World) (v : Value) (l : List Tm) : Prop := w.ownsRow B 74 3 v l.length (tc e3 l)
/-- The slice v owns the firings l. -/
def OwF (B : Nat) (w : World) (v : Value) (l : List (Nat × Nat)) : Prop := w.ownsRow B 49 2 v l.length (tc e2 l)
/-- The same of the reference's firings. -/
def OwR (B : Nat) (w : World) (v : Value) (l : List (Nat × Nat)) : Prop := w.ownsRow B 59 2 v l.length (tc e2 l)
/-- The slice v owns the reference's timers l. -/
def OwE (B : Nat) (w : World) (v : Value) (l : List Tm) : Prop := w.ownsRow B 79 3 v l.length (tc e3 l)
theorem infoT : (Try.prog.info? 74).map (fun i => (i.zero, i.size, i.bytes)) = some (some (.agg #[.int .i64 0, .int .i64 0, .int .i64 0]), 3, 24) := by kernel_rfl
theorem infoF : (Try.prog.info? 49).map (fun i => (i.zero, i.size, i.bytes)) = some (some (.agg #[.int .i64 0, .int .i64 0]), 2, 16) := by kernel_rfl
theorem infoR : (Try.prog.info? 59).map (fun i => (i.zero, i.size, i.bytes)) = some (some (.agg #[.int .i64 0, .int .i64 0]), 2, 16) := by kernel_rfl
theorem infoE : (Try.prog.info? 79).map (fun i => (i.zero, i.size, i.bytes)) = some (some (.agg #[.int .i64 0, .int .i64 0, .int .i64 0]), 3, 24) := by kernel_rfl
/-- Where a slice's row lies behind a call: where it lay, or in new memory. -/
def NB (w : World) (v v' : Value) : Prop := v'.ownBlock = v.ownBlock ∨ ∃ g, v'.ownBlock = some g ∧ w.heap.size ≤ g
theorem NB.of {w : World} {v v' : Value} (h : v'.ownBlock = v.ownBlock ∨ v'.ownBlock = some w.heap.size) : NB w v v' := h.imp id fun h => ⟨_, h, Nat.le_refl _⟩
theorem NB.trans {w w1 : World} {v v1 v2 : Value} (h : NB w v v1) (hs : w.heap.size ≤ w1.heap.size) (k : NB w1 v1 v2) : NB w v v2 := by
  rcases k with k | ⟨g, k1, k2⟩
  · rcases h with h | ⟨g, h1, h2⟩
    · exact .inl (k.trans h)
    · exact .inr ⟨g, k.trans h1, h2⟩
  · exact .inr ⟨g, k1, Nat.le_trans hs k2⟩
theorem own_nil_or {w : World} {B : Nat} {e : TypeId} {z n : Nat} {v : Value} {xs : List Value} (h : w.ownsRow B e z v n xs) : ∃ A c, v = .slice A n c ∧ (A = none ∧ c = 0 ∧ n = 0 ∨ ∃ g, A = some ⟨g, 0, none⟩ ∧ B ≤ g ∧ g < w.heap.size ∧ n ≤ c) := by
  rcases h.2 with ⟨h1, h2⟩ | ⟨g, cap, cur, h1, h2, h3, h4, -⟩
  · subst h2; exact ⟨_, _, h1, .inl ⟨rfl, rfl, rfl⟩⟩
  · exact ⟨_, _, h1, .inr ⟨g, rfl, h2, (Array.getElem?_eq_some_iff.1 h3).1, h4⟩⟩
/-- The cells of an element. -/
theorem own_cells {α : Type} {enc : α → List Value} {z : Nat} (hz : ∀ x, (enc x).length = z) {w : World} {B : Nat} {e : TypeId} {l : List α} {g c : Nat} (h : w.ownsRow B e z (.slice (some ⟨g, 0, none⟩) l.length c) l.length (tc enc l)) (i : Nat) (hi : i < l.length) (j : Nat) (v : Value) (hv : (enc (l[i]'hi))[j]? = some v) : w.cell? ⟨g, i * z + j, none⟩ = some v := by
  have hj : j < z := by have := (List.getElem?_eq_some_iff.1 hv).1; rw [hz] at this; exact this
  have h1 := h.cells (g := g) rfl (i * z + j) v (by rw [tc_get hz l i j hi hj]; exact hv)
  rw [show (⟨g, 0, none⟩ : Addr).add (i * z + j) = ⟨g, i * z + j, none⟩ by unfold Addr.add; split <;> simp_all] at h1
  exact h1
end Go.Proofs.Ytiooilkbbfflaaa

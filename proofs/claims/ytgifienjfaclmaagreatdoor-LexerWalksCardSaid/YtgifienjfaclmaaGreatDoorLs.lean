/-
  The reference's scan of a text that is too long; lists of tokens in memory; Same. No conditions but Go's own bounds.
-/
import Derived.Test.YtgifienjfaclmaaGreatDoorLq
import Derived.BigQuiet
namespace Go.Proofs.YtgifienjfaclmaaGreatDoor
open Go.RowKit
set_option maxRecDepth 100000 in
theorem refScan_long (l : List UInt8) (w : World) (hl : 4000 < l.length) (hl2 : l.length ≤ 9223372036854775807) :
    Calls Tryz.prog 17 #[.string (bs l)] w (ScanP (scan l) w) := by
  have hsz : (bs l).size = l.length := rfl
  have H := Lib.hid (show scan l = .error (3, 0) by unfold scan; rw [if_pos hl])
  have d1 : decide ((4000 : Int) < (l.length : Int)) = true := by simp; omega
  go_enter Tryz.func17, Tryz.ntmps17
  go_wp2_with fail
  go_ret3
  exact ScanP.err H.out (Below.refl _ w)
theorem scan_any (l : List UInt8) (w : World) (hl2 : l.length ≤ 9223372036854775807) :
    Calls Tryz.prog 17 #[.string (bs l)] w (ScanP (scan l) w) := by
  by_cases h : 4000 < l.length
  · exact refScan_long l w h hl2
  · exact refScan_any l w (by omega)
/-- The elements of the slice at A are the tokens l. -/
def Tr (w : World) (A : Option Addr) (l : List Tk) : Prop := l.length = 0 ∨ ∃ a : Addr, A = some a ∧ a.block < w.heap.size ∧ ∀ i (h : i < l.length),
  w.cell? ((a.add (i * 4)).add 0) = some (.int .i64 ((l[i]'h).kind : Int)) ∧ w.cell? ((a.add (i * 4)).add 1) = some (.string (bs (l[i]'h).text)) ∧ w.cell? ((a.add (i * 4)).add 2) = some (.int .i64 (l[i]'h).num) ∧ w.cell? ((a.add (i * 4)).add 3) = some (.int .i64 ((l[i]'h).at_ : Int))
theorem Tr.next {w w' : World} {A : Option Addr} {l : List Tk} (h : Tr w A l) (hb : Below w.heap.size w w') : Tr w' A l := by
  rcases h with h | ⟨a, h1, h2, h3⟩
  · exact .inl h
  · refine .inr ⟨a, h1, by have := hb.size; omega, fun i hi => ?_⟩
    obtain ⟨c0, c1, c2, c3⟩ := h3 i hi
    have ad : ∀ j, ((a.add (i * 4)).add j).block < w.heap.size := fun j => by rw [add_block, add_block]; exact h2
    exact ⟨(hb.cell (ad 0)).trans c0, (hb.cell (ad 1)).trans c1, (hb.cell (ad 2)).trans c2, (hb.cell (ad 3)).trans c3⟩
theorem tcells_at (l : List Tk) (i j : Nat) (h : i < l.length) (hj : j < 4) : (tcells l)[i * 4 + j]? = (tc (l[i]'h))[j]? := by
  induction l generalizing i with
  | nil => simp at h
  | cons t l ih =>
    have e : tcells (t :: l) = tc t ++ tcells l := by simp [tcells]
    have h4 : (tc t).length = 4 := rfl
    rw [e]
    cases i with
    | zero => rw [List.getElem?_append_left (by omega)]; simp
    | succ i =>
      rw [List.getElem?_append_right (by omega), h4, show (i + 1) * 4 + j - 4 = i * 4 + j by omega]
      exact ih i (by simpa using h)
theorem plain_add (g o k : Nat) : (⟨g, o, none⟩ : Addr).add k = ⟨g, o + k, none⟩ := by
  by_cases h : k = 0
  · subst h; rfl
  · simp [Addr.add, h]
theorem Ot.tr {B : Nat} {w : World} {v : Value} {l : List Tk} (h : Ot B w v l) : ∃ A c, v = .slice A l.length c ∧ l.length ≤ 9223372036854775807 ∧ Tr w A l := by
  obtain ⟨h0, h⟩ := h
  rcases h with ⟨rfl, hn⟩ | ⟨g, cap, cur, rfl, hB, hg, h1, h2, h3, h4⟩
  · exact ⟨none, 0, by rw [hn], by omega, .inl hn⟩
  · refine ⟨_, _, rfl, by simp only [maxLen] at h2; omega, .inr ⟨_, rfl, (Array.getElem?_eq_some_iff.1 hg).1, fun i hi => ?_⟩⟩
    have key : ∀ j, j < 4 → w.cell? (((⟨g, 0, none⟩ : Addr).add (i * 4)).add j) = (tc (l[i]'hi))[j]? := fun j hj => by
      rw [← tcells_at l i j hi hj, ← h4, List.getElem?_take_of_lt (by omega)]
      rw [show ((⟨g, 0, none⟩ : Addr).add (i * 4)).add j = ⟨g, i * 4 + j, none⟩ by rw [plain_add, plain_add, Nat.zero_add]]
      simp [World.cell?, hg]
    exact ⟨key 0 (by decide), key 1 (by decide), key 2 (by decide), key 3 (by decide)⟩
end Go.Proofs.YtgifienjfaclmaaGreatDoor

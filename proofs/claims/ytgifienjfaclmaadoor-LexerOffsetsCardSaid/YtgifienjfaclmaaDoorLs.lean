/-
  The reference's scan of a text that is too long; lists of tokens in memory; Same. No conditions but Go's own bounds.
-/
import Derived.Test.YtgifienjfaclmaaDoorLq
import Derived.BigQuiet
namespace Go.Proofs.YtgifienjfaclmaaDoor
open Go.RowKit
set_option maxRecDepth 100000 in
theorem refScan_long (l : List UInt8) (w : World) (hl : 4000 < l.length) (hl2 : l.length ≤ 9223372036854775807) :
    Calls Tryd.prog 8 #[.string (bs l)] w (ScanP (scan l) w) := by
  have hsz : (bs l).size = l.length := rfl
  have H := Lib.hid (show scan l = .error (3, 0) by unfold scan; rw [if_pos hl])
  have d1 : decide ((4000 : Int) < (l.length : Int)) = true := by simp; omega
  go_enter Tryd.func8, Tryd.ntmps8
  go_wp2_with fail
  go_ret3
  exact ScanP.err H.out (Below.refl _ w)
theorem scan_any (l : List UInt8) (w : World) (hl2 : l.length ≤ 9223372036854775807) :
    Calls Tryd.prog 8 #[.string (bs l)] w (ScanP (scan l) w) := by
  by_cases h : 4000 < l.length
  · exact refScan_long l w h hl2
  · exact refScan_any l w (by omega)
/-- The elements of the slice at A are the tokens l. -/
def Tr (w : World) (A : Option Addr) (l : List Tk) : Prop := l.length = 0 ∨ ∃ a : Addr, A = some a ∧ a.block < w.heap.size ∧ ∀ i (h : i < l.length),
  w.cell? ((a.add (i * 4)).add 0) = some (.int .i64 ((l[i]'h).kind : Int)) ∧ w.cell? ((a.add (i * 4)).add 1) = some (.string (bs (l[i]'h).text)) ∧ w.cell? ((a.add (i * 4)).add 2) = some (.int .i64 (l[i]'h).num) ∧ w.cell? ((a.add (i * 4)).add 3) = some (.int .i64 ((l[i]'h).at_ : Int))
theorem Tr.next {w w' : World} {A : Option Addr} {l : List Tk} (h : Tr w A l) (hb : Below w.heap.size w w') : Tr w' A l := by
  rcases h with h | ⟨a, h1, h2, h3⟩
  · exact .inl h
  · refine .inr ⟨a, h1, by have := hb.size; omega, fun i hi => ?_⟩
    obtain ⟨c0, c1, c2, c3⟩ := h3 i hi
    have ad : ∀ j, ((a.add (i * 4)).add j).block < w.heap.size := fun j => by rw [add_block, add_block]; exact h2
    exact ⟨(hb.cell (ad 0)).trans c0, (hb.cell (ad 1)).trans c1, (hb.cell (ad 2)).trans c2, (hb.cell (ad 3)).trans c3⟩
theorem tcells_at (l : List Tk) (i j : Nat) (h : i < l.length) (hj : j < 4) : (tcells l)[i * 4 + j]? = (tc (l[i]'h))[j]? := by
  induction l generalizing i with
  | nil => simp at h
  | cons t l ih =>
    have e : tcells (t :: l) = tc t ++ tcells l := by simp [tcells]
    have h4 : (tc t).length = 4 := rfl
    rw [e]
    cases i with
    | zero => rw [List.getElem?_append_left (by omega)]; simp
    | succ i =>
      rw [List.getElem?_append_right (by omega), h4, show (i + 1) * 4 + j - 4 = i * 4 + j by omega]
      exact ih i (by simpa using h)
theorem plain_add (g o k : Nat) : (⟨g, o, none⟩ : Addr).add k = ⟨g, o + k, none⟩ := by
  by_cases h : k = 0
  · subst h; rfl
  · simp [Addr.add, h]
theorem Ot.tr {B : Nat} {w : World} {v : Value} {l : List Tk} (h : Ot B w v l) : ∃ A c, v = .slice A l.length c ∧ l.length ≤ 9223372036854775807 ∧ Tr w A l := by
  obtain ⟨h0, h⟩ := h
  rcases h with ⟨rfl, hn⟩ | ⟨g, cap, cur, rfl, hB, hg, h1, h2, h3, h4⟩
  · exact ⟨none, 0, by rw [hn], by omega, .inl hn⟩
  · refine ⟨_, _, rfl, by simp only [maxLen] at h2; omega, .inr ⟨_, rfl, (Array.getElem?_eq_some_iff.1 hg).1, fun i hi => ?_⟩⟩
    have key : ∀ j, j < 4 → w.cell? (((⟨g, 0, none⟩ : Addr).add (i * 4)).add j) = (tc (l[i]'hi))[j]? := fun j hj => by
      rw [← tcells_at l i j hi hj, ← h4, List.getElem?_take_of_lt (by omega)]
      rw [show ((⟨g, 0, none⟩ : Addr).add (i * 4)).add j = ⟨g, i * 4 + j, none⟩ by rw [plain_add, plain_add, Nat.zero_add]]
      simp [World.cell?, hg]
    exact ⟨key 0 (by decide), key 1 (by decide), key 2 (by decide), key 3 (by decide)⟩
set_option maxRecDepth 100000 in
set_option maxHeartbeats 2000000 in
theorem same_any (A A' : Option Addr) (c c' : Nat) (l : List Tk) (w : World) (hn : l.length ≤ 100000) (hA : Tr w A l) (hA' : Tr w A' l) :
    Calls Tryd.prog 9 #[.slice A l.length c, .slice A' l.length c'] w (Ib (.bool true) w) := by
  have HA := Lib.hid hA
  have HA' := Lib.hid hA'
  clear hA hA'
  obtain ⟨n, hn2⟩ : ∃ n, l.length = n := ⟨_, rfl⟩
  rw [hn2] at hn ⊢
  go_enter Tryd.func9, Tryd.ntmps9
  go_wp2_with fail
  go_loopw [5] (fun v wr => ∃ (i : Nat), i ≤ n ∧ v = .int .i64 (i : Int) ∧ Below w.heap.size w wr) (fun v _ => n - (intOf v).toNat)
  case atStart => exact ⟨0, by omega, rfl, Below.refl _ _⟩
  case round =>
    obtain ⟨i, hi, rfl, hb⟩ := hrel
    by_cases hin : i < n
    · rcases HA.out with h0 | ⟨a, rfl, hab, hc⟩
      · omega
      rcases HA'.out with h0 | ⟨a', rfl, hab', hc'⟩
      · omega
      obtain ⟨c0, c1, c2, c3⟩ := hc i (by omega)
      obtain ⟨d0, d1, d2, d3⟩ := hc' i (by omega)
      have ad : ∀ (a : Addr) j, ((a.add (i * 4)).add j).block = a.block := fun a j => by rw [add_block, add_block]
      replace c0 := (hb.cell (p := (a.add (i * 4)).add 0) (by rw [ad]; exact hab)).trans c0
      replace c1 := (hb.cell (p := (a.add (i * 4)).add 1) (by rw [ad]; exact hab)).trans c1
      replace c2 := (hb.cell (p := (a.add (i * 4)).add 2) (by rw [ad]; exact hab)).trans c2
      replace c3 := (hb.cell (p := (a.add (i * 4)).add 3) (by rw [ad]; exact hab)).trans c3
      replace d0 := (hb.cell (p := (a'.add (i * 4)).add 0) (by rw [ad]; exact hab')).trans d0
      replace d1 := (hb.cell (p := (a'.add (i * 4)).add 1) (by rw [ad]; exact hab')).trans d1
      replace d2 := (hb.cell (p := (a'.add (i * 4)).add 2) (by rw [ad]; exact hab')).trans d2
      replace d3 := (hb.cell (p := (a'.add (i * 4)).add 3) (by rw [ad]; exact hab')).trans d3
      generalize l[i]'(by omega) = x at c0 c1 c2 c3 d0 d1 d2 d3
      obtain ⟨K, T, N, P⟩ := x
      have c0 : wr.cell? (a.add (i * 4)) = some (.int .i64 (K : Int)) := c0
      have c1 : wr.cell? ⟨(a.add (i * 4)).block, (a.add (i * 4)).off + 1, none⟩ = some (.string (bs T)) := c1
      have c2 : wr.cell? ⟨(a.add (i * 4)).block, (a.add (i * 4)).off + 2, none⟩ = some (.int .i64 N) := c2
      have c3 : wr.cell? ⟨(a.add (i * 4)).block, (a.add (i * 4)).off + 3, none⟩ = some (.int .i64 (P : Int)) := c3
      have d0 : wr.cell? (a'.add (i * 4)) = some (.int .i64 (K : Int)) := d0
      have d1 : wr.cell? ⟨(a'.add (i * 4)).block, (a'.add (i * 4)).off + 1, none⟩ = some (.string (bs T)) := d1
      have d2 : wr.cell? ⟨(a'.add (i * 4)).block, (a'.add (i * 4)).off + 2, none⟩ = some (.int .i64 N) := d2
      have d3 : wr.cell? ⟨(a'.add (i * 4)).block, (a'.add (i * 4)).off + 3, none⟩ = some (.int .i64 (P : Int)) := d3
      obtain ⟨f, hf⟩ : ∃ f, i + 1 = f := ⟨_, rfl⟩
      have l11 : (i : Int) + 1 = (f : Int) := by omega
      clear HA HA' hc hc' hn2
      go_wp2_with fail
      go_quiet (fail)
      go_wp2_with fail
      go_roundw
      case rel => exact ⟨f, by omega, rfl, below_drewN hb _⟩
      case measure => simp [intOf]; omega
    · obtain rfl : i = n := by omega
      clear HA HA' hn2
      go_wp2_with fail
      go_ret
      exact ⟨rfl, hb⟩
end Go.Proofs.YtgifienjfaclmaaDoor

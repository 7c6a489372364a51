/-
  The reference's Print. No conditions but Go's own bounds; at most 60 tokens.
-/
import Derived.Test.YtgifienjfaclmaaGreatDoorLl
namespace Go.Proofs.YtgifienjfaclmaaGreatDoor
open Go.RowKit
def Tv.ok (t : Tv) : Prop := t.text.length ≤ 9223372036854775807 ∧ -9223372036854775808 ≤ t.num ∧ t.num ≤ 9223372036854775807
/-- The elements of the slice at A are the tokens q. -/
def Tvs (w : World) (A : Option Addr) (n : Nat) (q : Nat → Tv) : Prop := n = 0 ∨ ∃ a : Addr, A = some a ∧ a.block < w.heap.size ∧ ∀ i, i < n → (q i).ok ∧
  w.cell? ((a.add (i * 4)).add 0) = some (.int .i64 (q i).kind) ∧ w.cell? ((a.add (i * 4)).add 1) = some (.string (bs (q i).text)) ∧ w.cell? ((a.add (i * 4)).add 2) = some (.int .i64 (q i).num) ∧ w.cell? ((a.add (i * 4)).add 3) = some (.int .i64 (q i).at_)
theorem add_block (a : Addr) (i : Nat) : (a.add i).block = a.block := by unfold Addr.add; split <;> rfl
/-- The first i tokens. -/
def tks (q : Nat → Tv) (i : Nat) : List Tk := (List.range i).map fun j => (q j).tk
theorem tks_succ (q : Nat → Tv) (i : Nat) : tks q (i + 1) = tks q i ++ [(q i).tk] := by simp [tks, List.range_succ]
theorem prs_snoc (s : List UInt8) (l : List Tk) (t : Tk) : prs s (l ++ [t]) = if okT t then (if prs s l = [] then [] else prs s l ++ [32]) ++ pr t else prs s l := by
  induction l generalizing s with
  | nil => simp only [List.nil_append, prs]; rfl
  | cons u l ih =>
    rw [List.cons_append, prs, prs]
    by_cases h : okT u = true
    · rw [if_pos h, if_pos h, ih]
    · rw [if_neg h, if_neg h, ih]
theorem isN_len {l : List UInt8} (h : isN l = true) : l.length ≤ 16 := by
  unfold isN at h
  simp only [Bool.and_eq_true, decide_eq_true_eq] at h
  omega
theorem oneM_len {l : List UInt8} (h : oneM l = true) : l.length = 1 := by
  match l, h with
  | [c], _ => rfl
theorem dec_len (n : Int) (h1 : -9223372036854775808 ≤ n) (h2 : n ≤ 9223372036854775807) : (dec n).length ≤ 21 := by
  have := dg_len n.natAbs 19 (by omega)
  unfold dec
  split
  · simp; omega
  · omega
theorem quo_len (l : List UInt8) : (quo l).length ≤ 2 * l.length + 2 := by
  have := esc_length l
  simp [quo]
  omega
/-- What a valid token is. -/
theorem tv_cases (t : Tv) (h : okT t.tk = true) : (t.kind = 1 ∧ t.text.length ≤ 16 ∧ pr t.tk = t.text) ∨ (t.kind = 2 ∧ pr t.tk = dec t.num) ∨ (t.kind = 3 ∧ t.text.length ≤ 200 ∧ pr t.tk = quo t.text) ∨ (t.kind = 4 ∧ t.text.length ≤ 16 ∧ pr t.tk = t.text) := by
  obtain ⟨k, t, n, a⟩ := t
  by_cases h1 : k = 1
  · subst h1
    rw [okT1, Bool.and_eq_true] at h
    exact .inl ⟨rfl, isN_len h.1, rfl⟩
  by_cases h2 : k = 2
  · subst h2
    exact .inr (.inl ⟨rfl, rfl⟩)
  by_cases h3 : k = 3
  · subst h3
    rw [okT3] at h
    simp only [Bool.and_eq_true, decide_eq_true_eq] at h
    exact .inr (.inr (.inl ⟨rfl, h.1.2, rfl⟩))
  by_cases h4 : k = 4
  · subst h4
    rw [okT4, Bool.and_eq_true] at h
    exact .inr (.inr (.inr ⟨rfl, by have := oneM_len h.1; show t.length ≤ 16; omega, rfl⟩))
  rw [okT0 k t n a h1 h2 h3 h4] at h
  cases h
theorem pr_len (t : Tv) (ho : t.ok) (h : okT t.tk = true) : (pr t.tk).length ≤ 402 := by
  rcases tv_cases t h with ⟨_, h1, h2⟩ | ⟨_, h2⟩ | ⟨_, h1, h2⟩ | ⟨_, h1, h2⟩ <;> rw [h2]
  · omega
  · have := dec_len t.num ho.2.1 ho.2.2; omega
  · have := quo_len t.text; omega
  · omega
end Go.Proofs.YtgifienjfaclmaaGreatDoor

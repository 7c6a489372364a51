/-
  Contracts of the reference's byte classes, of names and of white space. No conditions but Go's own bounds of a string's length.
-/
import Derived.Test.YtcilkcnddgacgaaGreatDoorQM04
import Derived.Test.YtcilkcnddgacgaaGreatDoorQM02
import Derived.BigQuiet
import Derived.Test.YtcilkcnddgacgaaGreatDoorQM05
import Derived.Deep.DeepCutAuto
import Derived.Test.YtcilkcnddgacgaaGreatDoorQM03
import Derived.Test.YtcilkcnddgacgaaGreatDoorShelf
namespace Go.Proofs.YtcilkcnddgacgaaGreatDoor
open Go.RowKit
theorem ret_bool2 {a b : Bool} {w : World} (h : a = true ↔ b = true) : Is (.bool b) w (.returned (.bool a)) w := ⟨by rw [Bool.eq_iff_iff.2 h], rfl⟩
theorem beq_nat (c d : UInt8) : (c == d) = ((c.toNat : Int) == (d.toNat : Int)) := by
  rw [Bool.eq_iff_iff]
  simp only [beq_iff_eq]
  exact ⟨fun h => by rw [h], fun h => UInt8.toNat_inj.1 (by omega)⟩
end Go.Proofs.YtcilkcnddgacgaaGreatDoor
/-
  The reference's names. No conditions but Go's own bounds of a string's length.
-/
namespace Go.Proofs.YtcilkcnddgacgaaGreatDoor
open Go.RowKit
theorem tw_at (p : UInt8 → Bool) (l : List UInt8) (j : Nat) (h : j < l.length) : ((l.drop j).takeWhile p).length = if p (l[j]'h) then ((l.drop (j + 1)).takeWhile p).length + 1 else 0 := by
  rw [List.drop_eq_getElem_cons h, List.takeWhile_cons]
  split <;> simp_all
theorem tw_le (p : UInt8 → Bool) (l : List UInt8) (j : Nat) : ((l.drop j).takeWhile p).length ≤ l.length - j := by
  have := (List.takeWhile_sublist p (l := l.drop j)).length_le
  rwa [List.length_drop] at this
def t3 (x : Nat × Nat × Nat) : Value := .tuple #[.int .i64 (x.1 : Int), .int .i64 (x.2.1 : Int), .int .i64 (x.2.2 : Int)]
end Go.Proofs.YtcilkcnddgacgaaGreatDoor
/-
  The reference's numbers. No conditions but Go's own bounds of a string's length.
-/
namespace Go.Proofs.YtcilkcnddgacgaaGreatDoor
open Go.RowKit
theorem isD_in {c : UInt8} (h : isD c = true) : 48 ≤ c.toNat ∧ c.toNat ≤ 57 := by
  unfold isD at h
  simpa using h
end Go.Proofs.YtcilkcnddgacgaaGreatDoor
/-
  The reference's strings. No conditions but Go's own bounds of a string's length.
-/
namespace Go.Proofs.YtcilkcnddgacgaaGreatDoor
open Go.RowKit
theorem qs_nil (i : Nat) (out : List UInt8) : qs [] i out = .error i := by rw [qs]
end Go.Proofs.YtcilkcnddgacgaaGreatDoor
/-
  The reference's number at a place. No conditions but Go's own bounds of a string's length.
-/
namespace Go.Proofs.YtcilkcnddgacgaaGreatDoor
open Go.RowKit
def t4 (x : Nat × Int × Nat × Nat) : Value := .tuple #[.int .i64 (x.1 : Int), .int .i64 x.2.1, .int .i64 (x.2.2.1 : Int), .int .i64 (x.2.2.2 : Int)]
end Go.Proofs.YtcilkcnddgacgaaGreatDoor
/-
  What the reference says of each class of tokens is what a scan says. No conditions.
-/
namespace Go.Proofs.YtcilkcnddgacgaaGreatDoor
theorem drop_head (l : List UInt8) (j k : Nat) : ((l.drop j).drop k).head? = l[j + k]? := by
  rw [List.drop_drop, List.head?_drop]
theorem tw_prefix (p : UInt8 → Bool) (l : List UInt8) (j : Nat) : (l.take (j + ((l.drop j).takeWhile p).length)).drop j = (l.drop j).takeWhile p := by
  rw [List.drop_take, Nat.add_sub_cancel_left]
  exact (List.prefix_iff_eq_take.1 (List.takeWhile_prefix p)).symm
theorem mark_tok {c : UInt8} (r : List UInt8) (hM : isM c = true) : tok c r = .ok (4, [c], 0, 1) := by
  obtain ⟨f1, f2, f3, f4, -⟩ := mark_facts c hM
  unfold tok
  rw [if_neg (by rw [f1]; decide), if_neg (by rw [f2, f3]; decide), if_neg f4, if_pos hM]
theorem no_tok {c : UInt8} (r : List UInt8) (hL : isL c = false) (hD : (isD c || c == 45) = false) (hq : c ≠ 34) (hM : isM c = false) : tok c r = .error (2, 0) := by
  unfold tok
  rw [if_neg (by rw [hL]; decide), if_neg (by rw [hD]; decide), if_neg hq, if_neg (by rw [hM]; decide)]
/-- A scan that has gone on to place j, with the tokens ts. -/
def At (l : List UInt8) (R : Except (Nat × Nat) (List Tk)) (j : Nat) (ts : List Tk) : Prop := (match sc (l.drop j) j with | .error x => .error x | .ok us => .ok (ts ++ us)) = R
theorem At.done {l : List UInt8} {R : Except (Nat × Nat) (List Tk)} {ts : List Tk} (h : At l R l.length ts) : R = .ok (ts ++ [⟨0, [], 0, l.length⟩]) := by
  unfold At at h
  rw [List.drop_length, sc_nil] at h
  exact h.symm
theorem At.next {l : List UInt8} {R : Except (Nat × Nat) (List Tk)} {j : Nat} {ts : List Tk} {c : UInt8} {r t : List UInt8} {kd k : Nat} {n : Int} (h : At l R j ts) (hd : l.drop j = c :: r) (ht : tok c r = .ok (kd, t, n, k)) (hk : 1 ≤ k) (hkl : j + k ≤ l.length) :
    At l R (l.length - (sk false (l.drop (j + k))).length) (ts ++ [⟨kd, t, n, j⟩]) ∧ j < l.length - (sk false (l.drop (j + k))).length := by
  have hlen : l.length - j = r.length + 1 := by rw [← List.length_drop, hd]; rfl
  have hr : r.drop (k - 1) = l.drop (j + k) := by
    have := congrArg (List.drop k) hd
    rw [List.drop_drop] at this
    rw [this]
    obtain ⟨m, rfl⟩ : ∃ m, k = m + 1 := ⟨k - 1, by omega⟩
    simp
  have h1 := sk_length false (l.drop (j + k))
  have h2 := sk_drop false (l.drop (j + k))
  rw [List.length_drop] at h1 h2
  have h3 : l.drop (l.length - (sk false (l.drop (j + k))).length) = sk false (l.drop (j + k)) := by
    conv => rhs; rw [h2, List.drop_drop]
    congr 1
    omega
  refine ⟨?_, by omega⟩
  unfold At at h ⊢
  rw [hd, sc_cons, ht] at h
  simp only at h
  rw [hr, show j + (r.length + 1 - (sk false (l.drop (j + k))).length) = l.length - (sk false (l.drop (j + k))).length by omega] at h
  rw [h3]
  cases hs : sc (sk false (l.drop (j + k))) (l.length - (sk false (l.drop (j + k))).length) with
  | error x => rw [hs] at h; exact h
  | ok us =>
    rw [hs] at h
    simp only at h ⊢
    rw [← h]
    simp
theorem At.start (l : List UInt8) (hl : l.length ≤ 4000) : At l (scan l) (l.length - (sk false l).length) [] := by
  have h1 := sk_length false l
  have h2 := sk_drop false l
  unfold At scan
  rw [if_neg (by omega), ← h2]
  cases sc (sk false l) (l.length - (sk false l).length) <;> rfl
end Go.Proofs.YtcilkcnddgacgaaGreatDoor
/-
  The reference's scan. No conditions but Go's own bounds of a string's length.
-/
namespace Go.Proofs.YtcilkcnddgacgaaGreatDoor
open Go.RowKit
/-- A token's cells. -/
def tc (t : Tk) : List Value := [.int .i64 (t.kind : Int), .string (bs t.text), .int .i64 t.num, .int .i64 (t.at_ : Int)]
def tcells (l : List Tk) : List Value := l.flatMap tc
/-- The slice v owns the tokens l. -/
def Ot (B : Nat) (w : World) (v : Value) (l : List Tk) : Prop := w.ownsRow B 180 4 v l.length (tcells l)
theorem Ot.nil (B : Nat) (w : World) : Ot B w (.slice none 0 0) [] := World.ownsRow_nil _ _ _ _
theorem Ot.other {B : Nat} {w w' : World} {v : Value} {l : List Tk} (h : Ot B w v l) (hb : Below w.heap.size w w') : Ot B w' v l := by
  unfold Ot World.ownsRow at *
  refine ⟨h.1, ?_⟩
  rcases h.2 with h1 | ⟨g, cap, cur, h1, h2, h3, h4⟩
  · exact .inl h1
  · refine .inr ⟨g, cap, cur, h1, h2, ?_, h4⟩
    rw [hb.block g (Array.getElem?_eq_some_iff.1 h3).1]
    exact h3
/-- What a scan leaves. -/
def ScanP (R : Except (Nat × Nat) (List Tk)) (w : World) (e : Ending) (w' : World) : Prop := Below w.heap.size w w' ∧ match R with
  | .error (x, p) => e = .returned (.tuple #[.slice none 0 0, .int .i64 (x : Int), .int .i64 (p : Int)])
  | .ok ts => ∃ v, e = .returned (.tuple #[v, .int .i64 0, .int .i64 0]) ∧ Ot w.heap.size w' v ts
theorem ScanP.ok {R : Except (Nat × Nat) (List Tk)} {w w' : World} {ts : List Tk} {v : Value} (h : R = .ok ts) (hb : Below w.heap.size w w') (ho : Ot w.heap.size w' v ts) : ScanP R w (.returned (.tuple #[v, .int .i64 0, .int .i64 0])) w' := by
  subst h
  exact ⟨hb, v, rfl, ho⟩
end Go.Proofs.YtcilkcnddgacgaaGreatDoor
/-
  The reference's printing of numbers and strings. No conditions but Go's own bounds.
-/
namespace Go.Proofs.YtcilkcnddgacgaaGreatDoor
open Go.RowKit
theorem dg_len (n : Nat) : ∀ k, n < 10 ^ (k + 1) → (dg n).length ≤ k + 1 := by
  induction n using Nat.strongRecOn with
  | _ n ih =>
    intro k h
    by_cases h10 : n < 10
    · rw [dg_small h10]; simp
    · rw [dg_big h10, List.length_append]
      cases k with
      | zero => simp at h; omega
      | succ k =>
        have := ih (n / 10) (by omega) k (by rw [Nat.pow_succ] at h; omega)
        simp; omega
end Go.Proofs.YtcilkcnddgacgaaGreatDoor
/-
  The reference's printing of a string's content, and what a token of a result is. No conditions but Go's own bounds.
-/
namespace Go.Proofs.YtcilkcnddgacgaaGreatDoor
open Go.RowKit
theorem esc_length (a : List UInt8) : (esc a).length ≤ 2 * a.length := by
  induction a with
  | nil => simp [esc]
  | cons c r ih => simp only [esc]; split <;> simp <;> omega
end Go.Proofs.YtcilkcnddgacgaaGreatDoor
/-
  The reference's Valid. No conditions but Go's own bounds.
-/
namespace Go.Proofs.YtcilkcnddgacgaaGreatDoor
open Go.RowKit
/-- A token as it comes in: its kind and its place are any numbers. -/
structure Tv where
  kind : Int
  text : List UInt8
  num : Int
  at_ : Int
/-- The token that it is; a kind below 0 is no token's kind, as 0 is none that can be printed. -/
def Tv.tk (t : Tv) : Tk := ⟨t.kind.toNat, t.text, t.num, t.at_.toNat⟩
theorem str_beq (q l : List UInt8) : ((bs q).toList == (bs l).toList) = (q == l) := by rw [toList_bs, toList_bs]
theorem grown1 {w : World} (o : Obj) : Below w.heap.size w (w.alloc o) := (Below.refl _ w).alloc (Nat.le_refl _) o
/-- One mark. -/
def oneM (t : List UInt8) : Bool := match t with | [c] => isM c | _ => false
theorem okT1 (t : List UInt8) (n a : Int) : okT (Tv.tk ⟨1, t, n, a⟩) = (isN t && n == 0) := rfl
theorem okT2 (t : List UInt8) (n a : Int) : okT (Tv.tk ⟨2, t, n, a⟩) = (t == []) := rfl
theorem okT3 (t : List UInt8) (n a : Int) : okT (Tv.tk ⟨3, t, n, a⟩) = ((t.all fun c => decide (32 ≤ c.toNat) && decide (c.toNat ≤ 126)) && decide (t.length ≤ 200) && n == 0) := rfl
theorem okT4 (t : List UInt8) (n a : Int) : okT (Tv.tk ⟨4, t, n, a⟩) = (oneM t && n == 0) := rfl
theorem okT0 (k : Int) (t : List UInt8) (n a : Int) (h1 : k ≠ 1) (h2 : k ≠ 2) (h3 : k ≠ 3) (h4 : k ≠ 4) : okT (Tv.tk ⟨k, t, n, a⟩) = false := by
  unfold okT Tv.tk
  rw [if_neg (show ¬ k.toNat = 1 by omega), if_neg (show ¬ k.toNat = 2 by omega), if_neg (show ¬ k.toNat = 3 by omega), if_neg (show ¬ k.toNat = 4 by omega)]
end Go.Proofs.YtcilkcnddgacgaaGreatDoor
/-
  The reference's Print. No conditions but Go's own bounds; at most 60 tokens.
-/
namespace Go.Proofs.YtcilkcnddgacgaaGreatDoor
open Go.RowKit
def Tv.ok (t : Tv) : Prop := t.text.length ≤ 9223372036854775807 ∧ -9223372036854775808 ≤ t.num ∧ t.num ≤ 9223372036854775807
theorem add_block (a : Addr) (i : Nat) : (a.add i).block = a.block := by unfold Addr.add; split <;> rfl
theorem dec_len (n : Int) (h1 : -9223372036854775808 ≤ n) (h2 : n ≤ 9223372036854775807) : (dec n).length ≤ 21 := by
  have := dg_len n.natAbs 19 (by omega)
  unfold dec
  split
  · simp; omega
  · omega
theorem quo_len (l : List UInt8) : (quo l).length ≤ 2 * l.length + 2 := by
  have := esc_length l
  simp [quo]
  omega
end Go.Proofs.YtcilkcnddgacgaaGreatDoor
/-
  The reference's scan of a text that is too long; lists of tokens in memory; Same. No conditions but Go's own bounds.
-/
namespace Go.Proofs.YtcilkcnddgacgaaGreatDoor
open Go.RowKit
/-- The elements of the slice at A are the tokens l. -/
def Tr (w : World) (A : Option Addr) (l : List Tk) : Prop := l.length = 0 ∨ ∃ a : Addr, A = some a ∧ a.block < w.heap.size ∧ ∀ i (h : i < l.length),
  w.cell? ((a.add (i * 4)).add 0) = some (.int .i64 ((l[i]'h).kind : Int)) ∧ w.cell? ((a.add (i * 4)).add 1) = some (.string (bs (l[i]'h).text)) ∧ w.cell? ((a.add (i * 4)).add 2) = some (.int .i64 (l[i]'h).num) ∧ w.cell? ((a.add (i * 4)).add 3) = some (.int .i64 ((l[i]'h).at_ : Int))
theorem Tr.next {w w' : World} {A : Option Addr} {l : List Tk} (h : Tr w A l) (hb : Below w.heap.size w w') : Tr w' A l := by
  rcases h with h | ⟨a, h1, h2, h3⟩
  · exact .inl h
  · refine .inr ⟨a, h1, by have := hb.size; omega, fun i hi => ?_⟩
    obtain ⟨c0, c1, c2, c3⟩ := h3 i hi
    have ad : ∀ j, ((a.add (i * 4)).add j).block < w.heap.size := fun j => by rw [add_block, add_block]; exact h2
    exact ⟨(hb.cell (ad 0)).trans c0, (hb.cell (ad 1)).trans c1, (hb.cell (ad 2)).trans c2, (hb.cell (ad 3)).trans c3⟩
theorem tcells_at (l : List Tk) (i j : Nat) (h : i < l.length) (hj : j < 4) : (tcells l)[i * 4 + j]? = (tc (l[i]'h))[j]? := by
  induction l generalizing i with
  | nil => simp at h
  | cons t l ih =>
    have e : tcells (t :: l) = tc t ++ tcells l := by simp [tcells]
    have h4 : (tc t).length = 4 := rfl
    rw [e]
    cases i with
    | zero => rw [List.getElem?_append_left (by omega)]; simp
    | succ i =>
      rw [List.getElem?_append_right (by omega), h4, show (i + 1) * 4 + j - 4 = i * 4 + j by omega]
      exact ih i (by simpa using h)
theorem plain_add (g o k : Nat) : (⟨g, o, none⟩ : Addr).add k = ⟨g, o + k, none⟩ := by
  by_cases h : k = 0
  · subst h; rfl
  · simp [Addr.add, h]
theorem Ot.tr {B : Nat} {w : World} {v : Value} {l : List Tk} (h : Ot B w v l) : ∃ A c, v = .slice A l.length c ∧ l.length ≤ 9223372036854775807 ∧ Tr w A l := by
  obtain ⟨h0, h⟩ := h
  rcases h with ⟨rfl, hn⟩ | ⟨g, cap, cur, rfl, hB, hg, h1, h2, h3, h4⟩
  · exact ⟨none, 0, by rw [hn], by omega, .inl hn⟩
  · refine ⟨_, _, rfl, by simp only [maxLen] at h2; omega, .inr ⟨_, rfl, (Array.getElem?_eq_some_iff.1 hg).1, fun i hi => ?_⟩⟩
    have key : ∀ j, j < 4 → w.cell? (((⟨g, 0, none⟩ : Addr).add (i * 4)).add j) = (tc (l[i]'hi))[j]? := fun j hj => by
      rw [← tcells_at l i j hi hj, ← h4, List.getElem?_take_of_lt (by omega)]
      rw [show ((⟨g, 0, none⟩ : Addr).add (i * 4)).add j = ⟨g, i * 4 + j, none⟩ by rw [plain_add, plain_add, Nat.zero_add]]
      simp [World.cell?, hg]
    exact ⟨key 0 (by decide), key 1 (by decide), key 2 (by decide), key 3 (by decide)⟩
end Go.Proofs.YtcilkcnddgacgaaGreatDoor
/-
  The reference's scanner: NewScanner, Peek, Next, Mark, Word. No conditions but Go's own bounds.
-/
namespace Go.Proofs.YtcilkcnddgacgaaGreatDoor
open Go.RowKit
/-- What NewScanner leaves. -/
def NewP (R : Except (Nat × Nat) (List Tk)) (w : World) (e : Ending) (w' : World) : Prop := Below w.heap.size w w' ∧ match R with
  | .error (x, p) => e = .returned (.tuple #[.agg #[.slice none 0 0, .int .i64 0], .int .i64 (x : Int), .int .i64 (p : Int)])
  | .ok ts => ∃ v, e = .returned (.tuple #[.agg #[v, .int .i64 0], .int .i64 0, .int .i64 0]) ∧ Ot w.heap.size w' v ts
theorem NewP.ok {R : Except (Nat × Nat) (List Tk)} {w w' : World} {ts : List Tk} {v : Value} (h : R = .ok ts) (hb : Below w.heap.size w w') (ho : Ot w.heap.size w' v ts) : NewP R w (.returned (.tuple #[.agg #[v, .int .i64 0], .int .i64 0, .int .i64 0])) w' := by
  subst h
  exact ⟨hb, v, rfl, ho⟩
/-- A scanner at block g: its tokens, and the place of the next one. -/
structure Sn (w : World) (g : Nat) (A : Option Addr) (c : Nat) (l : List Tk) (j : Nat) : Prop where
  lt : g < w.heap.size
  c0 : w.cell? ⟨g, 0, none⟩ = some (.slice A l.length c)
  c1 : w.cell? ⟨g, 1, none⟩ = some (.int .i64 (j : Int))
  f1 : w.frozen? ⟨g, 1, none⟩ = false
  ne : ∀ a, A = some a → a.block ≠ g
  tr : Tr w A l
theorem Sn.next {w w' : World} {g : Nat} {A : Option Addr} {c : Nat} {l : List Tk} {j : Nat} (h : Sn w g A c l j) (hb : Below w.heap.size w w') : Sn w' g A c l j :=
  ⟨Nat.lt_of_lt_of_le h.lt hb.size, (hb.cell h.lt).trans h.c0, (hb.cell h.lt).trans h.c1, (hb.frozen h.lt).trans h.f1, h.ne, h.tr.next hb⟩
/-- A token as a value. -/
def Tk.val (t : Tk) : Value := .agg #[.int .i64 (t.kind : Int), .string (bs t.text), .int .i64 t.num, .int .i64 (t.at_ : Int)]
/-- A variable of four cells at block b. -/
structure V4 (w : World) (b : Nat) (x y z u : Value) : Prop where
  lt : b < w.heap.size
  c0 : w.cell? ⟨b, 0, none⟩ = some x
  c1 : w.cell? ⟨b, 1, none⟩ = some y
  c2 : w.cell? ⟨b, 2, none⟩ = some z
  c3 : w.cell? ⟨b, 3, none⟩ = some u
  f0 : w.frozen? ⟨b, 0, none⟩ = false
  f1 : w.frozen? ⟨b, 1, none⟩ = false
  f2 : w.frozen? ⟨b, 2, none⟩ = false
  f3 : w.frozen? ⟨b, 3, none⟩ = false
theorem V4.next {w w' : World} {b : Nat} {x y z u : Value} (h : V4 w b x y z u) (hb : Below w.heap.size w w') : V4 w' b x y z u :=
  ⟨Nat.lt_of_lt_of_le h.lt hb.size, (hb.cell h.lt).trans h.c0, (hb.cell h.lt).trans h.c1, (hb.cell h.lt).trans h.c2, (hb.cell h.lt).trans h.c3, (hb.frozen h.lt).trans h.f0, (hb.frozen h.lt).trans h.f1, (hb.frozen h.lt).trans h.f2, (hb.frozen h.lt).trans h.f3⟩
theorem V4.new (w : World) (x y z u : Value) (t : TypeId) : V4 (w.alloc (Obj.cells #[x, y, z, u] t)) w.heap.size x y z u :=
  ⟨by simp, by simp, by simp, by simp, by simp, by simp, by simp, by simp, by simp⟩
end Go.Proofs.YtcilkcnddgacgaaGreatDoor
/-
  The reference's scanner: NewScanner, Next, Mark, Word. No conditions but Go's own bounds.
-/
namespace Go.Proofs.YtcilkcnddgacgaaGreatDoor
open Go.RowKit
/-- A variable of two cells at block b. -/
structure V2 (w : World) (b : Nat) (x y : Value) : Prop where
  lt : b < w.heap.size
  c0 : w.cell? ⟨b, 0, none⟩ = some x
  c1 : w.cell? ⟨b, 1, none⟩ = some y
  f0 : w.frozen? ⟨b, 0, none⟩ = false
  f1 : w.frozen? ⟨b, 1, none⟩ = false
theorem V2.next {w w' : World} {b : Nat} {x y : Value} (h : V2 w b x y) (hb : Below w.heap.size w w') : V2 w' b x y :=
  ⟨Nat.lt_of_lt_of_le h.lt hb.size, (hb.cell h.lt).trans h.c0, (hb.cell h.lt).trans h.c1, (hb.frozen h.lt).trans h.f0, (hb.frozen h.lt).trans h.f1⟩
theorem V2.new (w : World) (x y : Value) (t : TypeId) : V2 (w.alloc (Obj.cells #[x, y] t)) w.heap.size x y :=
  ⟨by simp, by simp, by simp, by simp, by simp⟩
theorem Ot.low {B B' : Nat} {w : World} {v : Value} {l : List Tk} (h : Ot B w v l) (hB : B' ≤ B) : Ot B' w v l := by
  refine ⟨h.1, ?_⟩
  rcases h.2 with h1 | ⟨g, cap, cur, h1, h2, h3, h4⟩
  · exact .inl h1
  · exact .inr ⟨g, cap, cur, h1, Nat.le_trans hB h2, h3, h4⟩
theorem Ot.set {B : Nat} {w : World} {v : Value} {l : List Tk} (h : Ot B w v l) (b o : Nat) (x : Value) (hb : b < B) : Ot B (w.setCell ⟨b, o, none⟩ x) v l := by
  refine ⟨h.1, ?_⟩
  rcases h.2 with h1 | ⟨g, cap, cur, h1, h2, h3, h4⟩
  · exact .inl h1
  · exact .inr ⟨g, cap, cur, h1, h2, (Below.heap_setCell _ _ _ _ (fun e => by have : g = b := e; omega)).trans h3, h4⟩
end Go.Proofs.YtcilkcnddgacgaaGreatDoor
/-
  Contract of the developers' kindOf. No conditions.
-/
namespace Go.Proofs.YtcilkcnddgacgaaGreatDoor
open Go.RowKit
set_option maxRecDepth 100000 in
set_option maxHeartbeats 2000000 in
theorem kindOf_any (n : Nat) (hn : n < 256) (w : World) : Calls Tryz.prog 184 #[.int .i32 (n : Int)] w (Is (.int .i64 (kd n : Int)) w) := by
  go_enter Tryz.func184, Tryz.ntmps184
  go_wp2_with fail
  all_goals
    go_ret
    refine ret_is ?_
    simp only [beq_iff_eq, beq_eq_false_iff_ne, ne_eq] at *
    unfold kd
    repeat' split
    all_goals omega
end Go.Proofs.YtcilkcnddgacgaaGreatDoor
/-
  Contracts of the developers' kinds of characters: kindAt, slices.Contains over kinds, past. No conditions but Go's own bounds of a string's length.
-/
namespace Go.Proofs.YtcilkcnddgacgaaGreatDoor
open Go.RowKit
set_option maxRecDepth 100000 in
set_option maxHeartbeats 2000000 in
theorem kindAt_any (l : List UInt8) (a : Nat) (w : World) :
    Calls Tryz.prog 175 #[.string (bs l), .int .i64 (a : Int)] w (Is (.int .i64 (kat l a : Int)) w) := by
  have hsz : (bs l).size = l.length := rfl
  by_cases h : a < l.length
  · have h2 : a < (bs l).size := h
    have cK := fun W => kindOf_any (l[a]'h).toNat (UInt8.toNat_lt _) W
    rw [kat_lt h]
    have hb : ((bs l)[a]'h2).toNat = (l[a]'h).toNat := rfl
    generalize kd (l[a]'h).toNat = k at *
    have hn := UInt8.toNat_lt (l[a]'h)
    generalize (l[a]'h).toNat = n at *
    have hw : wrap32 (n : Int) = (n : Int) := by unfold wrap32; omega
    go_enter Tryz.func175, Tryz.ntmps175
    go_wp2_with fail
    refine (cK _).mono ?_
    rintro e w' ⟨rfl, rfl⟩
    go_wp2_with fail
    go_ret
    exact ret_is rfl
  · rw [kat_end (by omega)]
    have d1 : l.length ≤ a := by omega
    clear h
    go_enter Tryz.func175, Tryz.ntmps175
    go_wp2_with fail
    go_ret
    exact ret_is rfl
/-- The cells of a list of kinds. -/
def Ks (w : World) (g : Nat) (ks : List Nat) : Prop := ∀ j (h : j < ks.length), w.cell? ⟨g, j, none⟩ = some (.int .i64 ((ks[j]'h : Nat) : Int))
set_option maxRecDepth 100000 in
set_option maxHeartbeats 2000000 in
theorem index_any (g c k : Nat) (ks : List Nat) (w : World) (hn : ks.length ≤ 10) (hK : Ks w g ks) :
    Calls Tryz.prog 214 #[.slice (some ⟨g, 0, none⟩) ks.length c, .int .i64 (k : Int)] w (fun e w' => ∃ (r : Int) (n : Nat), e = .returned (.int .i64 r) ∧ w' = w.drewN n ∧ decide (0 ≤ r) = ks.contains k) := by
  have HK := Lib.hid hK
  clear hK
  obtain ⟨n, hn2⟩ : ∃ n, ks.length = n := ⟨_, rfl⟩
  rw [hn2] at hn ⊢
  go_enter Tryz.func214, Tryz.ntmps214
  go_wp2_with fail
  go_loopw [8] (fun v wr => ∃ (i m : Nat), i ≤ n ∧ v = .int .i64 (i : Int) ∧ wr = w.drewN m ∧ Hid ((ks.take i).contains k = false)) (fun v _ => n - (intOf v).toNat)
  case atStart => exact ⟨0, 0, by omega, rfl, rfl, Lib.hid rfl⟩
  case round =>
    obtain ⟨i, m, hi, rfl, rfl, hI⟩ := hrel
    by_cases hin : i < n
    · have c0 := HK.out i (by omega)
      have ht : ks.take (i + 1) = ks.take i ++ [ks[i]'(by omega)] := by rw [List.take_succ_eq_append_getElem (by omega)]
      obtain ⟨x, hx⟩ : ∃ x, ks[i]'(by omega) = x := ⟨_, rfl⟩
      rw [hx] at c0 ht
      replace c0 : (w.drewN m).cell? ⟨g, i, none⟩ = some (.int .i64 (x : Int)) := c0
      have ee := List.contains_eq_mem k (ks.take (i + 1))
      have hks : k = x → ks.contains k = true := fun e => by
        rw [List.contains_iff_mem, e, ← hx]
        exact List.getElem_mem _
      have hno : k ≠ x → (ks.take (i + 1)).contains k = false := fun e => by
        rw [ht, List.contains_eq_mem]
        have := hI.out
        rw [List.contains_eq_mem] at this
        simp only [decide_eq_false_iff_not, List.mem_append, List.mem_singleton] at this ⊢
        exact fun h => h.elim this e
      obtain ⟨f, hf⟩ : ∃ f, i + 1 = f := ⟨_, rfl⟩
      have l11 : (i : Int) + 1 = (f : Int) := by omega
      clear hI ht hx HK hn2 ee
      by_cases e : k = x
      · have E := Lib.hid (hks e)
        subst e
        clear hks hno
        go_wp2_with fail
        go_ret
        exact ⟨(i : Int), m, rfl, rfl, by rw [E.out]; simp⟩
      · rw [hf] at hno
        have E := Lib.hid (hno e)
        have d0 : ((k : Int) == (x : Int)) = false := by simp; omega
        clear hks hno
        go_wp2_with fail
        go_roundw
        case rel => exact ⟨f, m, by omega, rfl, rfl, E⟩
        case measure => simp [intOf]; omega
    · obtain rfl : i = n := by omega
      have E := Lib.hid (show ks.contains k = false by
        have := hI.out
        rwa [← hn2, List.take_length] at this)
      clear hI HK hn2
      go_wp2_with fail
      go_ret
      exact ⟨-1, m, rfl, rfl, by rw [E.out]; rfl⟩
set_option maxRecDepth 100000 in
theorem contains_any (g c k : Nat) (ks : List Nat) (w : World) (hn : ks.length ≤ 10) (hK : Ks w g ks) :
    Calls Tryz.prog 201 #[.slice (some ⟨g, 0, none⟩) ks.length c, .int .i64 (k : Int)] w (Iq (.bool (ks.contains k)) w) := by
  have cI := fun m => index_any g c k ks (w.drewN m) hn hK
  generalize ks.contains k = b at *
  clear hK hn
  go_enter Tryz.func201, Tryz.ntmps201
  go_wp2_with fail
  refine (cI 0).mono ?_
  rintro e w' ⟨r, n, rfl, rfl, hb⟩
  cases b
  all_goals
    go_wp2_with fail
    go_ret
    exact ⟨n, rfl, rfl⟩
theorem drewN_drewN (w : World) (a b : Nat) : (w.drewN a).drewN b = w.drewN (a + b) := by simp [World.drewN, Nat.add_assoc]
set_option maxRecDepth 100000 in
set_option maxHeartbeats 2000000 in
theorem past_any (g c : Nat) (ks : List Nat) (l : List UInt8) (a : Nat) (w : World) (hl : l.length ≤ 9223372036854775000) (ha : a ≤ l.length) (hn : ks.length ≤ 10) (hK : Ks w g ks) (h0 : ks.contains 0 = false) :
    Calls Tryz.prog 185 #[.string (bs l), .int .i64 (a : Int), .slice (some ⟨g, 0, none⟩) ks.length c] w (Iq (.int .i64 ((a + ((l.drop a).takeWhile (inK ks)).length : Nat) : Int)) w) := by
  have HK := Lib.hid hK
  obtain ⟨R, hR⟩ : ∃ R, a + ((l.drop a).takeWhile (inK ks)).length = R := ⟨_, rfl⟩
  rw [hR]
  have HR := Lib.hid hR
  clear hK hR
  obtain ⟨n, hn2⟩ : ∃ n, ks.length = n := ⟨_, rfl⟩
  have hn2 := Lib.hid hn2
  rw [hn2.out]
  go_enter Tryz.func185, Tryz.ntmps185
  go_wp2_with fail
  go_loopw [1] (fun v wr => ∃ (j m : Nat), j ≤ l.length ∧ v = .int .i64 (j : Int) ∧ wr = w.drewN m ∧ Hid (j + ((l.drop j).takeWhile (inK ks)).length = R)) (fun v _ => l.length - (intOf v).toNat)
  case atStart => exact ⟨a, 0, ha, rfl, rfl, HR⟩
  case round =>
    obtain ⟨j, m, hj, rfl, rfl, hI⟩ := hrel
    have c1 := fun W => kindAt_any l j W
    have c2 := fun q => contains_any g c (kat l j) ks (w.drewN q) hn HK.out
    have hx : Hid ((ks.contains (kat l j) = true ∧ j < l.length ∧ j + 1 + ((l.drop (j + 1)).takeWhile (inK ks)).length = R) ∨ (ks.contains (kat l j) = false ∧ j = R)) := by
      refine Lib.hid ?_
      have h := hI.out
      by_cases hlt : j < l.length
      · have t := tw_at (inK ks) l j hlt
        unfold inK at t
        rw [← kat_lt hlt] at t
        cases e : ks.contains (kat l j)
        · rw [e] at t
          exact .inr ⟨rfl, by rw [← h]; unfold inK; rw [if_neg (by simp)] at t; rw [t]; rfl⟩
        · rw [e, if_pos rfl] at t
          refine .inl ⟨rfl, hlt, ?_⟩
          rw [← h]
          unfold inK
          rw [t]
          omega
      · rw [kat_end (by omega), h0]
        refine .inr ⟨rfl, ?_⟩
        rw [← h, List.drop_eq_nil_of_le (by omega)]
        rfl
    rw [hn2.out] at c2
    generalize kat l j = k at *
    generalize ks.contains k = b at *
    have hb1 : Hid (b = true → j < l.length ∧ j + 1 + ((l.drop (j + 1)).takeWhile (inK ks)).length = R) := Lib.hid (fun e => by
      rcases hx.out with h | h
      · exact h.2
      · rw [e] at h; cases h.1)
    have hb2 : Hid (b = false → j = R) := Lib.hid (fun e => by
      rcases hx.out with h | h
      · rw [e] at h; cases h.1
      · exact h.2)
    clear hx hI HR
    go_wp2_with fail
    refine (c1 _).mono ?_
    rintro e w' ⟨rfl, rfl⟩
    go_wp2_with fail
    refine (c2 _).mono ?_
    rintro e w' ⟨q, rfl, rfl⟩
    rw [drewN_drewN]
    cases b
    · obtain rfl := hb2.out rfl
      go_wp2_with fail
      go_ret
      exact ⟨_, rfl, rfl⟩
    · have E := Lib.hid (hb1.out rfl).2
      have hj2 : j < l.length := (hb1.out rfl).1
      obtain ⟨f, hf⟩ : ∃ f, j + 1 = f := ⟨_, rfl⟩
      have l11 : (j : Int) + 1 = (f : Int) := by omega
      rw [hf] at E
      clear hb1 hb2
      go_wp2_with fail
      go_roundw
      case rel => exact ⟨f, m + q, by omega, rfl, rfl, E⟩
      case measure => simp [intOf]; omega
end Go.Proofs.YtcilkcnddgacgaaGreatDoor
/-
  Contracts of the developers' endOfLine, skip and joined. No conditions but Go's own bounds of a string's length.
-/
namespace Go.Proofs.YtcilkcnddgacgaaGreatDoor
open Go.RowKit
theorem Ks.of {w : World} {ks : List Nat} {t : TypeId} : Ks (w.alloc (Obj.cells (ks.map fun (k : Nat) => Value.int .i64 (k : Int)).toArray t)) w.heap.size ks := by
  intro j h
  rw [World.cell?]
  simp only [heap_alloc_new]
  simp [h]
set_option maxRecDepth 100000 in
theorem joined_any (l : List UInt8) (a : Nat) (w : World) : Calls Tryz.prog 186 #[.string (bs l), .int .i64 (a : Int)] w (Is (.bool (jn l a)) w) := by
  have cK := fun W => kindAt_any l a W
  unfold jn
  generalize kat l a = k at *
  go_enter Tryz.func186, Tryz.ntmps186
  go_wp2_with fail
  refine (cK _).mono ?_
  rintro e w' ⟨rfl, rfl⟩
  go_wp2_with fail
  all_goals
    go_ret
    refine ret_bool2 ?_
    simp at *
    try omega
end Go.Proofs.YtcilkcnddgacgaaGreatDoor
/-
  Contracts of the developers' cutName. No conditions but Go's own bounds of a string's length.
-/
namespace Go.Proofs.YtcilkcnddgacgaaGreatDoor
open Go.RowKit
/-- What stands at a place, as a token. -/
def tokAt (l : List UInt8) (j : Nat) : Except (Nat × Nat) (Nat × List UInt8 × Int × Nat) := match l.drop j with | [] => .error (2, 0) | c :: r => tok c r
/-- What cut returns at place j. -/
def cutV (j : Nat) : Except (Nat × Nat) (Nat × List UInt8 × Int × Nat) → Value
  | .error (e, o) => .tuple #[.agg #[.int .i64 0, .string ⟨#[]⟩, .int .i64 0, .int .i64 0], .int .i64 (e : Int), .int .i64 ((j + o : Nat) : Int)]
  | .ok (kd, t, n, k) => .tuple #[.agg #[.int .i64 (kd : Int), .string (bs t), .int .i64 n, .int .i64 (j : Int)], .int .i64 0, .int .i64 ((j + k : Nat) : Int)]
theorem tokAt_cons {l : List UInt8} {j : Nat} (h : j < l.length) : tokAt l j = tok (l[j]'h) (l.drop (j + 1)) := by
  unfold tokAt
  rw [List.drop_eq_getElem_cons h]
/-- A name's token by what follows it. -/
theorem tokAt_name {l : List UInt8} {j m : Nat} (h : j < l.length) (hL : isL (l[j]'h) = true) (hm : j + ((l.drop j).takeWhile isW).length = m) :
    m ≤ l.length ∧ j < m ∧ ((16 < m - j ∧ tokAt l j = .error (3, 0)) ∨ (m - j ≤ 16 ∧ jn l m = true ∧ tokAt l j = .error (2, m - j)) ∨ (m - j ≤ 16 ∧ jn l m = false ∧ tokAt l j = .ok (1, (l.take m).drop j, 0, m - j))) := by
  have hd := List.drop_eq_getElem_cons h
  have hlen : ((l.drop j).takeWhile isW).length ≤ l.length - j := tw_le isW l j
  have hw : isW (l[j]'h) = true := by unfold isW; rw [hL]; rfl
  have hpos : 1 ≤ ((l.drop j).takeWhile isW).length := by
    rw [tw_at isW l j h, if_pos hw]; omega
  have e : m - j = ((l.drop j).takeWhile isW).length := by omega
  have hjn := jn_eq l m
  have hst := tw_stop isW l j
  have hsub : (l.take m).drop j = (l.drop j).takeWhile isW := by rw [← hm]; exact tw_prefix isW l j
  have hdh := drop_head l j ((l.drop j).takeWhile isW).length
  rw [hm] at hst hdh
  refine ⟨by omega, by omega, ?_⟩
  rw [tokAt_cons h]
  unfold tok
  rw [if_pos hL, ← hd]
  by_cases h16 : 16 < ((l.drop j).takeWhile isW).length
  · exact .inl ⟨by omega, by rw [if_pos h16]⟩
  · rw [if_neg h16, hdh]
    have hj : jn l m = decide (l[m]? = some 45) := by
      rw [hjn]
      by_cases hm2 : m < l.length
      · rw [List.getElem?_eq_getElem hm2]
        rw [Option.any_some, hst hm2, Bool.false_or, Bool.eq_iff_iff]
        simp
      · rw [List.getElem?_eq_none (by omega)]; rfl
    by_cases h45 : l[m]? = some 45
    · refine .inr (.inl ⟨by omega, by rw [hj]; simp [h45], ?_⟩)
      rw [if_pos h45, e]
    · refine .inr (.inr ⟨by omega, by rw [hj]; simp [h45], ?_⟩)
      rw [if_neg h45, e, hsub]
/-- What cut leaves. -/
def CutP (j : Nat) (R : Except (Nat × Nat) (Nat × List UInt8 × Int × Nat)) (w : World) (e : Ending) (w' : World) : Prop := e = .returned (cutV j R) ∧ Below w.heap.size w w'
set_option maxRecDepth 100000 in
set_option maxHeartbeats 2000000 in
theorem cutName_any (l : List UInt8) (j : Nat) (w : World) (hl : l.length ≤ 9223372036854775000) (h : j < l.length) (hL : isL (l[j]'h) = true) :
    Calls Tryz.prog 176 #[.string (bs l), .int .i64 (j : Int)] w (CutP j (tokAt l j) w) := by
  have hsz : (bs l).size = l.length := rfl
  obtain ⟨m, hm⟩ : ∃ m, j + ((l.drop j).takeWhile isW).length = m := ⟨_, rfl⟩
  obtain ⟨h1, h2, h3⟩ := tokAt_name h hL hm
  have ext : (bs l).extract j m = bs ((l.take m).drop j) := bs_slice l j m
  have V0 := V4.new w (.int .i64 0) (.string ⟨#[]⟩) (.int .i64 0) (.int .i64 0) 180
  have hg1 := grown1 (w := w) (Obj.cells #[.int .i64 0, .string ⟨#[]⟩, .int .i64 0, .int .i64 0] 180)
  have hs1 : (w.alloc (Obj.cells #[.int .i64 0, .string ⟨#[]⟩, .int .i64 0, .int .i64 0] 180)).heap.size = w.heap.size + 1 := by simp
  have hK := Ks.of (w := w.alloc (Obj.cells #[.int .i64 0, .string ⟨#[]⟩, .int .i64 0, .int .i64 0] 180)) (ks := [2, 3, 4]) (t := 211)
  have hg2 := grown1 (w := w.alloc (Obj.cells #[.int .i64 0, .string ⟨#[]⟩, .int .i64 0, .int .i64 0] 180)) (Obj.cells #[.int .i64 2, .int .i64 3, .int .i64 4] 211)
  rw [hs1] at hK
  have V0 := V0.next hg2
  have hg := Below.next hg1 hg2
  have cP := past_any (w.heap.size + 1) 3 [2, 3, 4] l j ((w.alloc (Obj.cells #[.int .i64 0, .string ⟨#[]⟩, .int .i64 0, .int .i64 0] 180)).alloc (Obj.cells #[.int .i64 2, .int .i64 3, .int .i64 4] 211)) hl (by omega) (by decide) hK rfl
  rw [inK_word, hm] at cP
  have cJ := fun W => joined_any l m W
  obtain ⟨d, hd⟩ : ∃ d, m - j = d := ⟨_, rfl⟩
  have l11 : (m : Int) - (j : Int) = (d : Int) := by omega
  have hd2 : d ≤ l.length := by omega
  have hjd : j + d = m := by omega
  rw [hd] at h3
  have X : ∃ b, jn l m = b := ⟨_, rfl⟩
  obtain ⟨b, hb⟩ := X
  rw [hb] at h3 cJ
  generalize (l.take m).drop j = T at *
  generalize tokAt l j = R at *
  clear hb hm hL hg1 hg2 hs1
  go_enter Tryz.func176, Tryz.ntmps176
  go_wp2_with fail
  refine cP.mono ?_
  rintro e w' ⟨q, rfl, rfl⟩
  have V1 := V0.next (below_drewN (Below.refl _ _) q)
  have hg := below_drewN hg q
  clear V0 hK
  generalize ((w.alloc (Obj.cells #[.int .i64 0, .string ⟨#[]⟩, .int .i64 0, .int .i64 0] 180)).alloc (Obj.cells #[.int .i64 2, .int .i64 3, .int .i64 4] 211)).drewN q = w2 at *
  obtain ⟨v0, v1, v2, v3, v4, v5, v6, v7, v8⟩ := V1
  rcases h3 with ⟨h3, rfl⟩ | ⟨h3, rfl, rfl⟩ | ⟨h3, rfl, rfl⟩
  · have d1 : decide ((16 : Int) < (d : Int)) = true := by simp; omega
    go_wp2_with fail
    refine bodyPost_ret (v := .tuple #[.agg #[.int .i64 0, .string ⟨#[]⟩, .int .i64 0, .int .i64 0], .int .i64 3, .int .i64 (j : Int)]) (by simp [results, Tryz.results176, go_sem, v1, v2, v3, v4]) rfl ⟨rfl, ?_⟩
    exact (((hg.setCell (by simp) _).setCell (by simp) _).setCell (by simp) _).setCell (by simp) _
  · have d1 : decide ((16 : Int) < (d : Int)) = false := by simp; omega
    go_wp2_with fail
    refine (cJ _).mono ?_
    rintro e w' ⟨rfl, rfl⟩
    go_wp2_with fail
    refine bodyPost_ret (v := .tuple #[.agg #[.int .i64 0, .string ⟨#[]⟩, .int .i64 0, .int .i64 0], .int .i64 2, .int .i64 (m : Int)]) (by simp [results, Tryz.results176, go_sem, v1, v2, v3, v4]) rfl ⟨by rw [← hjd]; rfl, ?_⟩
    exact (((hg.setCell (by simp) _).setCell (by simp) _).setCell (by simp) _).setCell (by simp) _
  · have d1 : decide ((16 : Int) < (d : Int)) = false := by simp; omega
    go_wp2_with fail
    refine (cJ _).mono ?_
    rintro e w' ⟨rfl, rfl⟩
    go_wp2_with fail
    refine bodyPost_ret (v := .tuple #[.agg #[.int .i64 1, .string (bs T), .int .i64 0, .int .i64 (j : Int)], .int .i64 0, .int .i64 (m : Int)]) (by simp [results, Tryz.results176, go_sem, v1, v2, v3, v4]) rfl ⟨by rw [← hjd]; rfl, ?_⟩
    exact (((hg.setCell (by simp) _).setCell (by simp) _).setCell (by simp) _).setCell (by simp) _
end Go.Proofs.YtcilkcnddgacgaaGreatDoor


import Derived.Test.YtcjaaijohapeaaaDoorTf
import Derived.Test.YtcjaaijohapeaaaDoorWc
/-
  The encoding of a packet: Encode. No conditions beyond those that each names.
-/
namespace Go.Proofs.YtcjaaijohapeaaaDoor
open Go.RowKit Go.Sort Go.Lib Go.Shelf
/-- The encodings of numbers. -/
def nb (p : Pc) (l : List Nr) : List UInt8 := l.flatMap fun x => uv (p.num x.off).toNat
def mb (l : List Int) : List UInt8 := l.flatMap fun n => uv n.toNat
/-- The encoding of a packet. -/
def enc (p : Pc) : List UInt8 := (uv p.kind.toNat ++ nb p (nrs p.kind)) ++ ((if (p.kind == 3) = true then uv p.mis.length ++ mb p.mis else []) ++ (if (p.kind == 1 || p.kind == 5) = true then tv p.pay else []))
theorem Mis.at_ {w : World} {A : Option Addr} {n c : Nat} {l : List Int} (h : Mis w (.slice A n c) l) (i : Nat) (hi : i < l.length) : ∃ ab ao, A = some ⟨ab, ao, none⟩ ∧ ab < w.heap.size ∧ w.cell? ⟨ab, ao + i, none⟩ = some (.int .i64 (l[i]'hi)) := by
  obtain ⟨A', c', e, h⟩ := h
  injection e with e1 _ _
  subst e1
  rcases h with h | ⟨ab, ao, rfl, h1, h2⟩
  · rw [h] at hi; cases hi
  · exact ⟨ab, ao, rfl, h1, h2 i hi⟩
theorem nb_snoc (p : Pc) (l : List Nr) (x : Nr) : nb p (l ++ [x]) = nb p l ++ uv (p.num x.off).toNat := by simp [nb]
theorem mb_snoc (l : List Int) (n : Int) : mb (l ++ [n]) = mb l ++ uv n.toNat := by simp [mb]
theorem own_oth {w w' : World} {B b : Nat} {e : TypeId} {z n : Nat} {v : Value} {xs : List Value} (h : w.ownsRow B e z v n xs) (he : e ≠ 5) (k : Lib.OthersKept 5 (some b) w w') (hb : b < B) : w'.ownsRow B e z v n xs := by
  refine ⟨h.1, h.2.imp id ?_⟩
  rintro ⟨g, cap, cur, rfl, h2, h3, h4⟩
  exact ⟨g, cap, cur, rfl, h2, k g _ h3 (by intro e; injection e with e; omega) (fun c fz e2 => by injection e2 with _ e3; exact he e3), h4⟩
theorem Bd.next {B b : Nat} {l : List UInt8} {w w' : World} (h : Bd B b l w) (hb : Below w.heap.size w w') : Bd B b l w' := by
  refine h.imp ?_ ?_ <;> (rintro ⟨h1, v, h2, h3, h4⟩; exact ⟨h1, v, (hb.block b (Array.getElem?_eq_some_iff.1 h2).1).trans h2, own_next h3 hb, h4⟩)
theorem Bd.lt {B b : Nat} {l : List UInt8} {w : World} (h : Bd B b l w) : b < w.heap.size := by
  rcases h with ⟨_, v, h2, _⟩ | ⟨_, v, h2, _⟩ <;> exact (Array.getElem?_eq_some_iff.1 h2).1
/-- In the midst of an encoding: what is written; the packet's box. -/
structure EI (p : Pc) (mv : Value) (b : Nat) (w wr : World) (l : List UInt8) : Prop where
  bl : Below w.heap.size w wr
  bx : Bx wr w.heap.size (p.cells mv)
  bd : Bd b b l wr
  lo : w.heap.size < b
theorem EI.next {p : Pc} {mv : Value} {b : Nat} {w wr w2 : World} {l : List UInt8} (h : EI p mv b w wr l) (hb : Below wr.heap.size wr w2) : EI p mv b w w2 l := ⟨Below.next h.bl hb, h.bx.next hb, h.bd.next hb, h.lo⟩
theorem EI.ws {p : Pc} {mv : Value} {b : Nat} {w wr w2 : World} {l m : List UInt8} (h : EI p mv b w wr l) (hd : Bd b b m w2) (hb : Below b wr w2) : EI p mv b w w2 m := by
  have hl := h.lo
  refine ⟨h.bl.trans (hb.mono (Nat.le_of_lt hl)), ⟨Nat.lt_of_lt_of_le h.bx.lt hb.size, fun j v e => ?_⟩, hd, hl⟩
  exact ⟨(hb.cell (p := ⟨w.heap.size, j, none⟩) hl).trans (h.bx.at_ j v e).1, (hb.frozen (p := ⟨w.heap.size, j, none⟩) hl).trans (h.bx.at_ j v e).2⟩
/-- The writing of a string. -/
theorem EI.wr {p : Pc} {mv : Value} {b : Nat} {w wr : World} {l s : List UInt8} (h : EI p mv b w wr l) (h1 : l.length ≤ 1000000000) (h2 : s.length ≤ 1000000000) :
    Calls Tryd.prog 26 #[.pointer (some ⟨b, 0, none⟩), .string (bs s)] wr (fun e w2 => e = .returned (.tuple #[.int .i64 (s.length : Int), .nilIface]) ∧ Hid (EI p mv b w w2 (l ++ s)) ∧ Lib.OthersKept 5 (some b) wr w2) := by
  refine (wstr_any b b l s wr h.bd (by omega) (Nat.le_of_lt h.bd.lt)).mono ?_
  rintro e w2 ⟨rfl, k1, k2, k3⟩
  exact ⟨rfl, Lib.hid (h.ws k1 k2), k3⟩
theorem nb_len (p : Pc) (l : List Nr) (h : ∀ x ∈ l, inB (p.num x.off) x.lo x.hi = true) (hhi : ∀ x ∈ l, x.hi ≤ 1099511627776) : (nb p l).length ≤ 10 * l.length := by
  induction l with
  | nil => exact Nat.le_refl _
  | cons x l ih =>
    have := ih (fun y hy => h y (List.mem_cons_of_mem _ hy)) (fun y hy => hhi y (List.mem_cons_of_mem _ hy))
    have h1 : x.lo ≤ p.num x.off ∧ p.num x.off ≤ x.hi := of_decide_eq_true (h x (List.mem_cons_self ..))
    have h2 := hhi x (List.mem_cons_self ..)
    have h3 := uv_len10 (n := (p.num x.off).toNat) (by omega)
    have e : nb p (x :: l) = uv (p.num x.off).toNat ++ nb p l := rfl
    rw [e, List.length_append, List.length_cons]
    omega
theorem nrs_rng (k : Int) : ∀ x ∈ nrs k, 0 ≤ x.lo ∧ x.hi ≤ 1099511627776 := by
  intro x hx
  have hl : 0 ≤ lid k := by unfold lid; split <;> decide
  unfold nrs nrB nrS nrF at hx
  simp only [List.mem_append, List.mem_cons, List.not_mem_nil, or_false] at hx
  rcases hx with ((h | h) | h) | h
  · rcases h with rfl | rfl | rfl | rfl
    · exact ⟨by decide, by decide⟩
    · exact ⟨by decide, by decide⟩
    · exact ⟨hl, (by decide : (1073741824 : Int) ≤ 1099511627776)⟩
    · exact ⟨hl, (by decide : (1073741824 : Int) ≤ 1099511627776)⟩
  · split at h
    · simp at h; subst h; decide
    · split at h
      · simp at h; subst h; decide
      · split at h
        · simp at h; subst h; decide
        · simp at h
  · split at h
    · simp at h; rcases h with rfl | rfl <;> decide
    · simp at h
  · subst h; decide
/-- What a valid packet is. -/
theorem chk_ok {p : Pc} (h : chk p = 0) : (1 ≤ p.kind ∧ p.kind ≤ 5) ∧ (∀ x ∈ nrs p.kind, inB (p.num x.off) x.lo x.hi = true) ∧ p.pay.length ≤ 2000 ∧ p.mis.length ≤ 32 ∧ ozB p = true ∧ ascB p.fi p.la p.mis = true := by
  unfold chk at h
  by_cases h1 : inB p.kind 1 5 = true
  · rw [if_pos h1] at h
    by_cases h2 : rgB p (nrs p.kind) = true
    · rw [if_pos h2] at h
      by_cases h3 : (decide (2000 < p.pay.length) || decide (32 < p.mis.length)) = true
      · rw [if_pos h3] at h; cases h
      · rw [if_neg h3] at h
        by_cases h4 : (ozB p && ascB p.fi p.la p.mis) = true
        · rw [Bool.or_eq_true, not_or, decide_eq_true_iff, decide_eq_true_iff] at h3
          rw [Bool.and_eq_true] at h4
          exact ⟨of_decide_eq_true h1, fun x hx => (List.all_eq_true.1 h2) x hx, by omega, by omega, h4.1, h4.2⟩
        · rw [if_neg h4] at h; cases h
    · rw [if_neg h2] at h; cases h
  · rw [if_neg h1] at h; cases h
theorem asc_rng {hi : Int} : ∀ (l : List Int) (lo : Int), ascB lo hi l = true → ∀ x ∈ l, lo ≤ x ∧ x ≤ hi := by
  intro l
  induction l with
  | nil => intro lo _ x hx; cases hx
  | cons y l ih =>
    intro lo h x hx
    rw [ascB_cons, Bool.and_eq_true] at h
    have h1 : lo ≤ y ∧ y ≤ hi := of_decide_eq_true h.1
    rcases List.mem_cons.1 hx with rfl | hx
    · exact h1
    · have := ih _ h.2 x hx; omega
theorem mb_len (l : List Int) (h : ∀ x ∈ l, 0 ≤ x ∧ x ≤ 1099511627776) : (mb l).length ≤ 10 * l.length := by
  induction l with
  | nil => exact Nat.le_refl _
  | cons x l ih =>
    have := ih (fun y hy => h y (List.mem_cons_of_mem _ hy))
    have h1 := h x (List.mem_cons_self ..)
    have h3 := uv_len10 (n := x.toNat) (by omega)
    have e : mb (x :: l) = uv x.toNat ++ mb l := rfl
    rw [e, List.length_append, List.length_cons]
    omega
end Go.Proofs.YtcjaaijohapeaaaDoor

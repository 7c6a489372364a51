import Derived.Test.YtndidbanbklonaaBi
/-
  A network as data and in memory; the times at which a transmission arrives. No conditions beyond those that each names.
-/
namespace Go.Proofs.Ytndidbanbklonaa
open Go.RowKit Go.Sort Go.Lib Go.Shelf
theorem infoY : (Try.prog.info? 41).map (fun i => (i.zero, i.size, i.bytes)) = some (some (.agg #[.int .i64 0, .int .i64 0, .int .i64 0, .int .i64 0, .int .i64 0, .int .i64 0]), 6, 48) := by kernel_rfl
/-- The slice v owns the faults l. -/
def OwY (B : Nat) (w : World) (v : Value) (l : List Ft) : Prop := w.ownsRow B 41 6 v l.length (tc e6 l)
/-- A network: its nodes, its latency, its faults, how many were sent, the time before which nothing can be sent, what is pending. -/
structure Ns where
  nodes : Int
  lat : Int
  fs : List Ft
  sent : Nat
  rch : Int
  q : Sq
/-- Which delays and duplications a transmission meets; none where it is lost. -/
def dlv (at_ fr to_ : Int) : List Ft → Int → List Int → Option (Int × List Int)
  | [], o, l => some (o, l)
  | y :: ys, o, l => if cnB y at_ fr to_ = true then (if y.k = 1 ∨ y.k = 4 then none else if y.k = 2 then dlv at_ fr to_ ys (o + y.x) l else if y.k = 3 then dlv at_ fr to_ ys o (l ++ [y.x]) else dlv at_ fr to_ ys o l) else dlv at_ fr to_ ys o l
/-- The times at which it arrives. -/
def arT (lat at_ fr to_ : Int) (fs : List Ft) : List Int :=
  match dlv at_ fr to_ fs (at_ + lat) [] with
  | none => []
  | some r => r.1 :: r.2.map (r.1 + ·)
/-- A row of numbers in new memory. -/
def RoN (B : Nat) (w : World) (v : Value) (l : List Int) : Prop := Ro w v l ∧ ∀ g, v.ownBlock = some g → B ≤ g ∧ g < w.heap.size
theorem RoN.next {B : Nat} {w w' : World} {v : Value} {l : List Int} (h : RoN B w v l) (hb : Below w.heap.size w w') : RoN B w' v l := ⟨h.1.next hb, fun g e => ⟨(h.2 g e).1, Nat.lt_of_lt_of_le (h.2 g e).2 hb.size⟩⟩
theorem RoN.nil (B : Nat) (w : World) : RoN B w (.slice none 0 0) [] := ⟨Ro.nil w, fun g e => by cases e⟩
/-- One number more. -/
theorem ron_append (B : Nat) (w : World) (ty : TypeId) (A : Option Addr) (n d : Nat) (l : List Int) (x : Int) (g c : Nat) (h : RoN B w (.slice A n d) l) (hx : w.cell? ⟨g, 0, none⟩ = some (.int .i64 x)) (hn : n ≤ 2000000) (hB : B ≤ w.heap.size) :
    ∃ A' d' w', (Builtin.append_ #[54, 54] ty #[.slice A n d, .slice (some ⟨g, 0, none⟩) 1 c]).run Try.prog w = .ok (.slice A' (n + 1) d') w' ∧ RoN B w' (.slice A' (n + 1) d') (l ++ [x]) ∧ Below B w w' := by
  have hnl : n = l.length := by obtain ⟨A', c', e, -⟩ := h.1; injection e
  obtain ⟨v', w', e1, e2, e3, e4⟩ := ro_append w ty A n d l x ⟨g, 0, none⟩ c h.1 hx hn
  obtain ⟨A', d', rfl, -, h3⟩ := id e2
  rw [List.length_append, List.length_singleton, ← hnl] at e1 e2 e4
  refine ⟨A', d', w', e1, ⟨e2, fun k ek => ?_⟩, ⟨e3.os, e3.tape, e3.output, e3.size, fun i hi => e3.block i (by omega) fun e => by have := (h.2 i e.symm).1; omega⟩⟩
  have hk : k < w'.heap.size := by
    rcases h3 with ⟨-, h0⟩ | ⟨g', o', cur, rfl, hc, -⟩
    · simp at h0
    · injection ek with ek; rw [← ek]; exact (Array.getElem?_eq_some_iff.1 hc).1
  rcases e4 with e4 | ⟨g', e4, hg⟩
  · rw [e4] at ek; exact ⟨(h.2 k ek).1, hk⟩
  · rw [e4] at ek; injection ek with ek; exact ⟨by omega, hk⟩
end Go.Proofs.Ytndidbanbklonaa

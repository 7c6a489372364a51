import Derived.Test.YtcjaaijohapeaaaDoorFc
/-
  The reference's reader, beside the program's; the reference's Unframe. No conditions beyond those that each names.
-/
namespace Go.Proofs.YtcjaaijohapeaaaDoor
open Go.RowKit Go.Sort Go.Lib Go.Shelf
/-- The reference's reader stands where the program's does. -/
structure Rq (S : List UInt8) (r : Rs) (a : Nat) : Prop where
  ha : a ≤ S.length
  hl : r.e = 0 → r.l = S.drop a
theorem Rq.start (S : List UInt8) : Rq S ⟨S, 0⟩ 0 := ⟨Nat.zero_le _, fun _ => rfl⟩
def qS (S : List UInt8) (r : Rs) (a : Nat) (M : Int) : Nat := aP r.e (eS M 4 (S.drop a)) a (kU (S.drop a))
def qT (S : List UInt8) (r : Rs) (a : Nat) (M : Int) : Nat := aP r.e (eT M (S.drop a)) a (kT (S.drop a))
theorem eS_eU {M : Int} {n : Nat} {l : List UInt8} (h : eS M n l = 0) : eU l = 0 := by
  by_cases hU : eU l = 0
  · exact hU
  · unfold eS at h; rw [if_pos hU] at h; exact absurd h hU
theorem eT_eS {M : Int} {l : List UInt8} (h : eT M l = 0) : eS M 3 l = 0 := by
  by_cases hU : eS M 3 l = 0
  · exact hU
  · unfold eT at h; rw [if_pos hU] at h; exact absurd h hU
theorem Rq.small {S : List UInt8} {r : Rs} {a : Nat} (h : Rq S r a) (M : Int) : Rq S (r.small M) (qS S r a M) := by
  unfold qS Rs.small
  by_cases h0 : r.e = 0
  · have hl := h.hl h0
    rw [h0, ← hl]
    by_cases h1 : eS M 4 r.l = 0
    · have hU := eS_eU h1
      have hk := kU_len hU
      have e1 : aP 0 (eS M 4 r.l) a (kU r.l) = a + kU r.l := by unfold aP; rw [if_pos ⟨rfl, h1⟩]
      have hlen : r.l.length = S.length - a := by rw [hl, List.length_drop]
      have := h.ha
      refine ⟨by rw [e1]; omega, fun _ => ?_⟩
      have e2 : rS M r.l = rU r.l := by unfold rS; rw [if_pos ((nS_eq M 4 r.l (by decide)).1 h1)]
      show aL 0 (eS M 4 r.l) r.l (rS M r.l) = S.drop (aP 0 (eS M 4 r.l) a (kU r.l))
      rw [e1, show aL 0 (eS M 4 r.l) r.l (rS M r.l) = rS M r.l by unfold aL; rw [if_pos ⟨rfl, h1⟩], e2, rU_eq hU, hl, List.drop_drop]
    · rw [aP0 _ _ _ h1]
      exact ⟨h.ha, fun e => absurd (show aE 0 (eS M 4 r.l) = 0 from e) (by unfold aE; rw [if_pos rfl]; exact h1)⟩
  · rw [aP1 _ _ _ h0]
    exact ⟨h.ha, fun e => absurd (show aE r.e (eS M 4 r.l) = 0 from e) (by rw [aE1 _ h0]; exact h0)⟩
theorem Rq.text {S : List UInt8} {r : Rs} {a : Nat} (h : Rq S r a) (M : Int) : Rq S (r.text M) (qT S r a M) := by
  unfold qT Rs.text
  by_cases h0 : r.e = 0
  · have hl := h.hl h0
    rw [h0, ← hl]
    by_cases h1 : eT M r.l = 0
    · have hU := eS_eU (eT_eS h1)
      have hk := kU_len hU
      have hlt : ¬ (rU r.l).length < nU r.l := by
        intro h4; unfold eT at h1; rw [if_neg (by have := eT_eS (M := M) (l := r.l) (by unfold eT; exact h1); omega), if_pos h4] at h1; cases h1
      have e1 : aP 0 (eT M r.l) a (kT r.l) = a + kT r.l := by unfold aP; rw [if_pos ⟨rfl, h1⟩]
      have hlen : r.l.length = S.length - a := by rw [hl, List.length_drop]
      have hr : (rU r.l).length = r.l.length - kU r.l := by rw [rU_eq hU, List.length_drop]
      have := h.ha
      refine ⟨by rw [e1]; unfold kT; omega, fun _ => ?_⟩
      have e2 : rT M r.l = (rU r.l).drop (nU r.l) := by unfold rT; rw [if_pos h1]
      show aL 0 (eT M r.l) r.l (rT M r.l) = S.drop (aP 0 (eT M r.l) a (kT r.l))
      rw [e1, show aL 0 (eT M r.l) r.l (rT M r.l) = rT M r.l by unfold aL; rw [if_pos ⟨rfl, h1⟩], e2, rU_eq hU, List.drop_drop]
      unfold kT
      rw [hl, List.drop_drop]
    · rw [aP0 _ _ _ h1]
      exact ⟨h.ha, fun e => absurd (show aE 0 (eT M r.l) = 0 from e) (by unfold aE; rw [if_pos rfl]; exact h1)⟩
  · rw [aP1 _ _ _ h0]
    exact ⟨h.ha, fun e => absurd (show aE r.e (eT M r.l) = 0 from e) (by rw [aE1 _ h0]; exact h0)⟩
theorem Rq.rd {S : List UInt8} {r : Rs} {a : Nat} (h : Rq S r a) (M : Int) (w : World) (hS : S.length ≤ 9223372036854775000) (h1 : -9223372036854775808 ≤ M) (h2 : M ≤ 9223372036854775807) :
    Calls Tryd.prog 44 #[.agg #[.string (bs S), .int .i64 (a : Int), .int .i64 (r.e : Int)], .int .i64 M] w (Ib (.tuple #[.agg #[.string (bs S), .int .i64 (qS S r a M : Int), .int .i64 ((r.small M).e : Int)], .int .i64 (r.sval M : Int)]) w) := by
  have k := refS_any S a r.e M w hS h.ha h1 h2
  unfold rs at k
  by_cases h0 : r.e = 0
  · have hl := h.hl h0
    have e1 : (r.small M).e = aE r.e (eS M 4 (S.drop a)) := by unfold Rs.small; rw [hl]
    have e2 : r.sval M = if r.e = 0 then nS M (S.drop a) else 0 := by unfold Rs.sval; rw [hl]
    rw [e1, e2]
    exact k
  · have e1 : (r.small M).e = aE r.e (eS M 4 (S.drop a)) := by unfold Rs.small; rw [aE1 _ h0, aE1 _ h0]
    have e2 : r.sval M = if r.e = 0 then nS M (S.drop a) else 0 := by unfold Rs.sval; rw [if_neg h0, if_neg h0]
    rw [e1, e2]
    exact k
theorem Rq.rdT {S : List UInt8} {r : Rs} {a : Nat} (h : Rq S r a) (M : Int) (w : World) (hS : S.length ≤ 9223372036854775000) (h1 : -9223372036854775808 ≤ M) (h2 : M ≤ 9223372036854775807) :
    Calls Tryd.prog 45 #[.agg #[.string (bs S), .int .i64 (a : Int), .int .i64 (r.e : Int)], .int .i64 M] w (Ib (.tuple #[.agg #[.string (bs S), .int .i64 (qT S r a M : Int), .int .i64 ((r.text M).e : Int)], .string (bs (r.tval M))]) w) := by
  have k := refT_any S a r.e M w hS h.ha h1 h2
  unfold rs at k
  by_cases h0 : r.e = 0
  · have hl := h.hl h0
    have e1 : (r.text M).e = aE r.e (eT M (S.drop a)) := by unfold Rs.text; rw [hl]
    have e2 : r.tval M = if r.e = 0 then tT M (S.drop a) else [] := by unfold Rs.tval; rw [hl]
    rw [e1, e2]
    exact k
  · have e1 : (r.text M).e = aE r.e (eT M (S.drop a)) := by unfold Rs.text; rw [aE1 _ h0, aE1 _ h0]
    have e2 : r.tval M = if r.e = 0 then tT M (S.drop a) else [] := by unfold Rs.tval; rw [if_neg h0, if_neg h0]
    rw [e1, e2]
    exact k
theorem Rq.rdE {S : List UInt8} {r : Rs} {a : Nat} (h : Rq S r a) (w : World) :
    Calls Tryd.prog 46 #[.agg #[.string (bs S), .int .i64 (a : Int), .int .i64 (r.e : Int)]] w (Ib (.int .i64 (eN r.l r.e : Nat)) w) := by
  have k := refEnd_any S a r.e w h.ha
  unfold rs at k
  have e1 : eN r.l r.e = eN (S.drop a) r.e := by
    by_cases h0 : r.e = 0
    · rw [h.hl h0]
    · unfold eN; rw [if_pos h0, if_pos h0]
  rw [e1]
  exact k
/-- The boxes of the reference's Unframe. -/
structure U3 (w : World) (rB fB zB : Nat) (S : List UInt8) (a e : Nat) (f : Fg) : Prop where
  r : Bx w rB [.string (bs S), .int .i64 (a : Int), .int .i64 (e : Int)]
  f : Bx w fB (eF f)
  z : Bx w zB (eF Fg0)
  n1 : rB ≠ fB
  n2 : rB ≠ zB
  n3 : fB ≠ zB
theorem U3.next {w w' : World} {rB fB zB : Nat} {S : List UInt8} {a e : Nat} {f : Fg} (h : U3 w rB fB zB S a e f) (hb : Below w.heap.size w w') : U3 w' rB fB zB S a e f := ⟨h.r.next hb, h.f.next hb, h.z.next hb, h.n1, h.n2, h.n3⟩
theorem Bx.oth {w : World} {b : Nat} {vs : List Value} (h : Bx w b vs) (p : Addr) (u : Value) (hp : p.block ≠ b) : Bx (w.setCell p u) b vs := h.blk (by simp [World.setCell]) (Below.heap_setCell _ _ _ _ (fun e => hp e.symm))
theorem U3.step {w : World} {rB fB zB : Nat} {S : List UInt8} {a e : Nat} {f : Fg} (h : U3 w rB fB zB S a e f) (a' e' j : Nat) (u : Value) (f' : Fg) (hf : (eF f).set j u = eF f') :
    U3 ((((w.setCell ⟨rB, 0, none⟩ (.string (bs S))).setCell ⟨rB, 1, none⟩ (.int .i64 (a' : Int))).setCell ⟨rB, 2, none⟩ (.int .i64 (e' : Int))).setCell ⟨fB, j, none⟩ u) rB fB zB S a' e' f' := by
  refine ⟨(h.r.put3 _ _ _).oth _ _ (fun e => h.n1 e.symm), ?_, (((h.z.oth ⟨rB, 0, none⟩ (.string (bs S)) h.n2).oth ⟨rB, 1, none⟩ (.int .i64 (a' : Int)) h.n2).oth ⟨rB, 2, none⟩ (.int .i64 (e' : Int)) h.n2).oth ⟨fB, j, none⟩ u h.n3, h.n1, h.n2, h.n3⟩
  rw [← hf]
  exact (((h.f.oth ⟨rB, 0, none⟩ (.string (bs S)) h.n1).oth ⟨rB, 1, none⟩ (.int .i64 (a' : Int)) h.n1).oth ⟨rB, 2, none⟩ (.int .i64 (e' : Int)) h.n1).put1 j u
theorem below4 {w0 w : World} {B rB fB : Nat} (h : Below B w0 w) (h1 : B ≤ rB) (h2 : B ≤ fB) (j : Nat) (x y z u : Value) : Below B w0 ((((w.setCell ⟨rB, 0, none⟩ x).setCell ⟨rB, 1, none⟩ y).setCell ⟨rB, 2, none⟩ z).setCell ⟨fB, j, none⟩ u) :=
  (((h.setCell (p := ⟨rB, 0, none⟩) h1 _).setCell (p := ⟨rB, 1, none⟩) h1 _).setCell (p := ⟨rB, 2, none⟩) h1 _).setCell (p := ⟨fB, j, none⟩) h2 _
end Go.Proofs.YtcjaaijohapeaaaDoor

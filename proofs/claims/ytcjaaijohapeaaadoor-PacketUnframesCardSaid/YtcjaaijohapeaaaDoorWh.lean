/-
  Contracts of the reference's reader. No conditions but Go's own bounds.
-/
import Derived.Test.YtcjaaijohapeaaaDoorWg
namespace Go.Proofs.YtcjaaijohapeaaaDoor
open Go.RowKit
/-- The reference's reader. -/
def rs (S : List UInt8) (a e : Nat) : Value := .agg #[.string (bs S), .int .i64 (a : Int), .int .i64 (e : Int)]
/-- A variable of three cells that can be written. -/
structure V3 (w : World) (b : Nat) (x y z : Value) : Prop where
  lt : b < w.heap.size
  c0 : w.cell? ⟨b, 0, none⟩ = some x
  c1 : w.cell? ⟨b, 1, none⟩ = some y
  c2 : w.cell? ⟨b, 2, none⟩ = some z
  f0 : w.frozen? ⟨b, 0, none⟩ = false
  f1 : w.frozen? ⟨b, 1, none⟩ = false
  f2 : w.frozen? ⟨b, 2, none⟩ = false
theorem V3.next {w w' : World} {b : Nat} {x y z : Value} (h : V3 w b x y z) (hb : Below w.heap.size w w') : V3 w' b x y z :=
  ⟨Nat.lt_of_lt_of_le h.lt hb.size, (hb.cell h.lt).trans h.c0, (hb.cell h.lt).trans h.c1, (hb.cell h.lt).trans h.c2, (hb.frozen h.lt).trans h.f0, (hb.frozen h.lt).trans h.f1, (hb.frozen h.lt).trans h.f2⟩
theorem V3.new (w : World) (x y z : Value) (t : TypeId) : V3 (w.alloc (Obj.cells #[x, y, z] t)) w.heap.size x y z :=
  ⟨by simp, by simp, by simp, by simp, by simp, by simp, by simp⟩
theorem two (w : World) (o o' : Obj) : Below w.heap.size w ((w.alloc o).alloc o') := Below.next (one w o) (one _ o')
set_option maxRecDepth 100000 in
set_option maxHeartbeats 1000000 in
theorem failed_any (S : List UInt8) (a e e2 : Nat) (w : World) :
    Calls Tryd.prog 77 #[rs S a e, .int .i64 (e2 : Int)] w (Ib (rs S a e2) w) := by
  unfold rs
  go_enter Tryd.func77, Tryd.ntmps77
  go_wp2_with fail
  refine bodyPost_ret (v := .agg #[.string (bs S), .int .i64 (a : Int), .int .i64 (e2 : Int)]) (by simp [results, Tryd.results77, go_sem]) rfl ⟨rfl, two _ _ _⟩
/-- How many bytes a varint takes. -/
def kU (l : List UInt8) : Nat := (dv 0 0 l).2.1
/-- Where a reader stands behind a read. -/
def aP (e e2 a k : Nat) : Nat := if e = 0 ∧ e2 = 0 then a + k else a
theorem aP0 (e2 a k : Nat) (h : e2 ≠ 0) : aP 0 e2 a k = a := by unfold aP; rw [if_neg (fun x => h x.2)]
theorem aP1 {e : Nat} (e2 a k : Nat) (h : e ≠ 0) : aP e e2 a k = a := by unfold aP; rw [if_neg (fun x => h x.1)]
set_option maxRecDepth 100000 in
set_option maxHeartbeats 1000000 in
theorem refU_any (S : List UInt8) (a e : Nat) (w : World) (hS : S.length ≤ 9223372036854775000) (ha : a ≤ S.length) :
    Calls Tryd.prog 76 #[rs S a e] w (Ib (.tuple #[rs S (aP e (eU (S.drop a)) a (kU (S.drop a))) (aE e (eU (S.drop a))), .int .u64 ((if e = 0 then nU (S.drop a) else 0 : Nat) : Int)]) w) := by
  have cV : ∀ w, Calls Tryd.prog 93 #[.string (bs S), .int .i64 (a : Int)] w (Is (.tuple #[.int .u64 (nU (S.drop a) : Int), .int .i64 ((a + kU (S.drop a) : Nat) : Int), .int .i64 (eU (S.drop a) : Int)]) w) := fun w => varint_any S w a _ _ _ hS ha (dv_all (S.drop a))
  have cF := fun e2 w => failed_any S a e e2 w
  have hn : eU (S.drop a) ≠ 0 → nU (S.drop a) = 0 := nU_err
  generalize eU (S.drop a) = e2 at *
  generalize nU (S.drop a) = n at *
  generalize kU (S.drop a) = k at *
  unfold rs at *
  by_cases he : e = 0
  · subst he
    rw [if_pos rfl, show aE 0 e2 = e2 by rfl]
    by_cases h2 : e2 = 0
    · subst h2
      rw [show aP 0 0 a k = a + k by rfl]
      generalize a + k = p at *
      clear hn cF
      go_enter Tryd.func76, Tryd.ntmps76
      go_wp2_with fail
      refine (cV _).mono ?_
      rintro e w' ⟨rfl, rfl⟩
      go_wp2_with fail
      refine bodyPost_ret (v := .tuple #[.agg #[.string (bs S), .int .i64 (p : Int), .int .i64 0], .int .u64 (n : Int)]) (by simp [results, Tryd.results76, go_sem]) rfl ⟨rfl, two _ _ _⟩
    · rw [aP0 _ _ _ h2]
      rw [hn h2] at cV ⊢
      have hd : ((e2 : Int) != 0) = true := by simpa using h2
      have hv := (V3.new (w.alloc (Obj.cells #[.string (bs S), .int .i64 (a : Int), .int .i64 0] 93)) (.string ⟨#[]⟩) (.int .i64 0) (.int .i64 0) 93)
      clear hn h2
      go_enter Tryd.func76, Tryd.ntmps76
      go_wp2_with fail
      refine (cV _).mono ?_
      rintro e w' ⟨rfl, rfl⟩
      go_wp2_with fail
      refine (cF e2 _).mono ?_
      rintro e w1 ⟨rfl, hb⟩
      have hb2 := Below.next (two w _ _) hb
      have hv2 := hv.next hb
      obtain ⟨v0, v1, v2, v3, v4, v5, v6⟩ := hv2
      have hs : (w.alloc (Obj.cells #[.string (bs S), .int .i64 (a : Int), .int .i64 0] 93)).heap.size = w.heap.size + 1 := by simp
      rw [hs] at v0 v1 v2 v3 v4 v5 v6
      clear hv hs
      go_wp2_with fail
      refine bodyPost_ret (v := .tuple #[.agg #[.string (bs S), .int .i64 (a : Int), .int .i64 (e2 : Int)], .int .u64 0]) (by simp [results, Tryd.results76, go_sem, v1, v2, v3]) rfl ⟨rfl, ?_⟩
      exact ((hb2.setCell (by simp) _).setCell (by simp) _).setCell (by simp) _
  · rw [if_neg he, aP1 _ _ _ he, aE1 _ he]
    have hd : ((e : Int) != 0) = true := by simpa using he
    clear he hn cF cV
    go_enter Tryd.func76, Tryd.ntmps76
    go_wp2_with fail
    refine bodyPost_ret (v := .tuple #[.agg #[.string (bs S), .int .i64 (a : Int), .int .i64 (e : Int)], .int .u64 0]) (by simp [results, Tryd.results76, go_sem]) rfl ⟨rfl, two _ _ _⟩
end Go.Proofs.YtcjaaijohapeaaaDoor

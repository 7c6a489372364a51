import Derived.Test.YtiooilkbbfflaaaHf
import Derived.StillTailTactics
/-
  A sorted container in memory: its first element; the search for a number. No conditions beyond those that each names.
-/
namespace Go.Proofs.Ytiooilkbbfflaaa
open Go.RowKit Go.Sort Go.Lib Go.Shelf
/-- Only the blocks of s change, and memory grows. -/
structure Fm (s : Nat → Prop) (w w' : World) : Prop where
  os : w'.os = w.os
  tape : w'.tape = w.tape
  output : w'.output = w.output
  size : w.heap.size ≤ w'.heap.size
  blk : ∀ i, i < w.heap.size → ¬ s i → w'.heap[i]? = w.heap[i]?
theorem Fm.of {w w' : World} (s : Nat → Prop) (h : Below w.heap.size w w') : Fm s w w' := ⟨h.os, h.tape, h.output, h.size, fun i hi _ => h.block i hi⟩
theorem Fm.gb {w w' : World} {s : Nat → Prop} {q : Option Nat} (h : w.grownBy w' q) (hs : ∀ i, q = some i → s i) : Fm s w w' := ⟨h.os, h.tape, h.output, h.size, fun i hi hn => h.block i hi (fun e => hn (hs i e.symm))⟩
theorem Fm.trans {s t : Nat → Prop} {w w1 w2 : World} (h : Fm s w w1) (k : Fm t w1 w2) (hs : ∀ i, i < w.heap.size → t i → s i) : Fm s w w2 :=
  ⟨k.os.trans h.os, k.tape.trans h.tape, k.output.trans h.output, Nat.le_trans h.size k.size, fun i hi hn => (k.blk i (Nat.lt_of_lt_of_le hi h.size) (fun e => hn (hs i hi e))).trans (h.blk i hi hn)⟩
theorem Fm.refl (s : Nat → Prop) (w : World) : Fm s w w := ⟨rfl, rfl, rfl, Nat.le_refl _, fun _ _ _ => rfl⟩
theorem Fm.below {s : Nat → Prop} {w w' : World} {B : Nat} (h : Fm s w w') (hB : B ≤ w.heap.size) (hs : ∀ i, s i → B ≤ i) : Below B w w' :=
  ⟨h.os, h.tape, h.output, h.size, fun i hi => h.blk i (Nat.lt_of_lt_of_le hi hB) (fun e => by have := hs i e; omega)⟩
/-- A container at a place: its slice owns its elements. -/
structure Sd (B p o : Nat) (w : World) (v : Value) (l : List Tm) : Prop where
  c : w.cell? ⟨p, o, none⟩ = some v
  f : w.frozen? ⟨p, o, none⟩ = false
  own : OwT B w v l
  ne : v.ownBlock ≠ some p
theorem Sd.lt {B p o : Nat} {w : World} {v : Value} {l : List Tm} (h : Sd B p o w v l) : p < w.heap.size := blk_lt h.c
theorem Sd.next {B p o : Nat} {w w' : World} {v : Value} {l : List Tm} (h : Sd B p o w v l) (hb : Below w.heap.size w w') : Sd B p o w' v l :=
  ⟨cell_next hb h.c, (hb.frozen h.lt).trans h.f, own_next h.own hb, h.ne⟩
/-- What a call that changes a container leaves. -/
structure Mv (B p o : Nat) (v : Value) (l' : List Tm) (w : World) (v' : Value) (w' : World) : Prop where
  sd : Sd B p o w' v' l'
  nb : NB w v v'
  fm : Fm (fun i => i = p ∨ v.ownBlock = some i) w w'
  cl : ∀ j, j ≠ o → w'.cell? ⟨p, j, none⟩ = w.cell? ⟨p, j, none⟩
  fr : ∀ j, w'.frozen? ⟨p, j, none⟩ = w.frozen? ⟨p, j, none⟩
def MvP (B p o : Nat) (v : Value) (l' : List Tm) (r : Value) (w : World) (e : Ending) (w' : World) : Prop := e = .returned r ∧ ∃ v', Mv B p o v l' w v' w'
theorem Mv.of {B p o : Nat} {v v' : Value} {l l' : List Tm} {w w1 : World} (h : Sd B p o w v l) (hg : w.grownBy w1 v.ownBlock) (ho : OwT B w1 v' l') (nb : NB w v v') : Mv B p o v l' w v' (w1.setCell ⟨p, o, none⟩ v') := by
  have hp := h.lt
  have hpb : w1.heap[p]? = w.heap[p]? := hg.block p hp (fun e => h.ne e.symm)
  have hne : v'.ownBlock ≠ some p := by
    rcases nb with e | ⟨g, e, hge⟩
    · rw [e]; exact h.ne
    · rw [e]; intro e2; injection e2 with e2; omega
  have hc : ∀ j, w1.cell? ⟨p, j, none⟩ = w.cell? ⟨p, j, none⟩ := fun j => World.cell?_of_block hpb
  have hf : ∀ j, w1.frozen? ⟨p, j, none⟩ = w.frozen? ⟨p, j, none⟩ := fun j => World.frozen?_of_block hpb
  have fr : ∀ j, (w1.setCell ⟨p, o, none⟩ v').frozen? ⟨p, j, none⟩ = w.frozen? ⟨p, j, none⟩ := fun j => by
    rw [← hf j]; simp
  refine ⟨⟨World.cell?_setCell_same (h := (hc o).trans h.c) .., (fr o).trans h.f, ho.kept (gb_set1 w1 ⟨p, o, none⟩ v') (.inr hne), hne⟩, nb, ?_, fun j hj => ?_, fr⟩
  · refine (Fm.gb (s := fun i => i = p ∨ v.ownBlock = some i) hg fun i e => .inr e).trans (Fm.gb (s := fun i => i = p ∨ v.ownBlock = some i) (gb_set1 w1 ⟨p, o, none⟩ v') fun i e => .inl ?_) fun i _ e => e
    injection e with e; exact e.symm
  · have nn : (⟨p, o, none⟩ : Addr) ≠ ⟨p, j, none⟩ := fun e => hj (by injection e with _ e; exact e.symm)
    exact (World.cell?_setCell_other (h := nn) ..).trans (hc j)
/-- The first timer, or none. -/
def hdT : List Tm → Tm
  | [] => ⟨0, 0, 0⟩
  | x :: _ => x
set_option maxRecDepth 100000 in
set_option maxHeartbeats 2000000 in
theorem first_any (B p o : Nat) (v : Value) (l : List Tm) (w : World) (hl : l.length ≤ 1000000) (hs : Sd B p o w v l) :
    Calls Try.prog 27 #[.pointer (some ⟨p, o, none⟩)] w (Ib (.tuple #[(.agg #[.int .i64 ((hdT l).id : Int), .int .i64 ((hdT l).at_ : Int), .int .i64 ((hdT l).per : Int)]), .bool !l.isEmpty]) w) := by
  have c0 := hs.c
  have lp := hs.lt
  obtain ⟨A, c, rfl, hA⟩ := own_nil_or hs.own
  cases l with
  | nil =>
    clear hs hA
    go_enter Try.func27, Try.ntmps27
    go_wp2_with fail
    refine bodyPost_ret (v := .tuple #[.agg #[.int .i64 0, .int .i64 0, .int .i64 0], .bool false]) (by simp [results, Try.results27, go_sem]) rfl ?_
    exact ⟨rfl, ab2 _ _ _⟩
  | cons x l =>
    rcases hA with ⟨-, -, h0⟩ | ⟨g, rfl, -, hg, -⟩
    · simp at h0
    have k0 := own_cells e3_len hs.own 0 (Nat.succ_pos _) 0 _ rfl
    have k1 := own_cells e3_len hs.own 0 (Nat.succ_pos _) 1 _ rfl
    have k2 := own_cells e3_len hs.own 0 (Nat.succ_pos _) 2 _ rfl
    simp only [List.getElem_cons_zero, Nat.zero_mul, Nat.zero_add] at k0 k1 k2
    clear hs
    go_enter Try.func27, Try.ntmps27
    go_wp2_with fail
    refine bodyPost_ret (v := .tuple #[(.agg #[.int .i64 (x.id : Int), .int .i64 (x.at_ : Int), .int .i64 (x.per : Int)]), .bool true]) (by simp [results, Try.results27, go_sem]) rfl ?_
    exact ⟨rfl, ab1 _ _⟩
end Go.Proofs.Ytiooilkbbfflaaa

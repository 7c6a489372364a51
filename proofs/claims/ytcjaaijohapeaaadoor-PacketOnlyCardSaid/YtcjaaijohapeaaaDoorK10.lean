/-
  Exact cells of rows; which blocks change; rows of numbers at any offset. No conditions beyond those that each names.
-/
import Derived.Test.YtcjaaijohapeaaaDoorK09
import Derived.Test.YtcjaaijohapeaaaDoorK05
import Derived.StillTailTactics
import Derived.Maps.RangeWalk
import Derived.Deep.AppendSrc
namespace Go.Proofs.YtcjaaijohapeaaaDoor
open Go.RowKit Go.Shelf Go.Lib
/-- The cells of a row. -/
def tc {α : Type} (enc : α → List Value) (l : List α) : List Value := l.flatMap enc
theorem tc_nil {α : Type} (enc : α → List Value) : tc enc [] = [] := rfl
theorem tc_cons {α : Type} (enc : α → List Value) (x : α) (l : List α) : tc enc (x :: l) = enc x ++ tc enc l := rfl
theorem tc_app {α : Type} (enc : α → List Value) (l m : List α) : tc enc (l ++ m) = tc enc l ++ tc enc m := by simp [tc]
theorem tc_one {α : Type} (enc : α → List Value) (x : α) : tc enc [x] = enc x := by simp [tc]
theorem tc_len {α : Type} {enc : α → List Value} {z : Nat} (hz : ∀ x, (enc x).length = z) : ∀ l : List α, (tc enc l).length = l.length * z
  | [] => by simp [tc]
  | x :: l => by rw [tc_cons, List.length_append, hz, tc_len hz l, List.length_cons, Nat.add_mul, Nat.one_mul, Nat.add_comm]
theorem tc_take {α : Type} {enc : α → List Value} {z : Nat} (hz : ∀ x, (enc x).length = z) (l : List α) (i : Nat) (hi : i ≤ l.length) : (tc enc l).take (i * z) = tc enc (l.take i) := by
  have h1 : (tc enc (l.take i)).length = i * z := by rw [tc_len hz, List.length_take, Nat.min_eq_left hi]
  have e : tc enc l = tc enc (l.take i) ++ tc enc (l.drop i) := by rw [← tc_app, List.take_append_drop]
  rw [e, ← h1, List.take_left]
theorem tc_drop {α : Type} {enc : α → List Value} {z : Nat} (hz : ∀ x, (enc x).length = z) (l : List α) (i : Nat) (hi : i ≤ l.length) : (tc enc l).drop (i * z) = tc enc (l.drop i) := by
  have h1 : (tc enc (l.take i)).length = i * z := by rw [tc_len hz, List.length_take, Nat.min_eq_left hi]
  have e : tc enc l = tc enc (l.take i) ++ tc enc (l.drop i) := by rw [← tc_app, List.take_append_drop]
  rw [e, ← h1, List.drop_left]
theorem tc_get {α : Type} {enc : α → List Value} {z : Nat} (hz : ∀ x, (enc x).length = z) (l : List α) (i j : Nat) (hi : i < l.length) (hj : j < z) : (tc enc l)[i * z + j]? = (enc (l[i]'hi))[j]? := by
  have h1 : ((tc enc l).drop (i * z))[j]? = (enc (l[i]'hi))[j]? := by
    rw [tc_drop hz l i (by omega), List.drop_eq_getElem_cons hi, tc_cons, List.getElem?_append_left (by rw [hz]; exact hj)]
  rw [List.getElem?_drop] at h1
  exact h1
theorem tc_one' {α : Type} {enc : α → List Value} (hz : ∀ x (u : Value), u ∈ enc x → u.oneCell' = true) (l : List α) : ∀ u ∈ tc enc l, u.oneCell' = true := fun u hu => by
  obtain ⟨x, -, hx⟩ := List.mem_flatMap.1 hu
  exact hz x u hx
/-- Where a slice's row lies behind a call: where it lay, or in new memory. -/
def NB (w : World) (v v' : Value) : Prop := v'.ownBlock = v.ownBlock ∨ ∃ g, v'.ownBlock = some g ∧ w.heap.size ≤ g
theorem NB.of {w : World} {v v' : Value} (h : v'.ownBlock = v.ownBlock ∨ v'.ownBlock = some w.heap.size) : NB w v v' := h.imp id fun h => ⟨_, h, Nat.le_refl _⟩
theorem NB.trans {w w1 : World} {v v1 v2 : Value} (h : NB w v v1) (hs : w.heap.size ≤ w1.heap.size) (k : NB w1 v1 v2) : NB w v v2 := by
  rcases k with k | ⟨g, k1, k2⟩
  · rcases h with h | ⟨g, h1, h2⟩
    · exact .inl (k.trans h)
    · exact .inr ⟨g, k.trans h1, h2⟩
  · exact .inr ⟨g, k1, Nat.le_trans hs k2⟩
theorem own_nil_or {w : World} {B : Nat} {e : TypeId} {z n : Nat} {v : Value} {xs : List Value} (h : w.ownsRow B e z v n xs) : ∃ A c, v = .slice A n c ∧ (A = none ∧ c = 0 ∧ n = 0 ∨ ∃ g, A = some ⟨g, 0, none⟩ ∧ B ≤ g ∧ g < w.heap.size ∧ n ≤ c) := by
  rcases h.2 with ⟨h1, h2⟩ | ⟨g, cap, cur, h1, h2, h3, h4, -⟩
  · subst h2; exact ⟨_, _, h1, .inl ⟨rfl, rfl, rfl⟩⟩
  · exact ⟨_, _, h1, .inr ⟨g, rfl, h2, (Array.getElem?_eq_some_iff.1 h3).1, h4⟩⟩
/-- The cells of an element. -/
theorem own_cells {α : Type} {enc : α → List Value} {z : Nat} (hz : ∀ x, (enc x).length = z) {w : World} {B : Nat} {e : TypeId} {l : List α} {g c : Nat} (h : w.ownsRow B e z (.slice (some ⟨g, 0, none⟩) l.length c) l.length (tc enc l)) (i : Nat) (hi : i < l.length) (j : Nat) (v : Value) (hv : (enc (l[i]'hi))[j]? = some v) : w.cell? ⟨g, i * z + j, none⟩ = some v := by
  have hj : j < z := by have := (List.getElem?_eq_some_iff.1 hv).1; rw [hz] at this; exact this
  have h1 := h.cells (g := g) rfl (i * z + j) v (by rw [tc_get hz l i j hi hj]; exact hv)
  rw [show (⟨g, 0, none⟩ : Addr).add (i * z + j) = ⟨g, i * z + j, none⟩ by unfold Addr.add; split <;> simp_all] at h1
  exact h1
/-- Only the blocks of s change, and memory grows. -/
structure Fm (s : Nat → Prop) (w w' : World) : Prop where
  os : w'.os = w.os
  tape : w'.tape = w.tape
  output : w'.output = w.output
  size : w.heap.size ≤ w'.heap.size
  blk : ∀ i, i < w.heap.size → ¬ s i → w'.heap[i]? = w.heap[i]?
theorem Fm.of {w w' : World} (s : Nat → Prop) (h : Below w.heap.size w w') : Fm s w w' := ⟨h.os, h.tape, h.output, h.size, fun i hi _ => h.block i hi⟩
theorem Fm.gb {w w' : World} {s : Nat → Prop} {q : Option Nat} (h : w.grownBy w' q) (hs : ∀ i, q = some i → s i) : Fm s w w' := ⟨h.os, h.tape, h.output, h.size, fun i hi hn => h.block i hi (fun e => hn (hs i e.symm))⟩
theorem Fm.trans {s t : Nat → Prop} {w w1 w2 : World} (h : Fm s w w1) (k : Fm t w1 w2) (hs : ∀ i, i < w.heap.size → t i → s i) : Fm s w w2 :=
  ⟨k.os.trans h.os, k.tape.trans h.tape, k.output.trans h.output, Nat.le_trans h.size k.size, fun i hi hn => (k.blk i (Nat.lt_of_lt_of_le hi h.size) (fun e => hn (hs i hi e))).trans (h.blk i hi hn)⟩
theorem Fm.refl (s : Nat → Prop) (w : World) : Fm s w w := ⟨rfl, rfl, rfl, Nat.le_refl _, fun _ _ _ => rfl⟩
theorem Fm.below {s : Nat → Prop} {w w' : World} {B : Nat} (h : Fm s w w') (hB : B ≤ w.heap.size) (hs : ∀ i, s i → B ≤ i) : Below B w w' :=
  ⟨h.os, h.tape, h.output, h.size, fun i hi => h.blk i (Nat.lt_of_lt_of_le hi hB) (fun e => by have := hs i e; omega)⟩
theorem Fm.weak {s t : Nat → Prop} {w w' : World} (h : Fm s w w') (k : ∀ i, s i → t i) : Fm t w w' := ⟨h.os, h.tape, h.output, h.size, fun i hi hn => h.blk i hi fun e => hn (k i e)⟩
theorem fr_set (w : World) (p j i : Nat) (u : Value) : (w.setCell ⟨p, j, none⟩ u).frozen? ⟨p, i, none⟩ = w.frozen? ⟨p, i, none⟩ := by simp
end Go.Proofs.YtcjaaijohapeaaaDoor
/-
  Rows of numbers at any offset of a block; append of one. A map of slices keyed by numbers. No conditions beyond those that each names.
-/
namespace Go.Proofs.YtcjaaijohapeaaaDoor
open Go.RowKit Go.Shelf Go.Lib
open Go.Maps (Keyed)
/-- A number's cell. -/
def i1 (x : Int) : List Value := [.int .i64 x]
theorem i1_len (x : Int) : (i1 x).length = 1 := rfl
theorem i1_one (x : Int) (u : Value) (h : u ∈ i1 x) : u.oneCell' = true := by
  simp only [i1, List.mem_cons, List.not_mem_nil, or_false] at h
  subst h; rfl
theorem tl_len (l : List Int) : (tc i1 l).length = l.length := by rw [tc_len i1_len, Nat.mul_one]
theorem infoI : (Tryd.prog.info? 3).map (fun i => (i.zero, i.size, i.bytes)) = some (some (.int .i64 0), 1, 8) := by kernel_rfl
/-- The slice v holds the numbers l, in a block of its own. -/
def Ro (w : World) (v : Value) (l : List Int) : Prop := ∃ A c, v = .slice A l.length c ∧ c ≤ maxLen ∧ ((c = 0 ∧ l = []) ∨ ∃ g o cur, A = some ⟨g, o, none⟩ ∧ w.heap[g]? = some (.cells cur 3 (0, 0)) ∧ l.length ≤ c ∧ 0 < c ∧ cur.size = o + c ∧ (cur.toList.drop o).take l.length = tc i1 l)
theorem Ro.nil (w : World) : Ro w (.slice none 0 0) [] := ⟨none, 0, rfl, Nat.zero_le _, .inl ⟨rfl, rfl⟩⟩
theorem Ro.blk {w w' : World} {v : Value} {l : List Int} (h : Ro w v l) (hb : ∀ g, g < w.heap.size → v.ownBlock = some g → w'.heap[g]? = w.heap[g]?) : Ro w' v l := by
  obtain ⟨A, c, rfl, hc, h⟩ := h
  refine ⟨A, c, rfl, hc, h.imp id ?_⟩
  rintro ⟨g, o, cur, rfl, h1, h2⟩
  exact ⟨g, o, cur, rfl, (hb g (Array.getElem?_eq_some_iff.1 h1).1 rfl).trans h1, h2⟩
theorem Ro.next {w w' : World} {v : Value} {l : List Int} (h : Ro w v l) (hb : Below w.heap.size w w') : Ro w' v l := h.blk fun g hg _ => hb.block g hg
theorem Ro.kept {w w' : World} {v : Value} {l : List Int} {q : Option Nat} (h : Ro w v l) (hb : w.grownBy w' q) (hq : q = none ∨ v.ownBlock ≠ q) : Ro w' v l := h.blk fun g hg e => hb.block g hg fun e2 => by
  rcases hq with hq | hq
  · rw [hq] at e2; cases e2
  · exact hq (e.trans e2)
theorem Ro.fm {w w' : World} {v : Value} {l : List Int} {s : Nat → Prop} (h : Ro w v l) (hb : Fm s w w') (hq : ∀ g, v.ownBlock = some g → ¬ s g) : Ro w' v l := h.blk fun g hg e => hb.blk g hg (hq g e)
/-- A cell of the row. -/
theorem Ro.cell {w : World} {g o n c : Nat} {l : List Int} (h : Ro w (.slice (some ⟨g, o, none⟩) n c) l) (i : Nat) (hi : i < l.length) : w.cell? ⟨g, o + i, none⟩ = some (.int .i64 (l[i]'hi)) := by
  obtain ⟨A, c', e, hc, ⟨rfl, rfl⟩ | ⟨g', o', cur, rfl, h1, h2, h3, h4, h5⟩⟩ := h
  · simp at hi
  injection e with e1 e2 e3
  injection e1 with e1
  injection e1 with e1 e4
  subst e1 e4 e3
  rw [cell_lit h1, ← Array.getElem?_toList]
  have h6 : (tc i1 l)[i * 1 + 0]? = (i1 (l[i]'hi))[0]? := tc_get i1_len l i 0 hi (by decide)
  rw [← h5, Nat.mul_one, Nat.add_zero, List.getElem?_take, if_pos hi, List.getElem?_drop] at h6
  rw [h6]; rfl
theorem Ro.pos {w : World} {A : Option Addr} {n c : Nat} {l : List Int} (h : Ro w (.slice A n c) l) (hl : l ≠ []) : n = l.length ∧ n ≤ c ∧ ∃ g o, A = some ⟨g, o, none⟩ ∧ g < w.heap.size := by
  obtain ⟨A, c', e, hc, ⟨rfl, rfl⟩ | ⟨g', o', cur, rfl, h1, h2, h3, h4, h5⟩⟩ := h
  · exact absurd rfl hl
  injection e with e1 e2 e3
  subst e1 e2 e3
  exact ⟨rfl, h2, g', o', rfl, (Array.getElem?_eq_some_iff.1 h1).1⟩
/-- Without its first number. -/
theorem Ro.tail {w : World} {g o n c : Nat} {x : Int} {l : List Int} (h : Ro w (.slice (some ⟨g, o, none⟩) n c) (x :: l)) : Ro w (.slice (if c = 1 then some ⟨g, o, none⟩ else some ⟨g, o + 1, none⟩) l.length (c - 1)) l := by
  obtain ⟨A, c', e, hc, ⟨-, h⟩ | ⟨g', o', cur, rfl, h1, h2, h3, h4, h5⟩⟩ := h
  · cases h
  injection e with e1 e2 e3
  injection e1 with e1
  injection e1 with e1 e4
  subst e1 e4 e3
  rw [List.length_cons] at h2
  refine ⟨_, c - 1, rfl, by omega, ?_⟩
  by_cases h6 : c = 1
  · exact .inl ⟨by omega, List.eq_nil_of_length_eq_zero (by omega)⟩
  · rw [if_neg h6]
    refine .inr ⟨g, o + 1, cur, rfl, h1, by omega, by omega, by omega, ?_⟩
    rw [List.length_cons, tc_cons] at h5
    have h7 : ((cur.toList.drop o).take (l.length + 1)).drop 1 = tc i1 l := by rw [h5]; rfl
    rw [List.drop_take, Nat.add_sub_cancel, List.drop_drop] at h7
    exact h7
theorem ro_room {P : Program} (w : World) (t ty e : TypeId) (i : TypeInfo) (ht : P.underlying t = some (.slice e)) (hi : P.info? e = some i) (hs : i.size = 1)
    (g off sLen sCap : Nat) (cur : Array Value) (hg : w.heap[g]? = some (.cells cur e (0, 0)))
    (a : Addr) (c : Nat) (u : Value) (hnews : w.cell? (a.add 0) = some u) (h1 : u.oneCell' = true)
    (hroom : sLen + 1 ≤ sCap) (hfit : off + sLen + 1 ≤ cur.size) :
    (Builtin.append_ #[t, t] ty #[.slice (some ⟨g, off, none⟩) sLen sCap, .slice (some a) 1 c]).run P w =
      .ok (.slice (some ⟨g, off, none⟩) (sLen + 1) sCap) (w.setRow g (cur.toList.take (off + sLen) ++ [u] ++ cur.toList.drop (off + sLen + 1)).toArray) := by
  have hf := run_firstCells_some (P := P) w i.size 1 a 1 c [u] (by rw [hs]; rfl) (fun j v hj => by
    match j, hj with
    | 0, hj => simp at hj; subst hj; exact hnews)
  have hst := run_storeCells_at P g (off + sLen) e [u] 0 cur w hg (by simpa using hfit) (fun v hv => by simp at hv; subst hv; exact h1)
  simp only [Nat.add_zero, List.length_singleton] at hst
  simp [Builtin.append_, run_underlying ht, sizeOf, typeInfo, hi, hs, Builtin.lenOf, hroom, Addr.add_lit]
  rw [hs] at hf
  simp [hf, hst]
/-- One number more. -/
theorem ro_append (w : World) (ty : TypeId) (A : Option Addr) (n d : Nat) (l : List Int) (x : Int) (a : Addr) (c : Nat) (h : Ro w (.slice A n d) l) (hx : w.cell? (a.add 0) = some (.int .i64 x)) (hn : n ≤ 2000000) :
    ∃ v' w', (Builtin.append_ #[23, 23] ty #[.slice A n d, .slice (some a) 1 c]).run Tryd.prog w = .ok v' w' ∧ Ro w' v' (l ++ [x]) ∧ w.grownBy w' (Value.slice A n d).ownBlock ∧ NB w (.slice A n d) v' := by
  obtain ⟨i, hi, hz, hs, hby⟩ := info_parts infoI
  have grow : ∀ (olds : List Value), olds = tc i1 l → n = l.length → d < n + 1 → (Builtin.firstCells i.size n (.slice A n d)).run Tryd.prog w.drew = .ok olds.toArray w.drew →
      ∃ v' w', (Builtin.append_ #[23, 23] ty #[.slice A n d, .slice (some a) 1 c]).run Tryd.prog w = .ok v' w' ∧ Ro w' v' (l ++ [x]) ∧ w.grownBy w' (Value.slice A n d).ownBlock ∧ NB w (.slice A n d) v' := by
    intro olds ho hnl hd hold
    have hr := run_append_grow_src (P := Tryd.prog) w 23 23 ty 3 i _ Tryd.underlying23 hi hz A n d olds hold _ 1 [.int .i64 x]
      (Src.ofSlice w Tryd.underlying23 a 1 c [.int .i64 x] (by rw [hs]; rfl) (fun j u hj => by
        match j, hj with
        | 0, hj => simp at hj; subst hj; exact hx) (fun u hu => by simp at hu; subst hu; rfl)) hd (by omega) (by rw [hby]; exact growslice_fits (by omega) (by omega))
    refine ⟨_, _, hr, ?_, ⟨rfl, rfl, rfl, by simp, fun k hk _ => heap_alloc_old w.drew _ hk⟩, .inr ⟨_, rfl, Nat.le_refl _⟩⟩
    have hge := grownCap_ge w (n + 1) d 3
    have hcm : grownCap w (n + 1) d 3 ≤ maxLen := grownCap_le_maxLen w (n + 1) d 3 (by unfold maxLen; omega)
    refine ⟨_, _, by rw [List.length_append, ← hnl]; rfl, hcm, .inr ⟨w.heap.size, 0, _, rfl, heap_alloc_new w.drew _, by rw [List.length_append, ← hnl]; exact hge, by omega, ?_, ?_⟩⟩
    · simp only [Array.size_append, List.size_toArray, size_zeroCells, ho, List.length_append, tl_len, ← hnl, Nat.zero_add]
      rw [show (Value.int IntKind.i64 0).cells.size = 1 from rfl]
      simp only [List.length_singleton]
      omega
    · rw [List.drop_zero, Array.toList_append, List.toList_toArray, ho, tc_app]
      have : (tc i1 l ++ [Value.int IntKind.i64 x]).length = (l ++ [x]).length := by rw [List.length_append, tl_len, List.length_append]; rfl
      rw [← this]
      exact List.take_left
  obtain ⟨A', d', e, hc, ⟨rfl, rfl⟩ | ⟨g, o, cur, rfl, h1, h2, h3, h4, h5⟩⟩ := h
  · injection e with e1 e2 e3
    subst e1 e2 e3
    refine grow [] rfl rfl (by decide) ?_
    cases A with
    | none => exact run_firstCells_none w.drew _ _ _ _
    | some q => simp [Builtin.firstCells, loadCells, loadCellsFrom]
  · injection e with e1 e2 e3
    subst e1 e2 e3
    by_cases hr : l.length + 1 ≤ d
    · have hrun := ro_room (P := Tryd.prog) w 23 ty 3 i Tryd.underlying23 hi hs g o l.length d cur h1 a c _ hx rfl hr (by omega)
      have hcl : cur.toList.length = o + d := by rw [Array.length_toList]; exact h4
      have hA : (cur.toList.take (o + l.length) ++ [Value.int .i64 x] ++ cur.toList.drop (o + l.length + 1)).toArray.size = o + d := by
        rw [List.size_toArray, List.length_append, List.length_append, List.length_take, List.length_drop, hcl, List.length_singleton]; omega
      refine ⟨_, _, hrun, ⟨some ⟨g, o, none⟩, d, by rw [List.length_append]; rfl, hc, .inr ⟨g, o, _, rfl, setRow_heap w g cur _ 3 _ h1, by rw [List.length_append]; exact hr, h3, hA, ?_⟩⟩, ⟨rfl, rfl, rfl, by simp, fun k _ hk => setRow_other w g k _ (fun e => hk (by simp [Value.ownBlock, e]))⟩, .inl rfl⟩
      rw [List.toList_toArray, List.append_assoc, tc_app]
      have h6 : (cur.toList.take (o + l.length)).drop o = tc i1 l := by rw [List.drop_take, Nat.add_sub_cancel_left]; exact h5
      have h7 : (cur.toList.take (o + l.length)).length = o + l.length := by rw [List.length_take, hcl]; omega
      rw [List.drop_append_of_le_length (by rw [h7]; omega), h6, ← List.append_assoc]
      have h8 : (tc i1 l ++ [Value.int .i64 x]).length = (l ++ [x]).length := by rw [List.length_append, tl_len, List.length_append]; rfl
      rw [← h8]
      exact List.take_left
    · refine grow (tc i1 l) rfl rfl (by omega) ?_
      rw [hs]
      exact run_firstCells_some w.drew 1 l.length ⟨g, o, none⟩ l.length d (tc i1 l) (by rw [tl_len, Nat.mul_one]) (fun j u hj => by
        rw [Addr.add_lit]
        have hc' : w.drew.heap[g]? = some (.cells cur 3 (0, 0)) := h1
        rw [cell_lit hc', ← Array.getElem?_toList]
        rw [← h5] at hj
        have := take_get hj
        rw [List.getElem?_drop] at this
        exact this)
/-- How a slice in a map reads: as itself. -/
def rSl : Value → Option (DataW Value × List MemPlace)
  | .slice A n c => some (.held (.slice A n c), [])
  | _ => none
theorem rSl_inv {v u : Value} {ps : List MemPlace} (h : rSl v = some (.held u, ps)) : v = u := by
  cases v <;> simp [rSl] at h
  exact h.1
theorem keyI : Keyed Tryd.prog 3 := Go.Maps.int_keyed Tryd.underlying3
/-- A time that a map's key can be. -/
def I64 (t : Int) : Prop := -9223372036854775808 ≤ t ∧ t ≤ 9223372036854775807
theorem I64.wf {t : Int} (h : I64 t) : (Lit.int .i64 t).wf = true := WalkArith.wf_i64 h
theorem keyT {t : Int} (h : I64 t) : keyOf Tryd.prog 3 (.int .i64 t) = some (.int .i64 t) := Go.Maps.keyOf_int_mk Tryd.underlying3 h.wf
/-- Block m is a map whose keys are T, with the slices V. -/
def Mi (w : World) (m : Nat) (T : List Int) (V : Int → Value) : Prop := ∃ D, w.ownsMap Tryd.prog 3 rSl m T.length D ∧ Go.Maps.Tidy D ∧ Go.Maps.size D = T.length ∧ (∀ t, I64 t → D.atKey (.int .i64 t) (.held (.slice none 0 0)) = .held (V t)) ∧ (∀ t, I64 t → Go.Maps.has D (.int .i64 t) = decide (t ∈ T)) ∧ (∀ t ∈ T, I64 t)
theorem Mi.lt {w : World} {m : Nat} {T : List Int} {V : Int → Value} (h : Mi w m T V) : m < w.heap.size := by obtain ⟨D, h, -⟩ := h; exact h.lt
theorem Mi.blk {w w' : World} {m : Nat} {T : List Int} {V : Int → Value} (h : Mi w m T V) (hb : w'.heap[m]? = w.heap[m]?) : Mi w' m T V := by
  obtain ⟨D, ⟨es, clock, h1, h2⟩, h3⟩ := h
  exact ⟨D, ⟨es, clock, hb.trans h1, h2⟩, h3⟩
theorem Mi.next {w w' : World} {m : Nat} {T : List Int} {V : Int → Value} (h : Mi w m T V) (hb : Below w.heap.size w w') : Mi w' m T V := h.blk (hb.block m h.lt)
theorem Mi.made (w : World) : Mi (w.alloc (.map #[] 0)) w.heap.size [] (fun _ => .slice none 0 0) :=
  ⟨.map [], World.ownsMap_made w Tryd.prog 3 rSl, Go.Maps.tidy_empty, rfl, fun _ _ => rfl, fun _ _ => rfl, fun _ h => by cases h⟩
theorem owns_fit {P : Program} {k : TypeId} {R : Value → Option (DataW Value × List MemPlace)} {w : World} {b n : Nat} {D : DataW Value} (h : w.ownsMap P k R b n D) : w.ownsMap P k R b (Go.Maps.size D) D := by
  obtain ⟨es, clock, hb, F, hs, rfl⟩ := h
  exact ⟨es, clock, hb, F, by simp [Go.Maps.size, length_sorted], rfl⟩
theorem zeroS (w : World) : (zeroValue 55).run Tryd.prog w = .ok (.slice none 0 0) w := by kernel_rfl
theorem Mi.look {w : World} {m : Nat} {T : List Int} {V : Int → Value} (h : Mi w m T V) {t : Int} (ht : I64 t) : (Instr.lookup 101 (.map (some m)) (.int .i64 t) false).run Tryd.prog w = .ok (V t) w := by
  obtain ⟨D, h1, h2, h3, h4, h5, h6⟩ := h
  obtain ⟨v, ps, hr, hv⟩ := h1.lookup keyI Tryd.underlying101 (zeroS w) (zd := .held (.slice none 0 0)) (zp := []) rfl (keyT ht)
  rw [h4 t ht] at hv
  rw [hr, rSl_inv hv]
theorem lit_ne {t u : Int} (h : t ≠ u) : (Lit.int .i64 t) ≠ Lit.int .i64 u := fun e => h (by injection e)
theorem Mi.put {w : World} {m : Nat} {T T' : List Int} {V : Int → Value} (h : Mi w m T V) {t : Int} (ht : I64 t) (A : Option Addr) (n c : Nat) (hT : ∀ u, u ∈ T' ↔ u = t ∨ u ∈ T) (hl : T'.length = if t ∈ T then T.length else T.length + 1) (hn : T.length < maxLen) :
    ∃ w', (Instr.mapUpdate 101 (.map (some m)) (.int .i64 t) (.slice A n c)).run Tryd.prog w = .ok () w' ∧ Mi w' m T' (fun u => if u = t then .slice A n c else V u) ∧ w.grownBy w' (some m) := by
  obtain ⟨D, h1, h2, h3, h4, h5, h6⟩ := h
  obtain ⟨w', hr, ho, hg⟩ := h1.update keyI Tryd.underlying101 hn (val := .slice A n c) (d := .held (.slice A n c)) (ps := []) (keyT ht) rfl
  have hsz : Go.Maps.size (D.put (.int .i64 t) (.held (.slice A n c))) = T'.length := by
    rw [Go.Maps.size_put h2, h5 t ht, h3, hl]
    by_cases h : t ∈ T <;> simp [h]
  refine ⟨w', hr, ⟨_, by rw [← hsz]; exact owns_fit ho, h2.put (keyI.key (keyT ht)) _, hsz, fun u hu => ?_, fun u hu => ?_, fun u hu => ?_⟩, hg⟩
  · by_cases e : u = t
    · subst e; rw [Go.Maps.atKey_put_same h2.isMap (keyI.key (keyT ht))]; simp
    · rw [Go.Maps.atKey_put_other (lit_ne e)]; simp only [if_neg e]; exact h4 u hu
  · by_cases e : u = t
    · subst e; rw [Go.Maps.has_put_same h2.isMap (keyI.key (keyT ht))]
      exact (decide_eq_true ((hT u).2 (.inl rfl))).symm
    · rw [Go.Maps.has_put_other (lit_ne e), h5 u hu]
      have : (u ∈ T) ↔ (u ∈ T') := by rw [hT]; exact ⟨.inr, fun h => h.resolve_left e⟩
      exact decide_eq_decide.2 this
  · rcases (hT u).1 hu with rfl | h
    · exact ht
    · exact h6 u h
theorem Mi.drop {w : World} {m : Nat} {T : List Int} {t : Int} {V : Int → Value} (h : Mi w m (t :: T) V) (hT : t ∉ T) (ty : TypeId) :
    ∃ w', (Builtin.delete_ #[101, 3] ty #[.map (some m), .int .i64 t]).run Tryd.prog w = .ok (.tuple #[]) w' ∧ Mi w' m T (fun u => if u = t then .slice none 0 0 else V u) ∧ w.grownBy w' (some m) := by
  obtain ⟨D, h1, h2, h3, h4, h5, h6⟩ := h
  have ht : I64 t := h6 t (List.mem_cons_self ..)
  obtain ⟨w', hr, ho, hg⟩ := h1.drop keyI Tryd.underlying101 (keyT ht) ty
  have hsz : Go.Maps.size (D.del (.int .i64 t)) = T.length := by
    have := Go.Maps.size_del (k := .int .i64 t) h2
    rw [h5 t ht, h3, decide_eq_true (List.mem_cons_self ..), if_pos rfl, List.length_cons] at this
    omega
  refine ⟨w', hr, ⟨_, by rw [← hsz]; exact owns_fit ho, h2.del _, hsz, fun u hu => ?_, fun u hu => ?_, fun u hu => h6 u (List.mem_cons_of_mem _ hu)⟩, hg.grown⟩
  · by_cases e : u = t
    · subst e; rw [Go.Maps.atKey_del_same]; simp
    · rw [Go.Maps.atKey_del_other (lit_ne e)]; simp only [if_neg e]; exact h4 u hu
  · by_cases e : u = t
    · subst e; rw [Go.Maps.has_del_same]
      exact (decide_eq_false hT).symm
    · rw [Go.Maps.has_del_other (lit_ne e), h5 u hu]
      exact decide_eq_decide.2 ⟨fun h => (List.mem_cons.1 h).resolve_left e, List.mem_cons_of_mem _⟩
end Go.Proofs.YtcjaaijohapeaaaDoor

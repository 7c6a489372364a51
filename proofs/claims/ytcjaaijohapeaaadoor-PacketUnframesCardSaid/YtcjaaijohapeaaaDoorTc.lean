import Derived.Test.YtcjaaijohapeaaaDoorTb
import Derived.Deep.LoopGhost
import Derived.Deep.DeepCutAuto
import Derived.BigRegion
/-
  The numbers that a kind uses. No conditions beyond those that each names.
-/
namespace Go.Proofs.YtcjaaijohapeaaaDoor
open Go.RowKit Go.Sort Go.Lib Go.Shelf
/-- What numbers returns. -/
def NsP (b : Nat) (k : Int) (w : World) (e : Ending) (w' : World) : Prop := Below w.heap.size w w' ∧ ∃ A c, e = .returned (.slice A (nrs k).length c) ∧ OwN b w.heap.size w' (.slice A (nrs k).length c) (nrs k)
/-- A row of numbers that the call has made. -/
structure NI (b : Nat) (k : Int) (w w1 : World) (v : Value) (l : List Nr) : Prop where
  bl : Below w.heap.size w w1
  ow : OwN b w.heap.size w1 v l
  lt : b < w.heap.size
  ck : w.cell? ⟨b, 0, none⟩ = some (.int .i64 k)
theorem NI.c {b : Nat} {k : Int} {w w1 : World} {v : Value} {l : List Nr} (h : NI b k w w1 v l) : w1.cell? ⟨b, 0, none⟩ = some (.int .i64 k) := cell_next h.bl h.ck
theorem NI.start {b : Nat} {k : Int} {w : World} (hk : w.cell? ⟨b, 0, none⟩ = some (.int .i64 k)) (cs : Array Value) (h : cs.toList = tc (eNr b) (nrB k)) : NI b k w ((w.alloc (Obj.cells cs 82)).drew) (.slice (some ⟨w.heap.size, 0, none⟩) 4 4) (nrB k) := by
  have hl : cs.toList.length = 12 := by rw [h]; rfl
  refine ⟨below_drewN (ab1 _ _) 1, ⟨by rw [tc_len (eNr_len b)], .inr ⟨w.heap.size, 4, cs, rfl, Nat.le_refl _, heap_newI w _, Nat.le_refl _, by decide, by rw [← Array.length_toList]; exact hl, ?_⟩⟩, blk_lt hk, hk⟩
  show cs.toList.take 12 = _
  rw [← hl, List.take_length, h]
theorem wp_pushK {w w1 wx : World} {o : Oper} {a : Act} {K : Act → World → Prop} {Q : Exit → Act → World → Prop} (sv xv : Operand)
    (ho : o.op = .call { callee := .builtin .append, args := #[sv, xv], argTypes := #[77, 77] }) (b : Nat) (k : Int) (v : Value) (l m : List Nr) (cs : Array Value) (g d : Nat) (hs : a.eval sv = v) (hx : a.eval xv = .slice (some ⟨g, 0, none⟩) m.length d)
    (hN : Hid (NI b k w w1 v l)) (hwx : wx.heap = (w1.alloc (Obj.cells cs 82)).heap ∧ wx.os = w1.os ∧ wx.tape = w1.tape ∧ wx.output = w1.output) (hg : g = w1.heap.size) (hc : cs.toList = tc (eNr b) m) (hm : l.length ≤ 1000) (hm2 : m.length ≤ 1000) (hm3 : m ≠ [])
    (h : ∀ A c w2, Hid (NI b k w w2 (.slice A (l ++ m).length c) (l ++ m)) → w2.cell? ⟨b, 0, none⟩ = some (.int .i64 k) → K (a.put o.dst (.slice A (l ++ m).length c)) w2) : Oper.wp Tryd.prog o a wx K Q := by
  obtain ⟨e1, e2, e3, e4⟩ := hwx
  have hb : Below w1.heap.size w1 wx := ⟨e2, e3, e4, by rw [e1]; simp, fun i hi => by rw [e1]; exact heap_alloc_old w1 _ hi⟩
  have hgx : wx.heap[g]? = some (.cells cs 82 (0, 0)) := by rw [e1, hg]; exact heap_newI w1 _
  have hcx : Bx wx g (tc (eNr b) m) := ⟨by rw [e1, hg]; simp, fun j u hu => ⟨by rw [cell_lit hgx, ← Array.getElem?_toList, hc]; exact hu, frozen_lit hgx⟩⟩
  have hbs := Nat.le_trans hN.out.bl.size hb.size
  obtain ⟨i, hi, hz, hs5, hby⟩ := info_parts infoN
  have hml : 0 < m.length := List.length_pos_iff.2 hm3
  obtain ⟨v', w2, hr, h1, h2, -, -⟩ := run_append_own_at (P := Tryd.prog) wx w.heap.size 77 o.type 82 i _ 3 24 Tryd.underlying77 hi hz hs5 hby rfl (by omega) v l.length (tc (eNr b) l) (own_next hN.out.ow hb) ⟨g, 0, none⟩ m.length d (tc (eNr b) m) (tc_len (eNr_len b) m)
    (by intro j u hj; rw [Addr.add_lit, Nat.zero_add]; exact (hcx.at_ j u hj).1) (tc_one' (eNr_one b) m) (by simp only [maxLen]; omega) (by omega) hbs
  have h3 : OwN b w.heap.size w2 v' (l ++ m) := by unfold OwN; rw [tc_app, List.length_append]; exact h1
  unfold Oper.wp execOp
  simp only [ho, resolve, invoke, builtin, Sem.run_bind, Sem.run_pure, Result.andThen_ok, List.map_toArray, List.map_cons, List.map_nil, hs, hx, hr]
  obtain ⟨A, c, rfl, -⟩ := own_nil_or h3
  have hI : NI b k w w2 (.slice A (l ++ m).length c) (l ++ m) := ⟨(hN.out.bl.trans (hb.mono hN.out.bl.size)).grown h2 hbs (fun i hi => (hN.out.ow.lt i hi).1), h3, hN.out.lt, hN.out.ck⟩
  exact h A c w2 (Lib.hid hI) hI.c
theorem wpList_pushK {w w1 wx : World} {ops : Array Oper} {rest : List Oper} {o : Oper} {a : Act} {Q : Exit → Act → World → Prop} (hgd : o.guard = none) (sv xv : Operand)
    (ho : o.op = .call { callee := .builtin .append, args := #[sv, xv], argTypes := #[77, 77] }) (b : Nat) (k : Int) (v : Value) (l m : List Nr) (cs : Array Value) (g d : Nat) (hs : a.eval sv = v) (hx : a.eval xv = .slice (some ⟨g, 0, none⟩) m.length d)
    (hN : Hid (NI b k w w1 v l)) (hwx : wx.heap = (w1.alloc (Obj.cells cs 82)).heap ∧ wx.os = w1.os ∧ wx.tape = w1.tape ∧ wx.output = w1.output) (hg : g = w1.heap.size) (hc : cs.toList = tc (eNr b) m) (hm : l.length ≤ 1000) (hm2 : m.length ≤ 1000) (hm3 : m ≠ [])
    (h : ∀ A c w2, Hid (NI b k w w2 (.slice A (l ++ m).length c) (l ++ m)) → w2.cell? ⟨b, 0, none⟩ = some (.int .i64 k) → wpList Tryd.prog ops Q rest (a.put o.dst (.slice A (l ++ m).length c)) w2) : wpList Tryd.prog ops Q (o :: rest) a wx :=
  wpList_plain hgd fun _ hK => wp_pushK sv xv ho b k v l m cs g d hs hx hN hwx hg hc hm hm2 hm3 fun A c w2 h1 h2 => hK _ _ (h A c w2 h1 h2)
theorem step_pushK {w w1 wx : World} {ops : Array Oper} {E : Prop} {o : Oper} {a : Act} {K : Act → World → Prop} {Q : Exit → Act → World → Prop} (hgd : o.guard = none) (sv xv : Operand)
    (ho : o.op = .call { callee := .builtin .append, args := #[sv, xv], argTypes := #[77, 77] }) (b : Nat) (k : Int) (v : Value) (l m : List Nr) (cs : Array Value) (g d : Nat) (hs : a.eval sv = v) (hx : a.eval xv = .slice (some ⟨g, 0, none⟩) m.length d)
    (hN : Hid (NI b k w w1 v l)) (hwx : wx.heap = (w1.alloc (Obj.cells cs 82)).heap ∧ wx.os = w1.os ∧ wx.tape = w1.tape ∧ wx.output = w1.output) (hg : g = w1.heap.size) (hc : cs.toList = tc (eNr b) m) (hm : l.length ≤ 1000) (hm2 : m.length ≤ 1000) (hm3 : m ≠ [])
    (h : ∀ A c w2, Hid (NI b k w w2 (.slice A (l ++ m).length c) (l ++ m)) → w2.cell? ⟨b, 0, none⟩ = some (.int .i64 k) → K (a.put o.dst (.slice A (l ++ m).length c)) w2) : if Region.wanted o (yielded ops a.tmps) = true then Oper.wp Tryd.prog o a wx K Q else E := by
  have hw : Region.wanted o (yielded ops a.tmps) = true := by simp [Region.wanted, hgd]
  rw [if_pos hw]
  exact wp_pushK sv xv ho b k v l m cs g d hs hx hN hwx hg hc hm hm2 hm3 h

set_option maxRecDepth 100000 in
set_option maxHeartbeats 4000000 in
theorem numbers1_any (b : Nat) (w : World) (h : w.cell? ⟨b, 0, none⟩ = some (.int .i64 1)) :
    Calls Tryd.prog 28 #[.pointer (some ⟨b, 0, none⟩)] w (NsP b 1 w) := by
  have N0 := Lib.hid (NI.start h #[.pointer (some ⟨b, 1, none⟩), .int .i64 0, .int .i64 7, .pointer (some ⟨b, 2, none⟩), .int .i64 0, .int .i64 7, .pointer (some ⟨b, 3, none⟩), .int .i64 1, .int .i64 1073741824, .pointer (some ⟨b, 4, none⟩), .int .i64 1, .int .i64 1073741824] rfl)
  skip
  have ch := N0.out.c
  go_enter Tryd.func28, Tryd.ntmps28
  go_wp2_with fail
  go_region
  generalize (w.alloc (Obj.cells #[.pointer (some ⟨b, 1, none⟩), .int .i64 0, .int .i64 7, .pointer (some ⟨b, 2, none⟩), .int .i64 0, .int .i64 7, .pointer (some ⟨b, 3, none⟩), .int .i64 1, .int .i64 1073741824, .pointer (some ⟨b, 4, none⟩), .int .i64 1, .int .i64 1073741824] 82)).drew = w1 at *
  go_wp2_with (first | (at_builtin; refine wpList_pushK rfl _ _ rfl b 1 _ (nrB 1) [⟨5, 1, 1099511627776⟩] #[.pointer (some ⟨b, 5, none⟩), .int .i64 1, .int .i64 1099511627776] _ _ rfl rfl N0 ⟨rfl, rfl, rfl, rfl⟩ rfl rfl (by decide) (by decide) (by decide) ?_; intro A1 c1 w2 N1 ch1) | (at_builtin; refine wpList_pushK rfl _ _ rfl b 1 _ ((nrB 1) ++ [⟨5, 1, 1099511627776⟩]) [⟨8, 0, 1099511627776⟩] #[.pointer (some ⟨b, 8, none⟩), .int .i64 0, .int .i64 1099511627776] _ _ rfl rfl N1 ⟨rfl, rfl, rfl, rfl⟩ rfl rfl (by decide) (by decide) (by decide) ?_; intro A2 c2 w3 N2 ch2))
  go_ret
  exact ⟨N2.out.bl, A2, c2, rfl, N2.out.ow⟩
set_option maxRecDepth 100000 in
set_option maxHeartbeats 4000000 in
theorem numbers2_any (b : Nat) (w : World) (h : w.cell? ⟨b, 0, none⟩ = some (.int .i64 2)) :
    Calls Tryd.prog 28 #[.pointer (some ⟨b, 0, none⟩)] w (NsP b 2 w) := by
  have N0 := Lib.hid (NI.start h #[.pointer (some ⟨b, 1, none⟩), .int .i64 0, .int .i64 7, .pointer (some ⟨b, 2, none⟩), .int .i64 0, .int .i64 7, .pointer (some ⟨b, 3, none⟩), .int .i64 1, .int .i64 1073741824, .pointer (some ⟨b, 4, none⟩), .int .i64 1, .int .i64 1073741824] rfl)
  skip
  have ch := N0.out.c
  go_enter Tryd.func28, Tryd.ntmps28
  go_wp2_with fail
  go_region
  generalize (w.alloc (Obj.cells #[.pointer (some ⟨b, 1, none⟩), .int .i64 0, .int .i64 7, .pointer (some ⟨b, 2, none⟩), .int .i64 0, .int .i64 7, .pointer (some ⟨b, 3, none⟩), .int .i64 1, .int .i64 1073741824, .pointer (some ⟨b, 4, none⟩), .int .i64 1, .int .i64 1073741824] 82)).drew = w1 at *
  go_wp2_with fail
  go_region_law (refine step_pushK rfl _ _ rfl b 2 _ (nrB 2) [⟨6, 1, 1099511627776⟩, ⟨7, 0, 1099511627776⟩] #[.pointer (some ⟨b, 6, none⟩), .int .i64 1, .int .i64 1099511627776, .pointer (some ⟨b, 7, none⟩), .int .i64 0, .int .i64 1099511627776] _ _ rfl rfl N0 ⟨rfl, rfl, rfl, rfl⟩ rfl rfl (by decide) (by decide) (by decide) ?_; intro A1 c1 w2 N1 ch1)
  go_wp2_with (at_builtin; refine wpList_pushK rfl _ _ rfl b 2 _ ((nrB 2) ++ [⟨6, 1, 1099511627776⟩, ⟨7, 0, 1099511627776⟩]) [⟨8, 0, 1099511627776⟩] #[.pointer (some ⟨b, 8, none⟩), .int .i64 0, .int .i64 1099511627776] _ _ rfl rfl N1 ⟨rfl, rfl, rfl, rfl⟩ rfl rfl (by decide) (by decide) (by decide) ?_; intro A2 c2 w3 N2 ch2)
  go_ret
  exact ⟨N2.out.bl, A2, c2, rfl, N2.out.ow⟩
set_option maxRecDepth 100000 in
set_option maxHeartbeats 4000000 in
theorem numbers3_any (b : Nat) (w : World) (h : w.cell? ⟨b, 0, none⟩ = some (.int .i64 3)) :
    Calls Tryd.prog 28 #[.pointer (some ⟨b, 0, none⟩)] w (NsP b 3 w) := by
  have N0 := Lib.hid (NI.start h #[.pointer (some ⟨b, 1, none⟩), .int .i64 0, .int .i64 7, .pointer (some ⟨b, 2, none⟩), .int .i64 0, .int .i64 7, .pointer (some ⟨b, 3, none⟩), .int .i64 1, .int .i64 1073741824, .pointer (some ⟨b, 4, none⟩), .int .i64 1, .int .i64 1073741824] rfl)
  skip
  have ch := N0.out.c
  go_enter Tryd.func28, Tryd.ntmps28
  go_wp2_with fail
  go_region
  generalize (w.alloc (Obj.cells #[.pointer (some ⟨b, 1, none⟩), .int .i64 0, .int .i64 7, .pointer (some ⟨b, 2, none⟩), .int .i64 0, .int .i64 7, .pointer (some ⟨b, 3, none⟩), .int .i64 1, .int .i64 1073741824, .pointer (some ⟨b, 4, none⟩), .int .i64 1, .int .i64 1073741824] 82)).drew = w1 at *
  go_wp2_with fail
  go_region_law (refine step_pushK rfl _ _ rfl b 3 _ (nrB 3) [⟨6, 1, 1099511627776⟩, ⟨7, 0, 1099511627776⟩] #[.pointer (some ⟨b, 6, none⟩), .int .i64 1, .int .i64 1099511627776, .pointer (some ⟨b, 7, none⟩), .int .i64 0, .int .i64 1099511627776] _ _ rfl rfl N0 ⟨rfl, rfl, rfl, rfl⟩ rfl rfl (by decide) (by decide) (by decide) ?_; intro A1 c1 w2 N1 ch1)
  go_wp2_with (at_builtin; refine wpList_pushK rfl _ _ rfl b 3 _ ((nrB 3) ++ [⟨6, 1, 1099511627776⟩, ⟨7, 0, 1099511627776⟩]) [⟨8, 0, 1099511627776⟩] #[.pointer (some ⟨b, 8, none⟩), .int .i64 0, .int .i64 1099511627776] _ _ rfl rfl N1 ⟨rfl, rfl, rfl, rfl⟩ rfl rfl (by decide) (by decide) (by decide) ?_; intro A2 c2 w3 N2 ch2)
  go_ret
  exact ⟨N2.out.bl, A2, c2, rfl, N2.out.ow⟩
set_option maxRecDepth 100000 in
set_option maxHeartbeats 4000000 in
theorem numbers4_any (b : Nat) (w : World) (h : w.cell? ⟨b, 0, none⟩ = some (.int .i64 4)) :
    Calls Tryd.prog 28 #[.pointer (some ⟨b, 0, none⟩)] w (NsP b 4 w) := by
  have N0 := Lib.hid (NI.start h #[.pointer (some ⟨b, 1, none⟩), .int .i64 0, .int .i64 7, .pointer (some ⟨b, 2, none⟩), .int .i64 0, .int .i64 7, .pointer (some ⟨b, 3, none⟩), .int .i64 1, .int .i64 1073741824, .pointer (some ⟨b, 4, none⟩), .int .i64 1, .int .i64 1073741824] rfl)
  skip
  have ch := N0.out.c
  go_enter Tryd.func28, Tryd.ntmps28
  go_wp2_with fail
  go_region
  generalize (w.alloc (Obj.cells #[.pointer (some ⟨b, 1, none⟩), .int .i64 0, .int .i64 7, .pointer (some ⟨b, 2, none⟩), .int .i64 0, .int .i64 7, .pointer (some ⟨b, 3, none⟩), .int .i64 1, .int .i64 1073741824, .pointer (some ⟨b, 4, none⟩), .int .i64 1, .int .i64 1073741824] 82)).drew = w1 at *
  go_wp2_with (at_builtin; refine wpList_pushK rfl _ _ rfl b 4 _ (nrB 4) [⟨5, 0, 1⟩] #[.pointer (some ⟨b, 5, none⟩), .int .i64 0, .int .i64 1] _ _ rfl rfl N0 ⟨rfl, rfl, rfl, rfl⟩ rfl rfl (by decide) (by decide) (by decide) ?_; intro A1 c1 w2 N1 ch1)
  go_region_law (refine step_pushK rfl _ _ rfl b 4 _ ((nrB 4) ++ [⟨5, 0, 1⟩]) [⟨6, 1, 1099511627776⟩, ⟨7, 0, 1099511627776⟩] #[.pointer (some ⟨b, 6, none⟩), .int .i64 1, .int .i64 1099511627776, .pointer (some ⟨b, 7, none⟩), .int .i64 0, .int .i64 1099511627776] _ _ rfl rfl N1 ⟨rfl, rfl, rfl, rfl⟩ rfl rfl (by decide) (by decide) (by decide) ?_; intro A2 c2 w3 N2 ch2)
  go_wp2_with (at_builtin; refine wpList_pushK rfl _ _ rfl b 4 _ (((nrB 4) ++ [⟨5, 0, 1⟩]) ++ [⟨6, 1, 1099511627776⟩, ⟨7, 0, 1099511627776⟩]) [⟨8, 0, 1099511627776⟩] #[.pointer (some ⟨b, 8, none⟩), .int .i64 0, .int .i64 1099511627776] _ _ rfl rfl N2 ⟨rfl, rfl, rfl, rfl⟩ rfl rfl (by decide) (by decide) (by decide) ?_; intro A3 c3 w4 N3 ch3)
  go_ret
  exact ⟨N3.out.bl, A3, c3, rfl, N3.out.ow⟩
set_option maxRecDepth 100000 in
set_option maxHeartbeats 4000000 in
theorem numbers5_any (b : Nat) (w : World) (h : w.cell? ⟨b, 0, none⟩ = some (.int .i64 5)) :
    Calls Tryd.prog 28 #[.pointer (some ⟨b, 0, none⟩)] w (NsP b 5 w) := by
  have N0 := Lib.hid (NI.start h #[.pointer (some ⟨b, 1, none⟩), .int .i64 0, .int .i64 7, .pointer (some ⟨b, 2, none⟩), .int .i64 0, .int .i64 7, .pointer (some ⟨b, 3, none⟩), .int .i64 0, .int .i64 1073741824, .pointer (some ⟨b, 4, none⟩), .int .i64 0, .int .i64 1073741824] rfl)
  skip
  have ch := N0.out.c
  go_enter Tryd.func28, Tryd.ntmps28
  go_wp2_with fail
  go_region
  generalize (w.alloc (Obj.cells #[.pointer (some ⟨b, 1, none⟩), .int .i64 0, .int .i64 7, .pointer (some ⟨b, 2, none⟩), .int .i64 0, .int .i64 7, .pointer (some ⟨b, 3, none⟩), .int .i64 0, .int .i64 1073741824, .pointer (some ⟨b, 4, none⟩), .int .i64 0, .int .i64 1073741824] 82)).drew = w1 at *
  go_wp2_with (first | (at_builtin; refine wpList_pushK rfl _ _ rfl b 5 _ (nrB 5) [⟨5, 0, 1099511627776⟩] #[.pointer (some ⟨b, 5, none⟩), .int .i64 0, .int .i64 1099511627776] _ _ rfl rfl N0 ⟨rfl, rfl, rfl, rfl⟩ rfl rfl (by decide) (by decide) (by decide) ?_; intro A1 c1 w2 N1 ch1) | (at_builtin; refine wpList_pushK rfl _ _ rfl b 5 _ ((nrB 5) ++ [⟨5, 0, 1099511627776⟩]) [⟨8, 0, 1099511627776⟩] #[.pointer (some ⟨b, 8, none⟩), .int .i64 0, .int .i64 1099511627776] _ _ rfl rfl N1 ⟨rfl, rfl, rfl, rfl⟩ rfl rfl (by decide) (by decide) (by decide) ?_; intro A2 c2 w3 N2 ch2))
  go_ret
  exact ⟨N2.out.bl, A2, c2, rfl, N2.out.ow⟩
set_option maxRecDepth 100000 in
set_option maxHeartbeats 4000000 in
theorem numbersx_any (b : Nat) (k : Int) (w : World) (h : w.cell? ⟨b, 0, none⟩ = some (.int .i64 k)) (k1 : (k == 1) = false) (k2 : (k == 2) = false) (k3 : (k == 3) = false) (k4 : (k == 4) = false) (k5 : (k == 5) = false) :
    Calls Tryd.prog 28 #[.pointer (some ⟨b, 0, none⟩)] w (NsP b k w) := by
  have e1 : nrB k = nrB 1 := by unfold nrB lid; rw [if_neg (by simpa using k5)]; rfl
  have e2 : nrs k = nrB 1 ++ [(⟨8, 0, 1099511627776⟩ : Nr)] := by
    unfold nrs nrS nrF
    have q1 : ¬ k = 1 := by simpa using k1
    have q2 : ¬ k = 2 := by simpa using k2
    have q3 : ¬ k = 3 := by simpa using k3
    have q4 : ¬ k = 4 := by simpa using k4
    have q5 : ¬ k = 5 := by simpa using k5
    rw [e1, if_neg q1, if_neg q4, if_neg q5, if_neg (by rintro (h | h | h); exact q2 h; exact q3 h; exact q4 h)]
    rfl
  have N0 := Lib.hid (NI.start h #[.pointer (some ⟨b, 1, none⟩), .int .i64 0, .int .i64 7, .pointer (some ⟨b, 2, none⟩), .int .i64 0, .int .i64 7, .pointer (some ⟨b, 3, none⟩), .int .i64 1, .int .i64 1073741824, .pointer (some ⟨b, 4, none⟩), .int .i64 1, .int .i64 1073741824] (by rw [e1]; rfl))
  rw [e1] at N0
  have ch := N0.out.c
  go_enter Tryd.func28, Tryd.ntmps28
  go_wp2_with fail
  go_region
  generalize (w.alloc (Obj.cells #[.pointer (some ⟨b, 1, none⟩), .int .i64 0, .int .i64 7, .pointer (some ⟨b, 2, none⟩), .int .i64 0, .int .i64 7, .pointer (some ⟨b, 3, none⟩), .int .i64 1, .int .i64 1073741824, .pointer (some ⟨b, 4, none⟩), .int .i64 1, .int .i64 1073741824] 82)).drew = w1 at *
  go_wp2_with (at_builtin; refine wpList_pushK rfl _ _ rfl b k _ (nrB 1) [⟨8, 0, 1099511627776⟩] #[.pointer (some ⟨b, 8, none⟩), .int .i64 0, .int .i64 1099511627776] _ _ rfl rfl N0 ⟨rfl, rfl, rfl, rfl⟩ rfl rfl (by decide) (by decide) (by decide) ?_; intro A1 c1 w2 N1 ch1)
  go_ret
  exact ⟨N1.out.bl, A1, c1, by rw [e2]; rfl, by rw [e2]; exact N1.out.ow⟩
theorem numbers_any (b : Nat) (k : Int) (w : World) (h : w.cell? ⟨b, 0, none⟩ = some (.int .i64 k)) :
    Calls Tryd.prog 28 #[.pointer (some ⟨b, 0, none⟩)] w (NsP b k w) := by
  by_cases k1 : k = 1
  · subst k1; exact numbers1_any b w h
  by_cases k2 : k = 2
  · subst k2; exact numbers2_any b w h
  by_cases k3 : k = 3
  · subst k3; exact numbers3_any b w h
  by_cases k4 : k = 4
  · subst k4; exact numbers4_any b w h
  by_cases k5 : k = 5
  · subst k5; exact numbers5_any b w h
  exact numbersx_any b k w h (by simpa using k1) (by simpa using k2) (by simpa using k3) (by simpa using k4) (by simpa using k5)
end Go.Proofs.YtcjaaijohapeaaaDoor

/-
  Packets as data: the numbers that a kind uses, with their ranges; which packets are valid. No conditions.
-/
import Derived.Test.YtcjaaijohapeaaaDoorK10
import Derived.Test.YtcjaaijohapeaaaDoorShelf
import Derived.Lib.OthersKept
import Derived.Deep.LoopGhost
import Derived.Deep.DeepCutAuto
import Derived.BigRegion
namespace Go.Proofs.YtcjaaijohapeaaaDoor
open Go.RowKit Go.Shelf Go.Lib
/-- A packet. -/
structure Pc where
  kind : Int
  fr : Int
  to_ : Int
  wr : Int
  rd : Int
  sq : Int
  fi : Int
  la : Int
  at_ : Int
  mis : List Int
  pay : List UInt8
/-- The number at a place. -/
def Pc.num (p : Pc) (o : Nat) : Int := match o with
  | 0 => p.kind
  | 1 => p.fr
  | 2 => p.to_
  | 3 => p.wr
  | 4 => p.rd
  | 5 => p.sq
  | 6 => p.fi
  | 7 => p.la
  | _ => p.at_
/-- A packet's cells; mv: the value of its list. -/
def Pc.cells (p : Pc) (mv : Value) : List Value := [.int .i64 p.kind, .int .i64 p.fr, .int .i64 p.to_, .int .i64 p.wr, .int .i64 p.rd, .int .i64 p.sq, .int .i64 p.fi, .int .i64 p.la, .int .i64 p.at_, mv, .string (bs p.pay)]
def Pc.val (p : Pc) (mv : Value) : Value := .agg (p.cells mv).toArray
/-- A number that a kind uses: its place, and its range. -/
structure Nr where
  off : Nat
  lo : Int
  hi : Int
def eNr (b : Nat) (x : Nr) : List Value := [.pointer (some ⟨b, x.off, none⟩), .int .i64 x.lo, .int .i64 x.hi]
theorem eNr_len (b : Nat) (x : Nr) : (eNr b x).length = 3 := rfl
theorem eNr_one (b : Nat) (x : Nr) (u : Value) (h : u ∈ eNr b x) : u.oneCell' = true := by
  simp only [eNr, List.mem_cons, List.not_mem_nil, or_false] at h
  rcases h with rfl | rfl | rfl <;> rfl
theorem infoN : (Tryd.prog.info? 82).map (fun i => (i.zero, i.size, i.bytes)) = some (some (.agg #[.pointer none, .int .i64 0, .int .i64 0]), 3, 24) := by kernel_rfl
def OwN (b B : Nat) (w : World) (v : Value) (l : List Nr) : Prop := w.ownsRow B 82 3 v l.length (tc (eNr b) l)
def lid (k : Int) : Int := if k = 5 then 0 else 1
def nrB (k : Int) : List Nr := [⟨1, 0, 7⟩, ⟨2, 0, 7⟩, ⟨3, lid k, 1073741824⟩, ⟨4, lid k, 1073741824⟩]
def nrS (k : Int) : List Nr := if k = 1 then [⟨5, 1, 1099511627776⟩] else if k = 4 then [⟨5, 0, 1⟩] else if k = 5 then [⟨5, 0, 1099511627776⟩] else []
def nrF (k : Int) : List Nr := if k = 2 ∨ k = 3 ∨ k = 4 then [⟨6, 1, 1099511627776⟩, ⟨7, 0, 1099511627776⟩] else []
/-- The numbers of a kind, in the order of the encoding. -/
def nrs (k : Int) : List Nr := nrB k ++ nrS k ++ nrF k ++ [⟨8, 0, 1099511627776⟩]
theorem wpList_pushN {w : World} {ops : Array Oper} {rest : List Oper} {o : Oper} {a : Act} {Q : Exit → Act → World → Prop} (hgd : o.guard = none) (sv xv : Operand)
    (ho : o.op = .call { callee := .builtin .append, args := #[sv, xv], argTypes := #[77, 77] }) (b B : Nat) (v : Value) (l m : List Nr) (g d : Nat) (hs : a.eval sv = v) (hx : a.eval xv = .slice (some ⟨g, 0, none⟩) m.length d)
    (hown : OwN b B w v l) (hc : Bx w g (tc (eNr b) m)) (hm : l.length ≤ 1000) (hm2 : m.length ≤ 1000) (hm3 : m ≠ []) (hB : B ≤ w.heap.size)
    (h : ∀ v' w', OwN b B w' v' (l ++ m) → w.grownBy w' v.ownBlock → (v'.ownBlock = v.ownBlock ∨ v'.ownBlock = some w.heap.size) → wpList Tryd.prog ops Q rest (a.put o.dst v') w') : wpList Tryd.prog ops Q (o :: rest) a w := by
  obtain ⟨i, hi, hz, hs5, hby⟩ := info_parts infoN
  have hml : 0 < m.length := List.length_pos_iff.2 hm3
  refine wpList_append_own_at w hgd sv xv 77 ho B 82 i _ 3 24 Tryd.underlying77 hi hz hs5 hby rfl (by omega) v l.length (tc (eNr b) l) hs hown ⟨g, 0, none⟩ m.length d (tc (eNr b) m) hx (tc_len (eNr_len b) m)
    (by intro j u hj; rw [Addr.add_lit, Nat.zero_add]; exact (hc.at_ j u hj).1) (tc_one' (eNr_one b) m) (by simp only [maxLen]; omega) (by omega) hB ?_
  intro v' w' h1 h2 _ h4
  refine h v' w' ?_ h2 h4
  unfold OwN
  rw [tc_app, List.length_append]
  exact h1
end Go.Proofs.YtcjaaijohapeaaaDoor
/-
  A string's builder: writing strings. No conditions beyond those that each names.
-/
namespace Go.Proofs.YtcjaaijohapeaaaDoor
open Go.RowKit Go.Shelf Go.Lib
/-- A builder in block b, made from B on, that holds l. -/
def Bd (B b : Nat) (l : List UInt8) (w : World) : Prop := Lib.IsBuilder 70 5 B b (Lib.byteCells l) w
theorem sizeBd : (Tryd.prog.info? 70).map (·.size) = some 2 := by kernel_rfl
theorem info8 : (Tryd.prog.info? 5).map (fun i => (i.zero, i.size, i.bytes)) = some (some (.int .u8 0), 1, 1) := by kernel_rfl
set_option maxRecDepth 100000 in
set_option maxHeartbeats 1000000 in
theorem ccUsed_any (b : Nat) (w : World) (h0 : w.cell? ⟨b, 0, none⟩ = some (.pointer (some ⟨b, 0, none⟩))) :
    Calls Tryd.prog 65 #[.pointer (some ⟨b, 0, none⟩)] w (fun e w' => e = .returned (.tuple #[]) ∧ w' = w) := by
  obtain ⟨j, hj, _⟩ := Option.map_eq_some_iff.1 sizeBd
  go_enter Tryd.func65, Tryd.ntmps65
  go_wp2
  rw [Lib.run_neq_ptr_same w _ Tryd.underlying67 hj]
  go_wp2
  go_end0
  exact ⟨rfl, rfl⟩
set_option maxRecDepth 100000 in
set_option maxHeartbeats 1000000 in
theorem ccFresh_any (b : Nat) (w : World) (h0 : w.cell? ⟨b, 0, none⟩ = some (.pointer none)) (hsh : w.shape? b = some (70, 2)) (hfz : w.frozen? ⟨b, 0, none⟩ = false) :
    Calls Tryd.prog 65 #[.pointer (some ⟨b, 0, none⟩)] w (fun e w' => e = .returned (.tuple #[]) ∧ w' = w.setCell ⟨b, 0, none⟩ (.pointer (some ⟨b, 0, none⟩))) := by
  obtain ⟨j, hj, hjs⟩ := Option.map_eq_some_iff.1 sizeBd
  go_enter Tryd.func65, Tryd.ntmps65
  go_wp2
  rw [Lib.run_to_unsafe w ⟨b, 0, none⟩ Tryd.underlying67 Tryd.underlying155 hj (by rw [hjs]; decide) hsh (Nat.zero_lt_succ 1)]
  simp only [Result.andThen]
  rw [Oper.upon_value]
  go_wp2
  rw [run_callFunc_extern Tryd.func89 (by kernel_rfl) (by kernel_rfl) (by kernel_rfl) (e := Extern.AbiNoEscape.same) (by kernel_rfl)]
  rw [Lib.run_noEscape]
  simp only [Result.andThen]
  rw [Oper.upon_value]
  go_wp2
  rw [Lib.run_from_unsafe w ⟨b, 0, none⟩ Tryd.underlying155 Tryd.underlying67 hj hsh (by kernel_rfl)]
  simp only [Result.andThen]
  rw [Oper.upon_value]
  go_wp2
  go_end0
  exact ⟨rfl, rfl⟩
theorem cc_any (B b : Nat) (l : List UInt8) (w : World) (h : Bd B b l w) :
    Calls Tryd.prog 65 #[.pointer (some ⟨b, 0, none⟩)] w (fun e w' => e = .returned (.tuple #[]) ∧ Lib.BuilderAt 70 5 B b (.pointer (some ⟨b, 0, none⟩)) (Lib.byteCells l) w' ∧ Below B w w' ∧ Lib.OthersKept 5 (some b) w w') := by
  rcases h with h | h
  · refine (ccFresh_any b w h.cell0 h.shape h.frozen0).mono ?_
    rintro e w' ⟨rfl, rfl⟩
    exact ⟨rfl, h.used _, (Below.refl B w).setCell (p := ⟨b, 0, none⟩) h.1 _, (Lib.OthersKept.refl _ _ w).setCell ⟨b, 0, none⟩ rfl _⟩
  · refine (ccUsed_any b w h.cell0).mono ?_
    rintro e w' ⟨rfl, rfl⟩
    exact ⟨rfl, h, Below.refl B _, Lib.OthersKept.refl _ _ _⟩
theorem own_kind {w : World} {B : Nat} {e : TypeId} {v : Value} {n : Nat} {xs : List Value} (h : w.ownsRow B e 1 v n xs) : ∀ g, v.ownBlock = some g → ∃ c fz, w.heap[g]? = some (.cells c e fz) := by
  intro g hg
  rcases h.2 with ⟨h1, h2⟩ | ⟨g', cap, cur, h1, h2, h3, -⟩
  · subst h1; cases hg
  · subst h1
    injection hg with hg
    have hg : g' = g := hg
    subst hg
    exact ⟨_, _, h3⟩
/-- What a builder's writing leaves. -/
def WsP (B b : Nat) (l : List UInt8) (n : Nat) (w : World) (e : Ending) (w' : World) : Prop := e = .returned (.tuple #[.int .i64 (n : Int), .nilIface]) ∧ Bd B b l w' ∧ Below B w w' ∧ Lib.OthersKept 5 (some b) w w'
set_option maxRecDepth 100000 in
set_option maxHeartbeats 2000000 in
theorem wstr_any (B b : Nat) (l s : List UInt8) (w : World) (h : Bd B b l w) (hlen : l.length + s.length ≤ 140737488355328) (hBw : B ≤ w.heap.size) :
    Calls Tryd.prog 26 #[.pointer (some ⟨b, 0, none⟩), .string (bs s)] w (WsP B b (l ++ s) s.length w) := by
  obtain ⟨i0, hi, hz0, hz1, hz2⟩ := info_parts info8
  have hsz : (bs s).size = s.length := rfl
  have hl9 : (Lib.byteCells l).length = l.length := Lib.byteCells_length l
  go_enter Tryd.func26, Tryd.ntmps26
  go_wp2_with (first
    | (go_at_call 65; refine (cc_any B b l _ h).mono ?_; rintro e w1 ⟨rfl, h1, hb1, hk1⟩; obtain ⟨hB, v, hbk, hown, hne⟩ := h1; have c0 : w1.cell? ⟨b, 0, none⟩ = some (.pointer (some ⟨b, 0, none⟩)) := (by rw [Lib.cell_of_heap hbk]; rfl); have c1 : w1.cell? ⟨b, 1, none⟩ = some v := (by rw [Lib.cell_of_heap hbk]; rfl))
    | (at_builtin; refine Lib.wpList_append_own_string _ rfl _ _ 68 9 rfl B 5 i0 Tryd.underlying68 Tryd.underlying9 hi hz0 hz1 hz2 _ _ _ rfl hown (bs s) rfl ?c3 ?c4 ?c5 ?_))
  case c3 => unfold maxLen; omega
  case c4 => omega
  case c5 => have := hb1.size; omega
  intro v' w2 hown' hgrow _
  have hlt : b < w1.heap.size := by
    rcases Nat.lt_or_ge b w1.heap.size with h' | h'
    · exact h'
    · simp [Array.getElem?_eq_none h'] at hbk
  have hb2 : w2.heap[b]? = some (.cells #[.pointer (some ⟨b, 0, none⟩), v] 70 (0, 0)) := by
    rw [hgrow.block b hlt (fun e => hne e.symm)]
    exact hbk
  have d0 : w2.cell? ⟨b, 0, none⟩ = some (.pointer (some ⟨b, 0, none⟩)) := by rw [Lib.cell_of_heap hb2]; rfl
  have d1 : w2.cell? ⟨b, 1, none⟩ = some v := by rw [Lib.cell_of_heap hb2]; rfl
  have f1 : w2.frozen? ⟨b, 1, none⟩ = false := Lib.frozen_of_heap hb2 1
  obtain ⟨ao, n', cap, rfl⟩ : ∃ ao n' cap, v' = .slice ao n' cap := by
    rcases hown'.2 with ⟨hv, _⟩ | ⟨g, cap, cur, hv, _⟩
    · exact ⟨_, _, _, hv⟩
    · exact ⟨_, _, _, hv⟩
  go_wp2
  go_ret2
  have hcs : Lib.byteCells l ++ Lib.strCells (bs s) = Lib.byteCells (l ++ s) := by rw [show Lib.strCells (bs s) = Lib.byteCells s from rfl]; simp [Lib.byteCells]
  refine ⟨rfl, .inr ?_, ?_, (hk1.grown hgrow (own_kind hown)).setCell ⟨b, 1, none⟩ rfl _⟩
  · rw [← hcs]
    exact Lib.BuilderAt.put (T := 70) (e := 5) hB hb2 (bs' := Lib.byteCells l ++ Lib.strCells (bs s)) (by rw [List.length_append, Lib.strCells_length, hl9]; exact hown') (by decide)
  · exact (hb1.grown hgrow (by have := hb1.size; omega) (fun k hk => (hown.lt k hk).1)).setCell (p := ⟨b, 1, none⟩) hB _
theorem Bd.fresh (w : World) : Bd w.heap.size w.heap.size [] (w.alloc (Obj.cells #[.pointer none, .slice none 0 0] 70)) := Lib.fresh_isBuilder _ _ _
theorem bstr_any (B b : Nat) (l : List UInt8) (w : World) (h : Bd B b l w) (hBw : B ≤ w.heap.size) :
    Calls Tryd.prog 32 #[.pointer (some ⟨b, 0, none⟩)] w (fun e w' => e = .returned (.string (bs l)) ∧ Below B w w') := Tryd.Builder_String_any B b l w h hBw
end Go.Proofs.YtcjaaijohapeaaaDoor
/-
  The numbers that a kind uses. No conditions beyond those that each names.
-/
namespace Go.Proofs.YtcjaaijohapeaaaDoor
open Go.RowKit Go.Sort Go.Lib Go.Shelf
/-- What numbers returns. -/
def NsP (b : Nat) (k : Int) (w : World) (e : Ending) (w' : World) : Prop := Below w.heap.size w w' ∧ ∃ A c, e = .returned (.slice A (nrs k).length c) ∧ OwN b w.heap.size w' (.slice A (nrs k).length c) (nrs k)
/-- A row of numbers that the call has made. -/
structure NI (b : Nat) (k : Int) (w w1 : World) (v : Value) (l : List Nr) : Prop where
  bl : Below w.heap.size w w1
  ow : OwN b w.heap.size w1 v l
  lt : b < w.heap.size
  ck : w.cell? ⟨b, 0, none⟩ = some (.int .i64 k)
theorem NI.c {b : Nat} {k : Int} {w w1 : World} {v : Value} {l : List Nr} (h : NI b k w w1 v l) : w1.cell? ⟨b, 0, none⟩ = some (.int .i64 k) := cell_next h.bl h.ck
theorem NI.start {b : Nat} {k : Int} {w : World} (hk : w.cell? ⟨b, 0, none⟩ = some (.int .i64 k)) (cs : Array Value) (h : cs.toList = tc (eNr b) (nrB k)) : NI b k w ((w.alloc (Obj.cells cs 82)).drew) (.slice (some ⟨w.heap.size, 0, none⟩) 4 4) (nrB k) := by
  have hl : cs.toList.length = 12 := by rw [h]; rfl
  refine ⟨below_drewN (ab1 _ _) 1, ⟨by rw [tc_len (eNr_len b)], .inr ⟨w.heap.size, 4, cs, rfl, Nat.le_refl _, heap_newI w _, Nat.le_refl _, by decide, by rw [← Array.length_toList]; exact hl, ?_⟩⟩, blk_lt hk, hk⟩
  show cs.toList.take 12 = _
  rw [← hl, List.take_length, h]
theorem wp_pushK {w w1 wx : World} {o : Oper} {a : Act} {K : Act → World → Prop} {Q : Exit → Act → World → Prop} (sv xv : Operand)
    (ho : o.op = .call { callee := .builtin .append, args := #[sv, xv], argTypes := #[77, 77] }) (b : Nat) (k : Int) (v : Value) (l m : List Nr) (cs : Array Value) (g d : Nat) (hs : a.eval sv = v) (hx : a.eval xv = .slice (some ⟨g, 0, none⟩) m.length d)
    (hN : Hid (NI b k w w1 v l)) (hwx : wx.heap = (w1.alloc (Obj.cells cs 82)).heap ∧ wx.os = w1.os ∧ wx.tape = w1.tape ∧ wx.output = w1.output) (hg : g = w1.heap.size) (hc : cs.toList = tc (eNr b) m) (hm : l.length ≤ 1000) (hm2 : m.length ≤ 1000) (hm3 : m ≠ [])
    (h : ∀ A c w2, Hid (NI b k w w2 (.slice A (l ++ m).length c) (l ++ m)) → w2.cell? ⟨b, 0, none⟩ = some (.int .i64 k) → K (a.put o.dst (.slice A (l ++ m).length c)) w2) : Oper.wp Tryd.prog o a wx K Q := by
  obtain ⟨e1, e2, e3, e4⟩ := hwx
  have hb : Below w1.heap.size w1 wx := ⟨e2, e3, e4, by rw [e1]; simp, fun i hi => by rw [e1]; exact heap_alloc_old w1 _ hi⟩
  have hgx : wx.heap[g]? = some (.cells cs 82 (0, 0)) := by rw [e1, hg]; exact heap_newI w1 _
  have hcx : Bx wx g (tc (eNr b) m) := ⟨by rw [e1, hg]; simp, fun j u hu => ⟨by rw [cell_lit hgx, ← Array.getElem?_toList, hc]; exact hu, frozen_lit hgx⟩⟩
  have hbs := Nat.le_trans hN.out.bl.size hb.size
  obtain ⟨i, hi, hz, hs5, hby⟩ := info_parts infoN
  have hml : 0 < m.length := List.length_pos_iff.2 hm3
  obtain ⟨v', w2, hr, h1, h2, -, -⟩ := run_append_own_at (P := Tryd.prog) wx w.heap.size 77 o.type 82 i _ 3 24 Tryd.underlying77 hi hz hs5 hby rfl (by omega) v l.length (tc (eNr b) l) (own_next hN.out.ow hb) ⟨g, 0, none⟩ m.length d (tc (eNr b) m) (tc_len (eNr_len b) m)
    (by intro j u hj; rw [Addr.add_lit, Nat.zero_add]; exact (hcx.at_ j u hj).1) (tc_one' (eNr_one b) m) (by simp only [maxLen]; omega) (by omega) hbs
  have h3 : OwN b w.heap.size w2 v' (l ++ m) := by unfold OwN; rw [tc_app, List.length_append]; exact h1
  unfold Oper.wp execOp
  simp only [ho, resolve, invoke, builtin, Sem.run_bind, Sem.run_pure, Result.andThen_ok, List.map_toArray, List.map_cons, List.map_nil, hs, hx, hr]
  obtain ⟨A, c, rfl, -⟩ := own_nil_or h3
  have hI : NI b k w w2 (.slice A (l ++ m).length c) (l ++ m) := ⟨(hN.out.bl.trans (hb.mono hN.out.bl.size)).grown h2 hbs (fun i hi => (hN.out.ow.lt i hi).1), h3, hN.out.lt, hN.out.ck⟩
  exact h A c w2 (Lib.hid hI) hI.c
theorem wpList_pushK {w w1 wx : World} {ops : Array Oper} {rest : List Oper} {o : Oper} {a : Act} {Q : Exit → Act → World → Prop} (hgd : o.guard = none) (sv xv : Operand)
    (ho : o.op = .call { callee := .builtin .append, args := #[sv, xv], argTypes := #[77, 77] }) (b : Nat) (k : Int) (v : Value) (l m : List Nr) (cs : Array Value) (g d : Nat) (hs : a.eval sv = v) (hx : a.eval xv = .slice (some ⟨g, 0, none⟩) m.length d)
    (hN : Hid (NI b k w w1 v l)) (hwx : wx.heap = (w1.alloc (Obj.cells cs 82)).heap ∧ wx.os = w1.os ∧ wx.tape = w1.tape ∧ wx.output = w1.output) (hg : g = w1.heap.size) (hc : cs.toList = tc (eNr b) m) (hm : l.length ≤ 1000) (hm2 : m.length ≤ 1000) (hm3 : m ≠ [])
    (h : ∀ A c w2, Hid (NI b k w w2 (.slice A (l ++ m).length c) (l ++ m)) → w2.cell? ⟨b, 0, none⟩ = some (.int .i64 k) → wpList Tryd.prog ops Q rest (a.put o.dst (.slice A (l ++ m).length c)) w2) : wpList Tryd.prog ops Q (o :: rest) a wx :=
  wpList_plain hgd fun _ hK => wp_pushK sv xv ho b k v l m cs g d hs hx hN hwx hg hc hm hm2 hm3 fun A c w2 h1 h2 => hK _ _ (h A c w2 h1 h2)
theorem step_pushK {w w1 wx : World} {ops : Array Oper} {E : Prop} {o : Oper} {a : Act} {K : Act → World → Prop} {Q : Exit → Act → World → Prop} (hgd : o.guard = none) (sv xv : Operand)
    (ho : o.op = .call { callee := .builtin .append, args := #[sv, xv], argTypes := #[77, 77] }) (b : Nat) (k : Int) (v : Value) (l m : List Nr) (cs : Array Value) (g d : Nat) (hs : a.eval sv = v) (hx : a.eval xv = .slice (some ⟨g, 0, none⟩) m.length d)
    (hN : Hid (NI b k w w1 v l)) (hwx : wx.heap = (w1.alloc (Obj.cells cs 82)).heap ∧ wx.os = w1.os ∧ wx.tape = w1.tape ∧ wx.output = w1.output) (hg : g = w1.heap.size) (hc : cs.toList = tc (eNr b) m) (hm : l.length ≤ 1000) (hm2 : m.length ≤ 1000) (hm3 : m ≠ [])
    (h : ∀ A c w2, Hid (NI b k w w2 (.slice A (l ++ m).length c) (l ++ m)) → w2.cell? ⟨b, 0, none⟩ = some (.int .i64 k) → K (a.put o.dst (.slice A (l ++ m).length c)) w2) : if Region.wanted o (yielded ops a.tmps) = true then Oper.wp Tryd.prog o a wx K Q else E := by
  have hw : Region.wanted o (yielded ops a.tmps) = true := by simp [Region.wanted, hgd]
  rw [if_pos hw]
  exact wp_pushK sv xv ho b k v l m cs g d hs hx hN hwx hg hc hm hm2 hm3 h

set_option maxRecDepth 100000 in
set_option maxHeartbeats 4000000 in
theorem numbers1_any (b : Nat) (w : World) (h : w.cell? ⟨b, 0, none⟩ = some (.int .i64 1)) :
    Calls Tryd.prog 28 #[.pointer (some ⟨b, 0, none⟩)] w (NsP b 1 w) := by
  have N0 := Lib.hid (NI.start h #[.pointer (some ⟨b, 1, none⟩), .int .i64 0, .int .i64 7, .pointer (some ⟨b, 2, none⟩), .int .i64 0, .int .i64 7, .pointer (some ⟨b, 3, none⟩), .int .i64 1, .int .i64 1073741824, .pointer (some ⟨b, 4, none⟩), .int .i64 1, .int .i64 1073741824] rfl)
  skip
  have ch := N0.out.c
  go_enter Tryd.func28, Tryd.ntmps28
  go_wp2_with fail
  go_region
  generalize (w.alloc (Obj.cells #[.pointer (some ⟨b, 1, none⟩), .int .i64 0, .int .i64 7, .pointer (some ⟨b, 2, none⟩), .int .i64 0, .int .i64 7, .pointer (some ⟨b, 3, none⟩), .int .i64 1, .int .i64 1073741824, .pointer (some ⟨b, 4, none⟩), .int .i64 1, .int .i64 1073741824] 82)).drew = w1 at *
  go_wp2_with (first | (at_builtin; refine wpList_pushK rfl _ _ rfl b 1 _ (nrB 1) [⟨5, 1, 1099511627776⟩] #[.pointer (some ⟨b, 5, none⟩), .int .i64 1, .int .i64 1099511627776] _ _ rfl rfl N0 ⟨rfl, rfl, rfl, rfl⟩ rfl rfl (by decide) (by decide) (by decide) ?_; intro A1 c1 w2 N1 ch1) | (at_builtin; refine wpList_pushK rfl _ _ rfl b 1 _ ((nrB 1) ++ [⟨5, 1, 1099511627776⟩]) [⟨8, 0, 1099511627776⟩] #[.pointer (some ⟨b, 8, none⟩), .int .i64 0, .int .i64 1099511627776] _ _ rfl rfl N1 ⟨rfl, rfl, rfl, rfl⟩ rfl rfl (by decide) (by decide) (by decide) ?_; intro A2 c2 w3 N2 ch2))
  go_ret
  exact ⟨N2.out.bl, A2, c2, rfl, N2.out.ow⟩
set_option maxRecDepth 100000 in
set_option maxHeartbeats 4000000 in
theorem numbers2_any (b : Nat) (w : World) (h : w.cell? ⟨b, 0, none⟩ = some (.int .i64 2)) :
    Calls Tryd.prog 28 #[.pointer (some ⟨b, 0, none⟩)] w (NsP b 2 w) := by
  have N0 := Lib.hid (NI.start h #[.pointer (some ⟨b, 1, none⟩), .int .i64 0, .int .i64 7, .pointer (some ⟨b, 2, none⟩), .int .i64 0, .int .i64 7, .pointer (some ⟨b, 3, none⟩), .int .i64 1, .int .i64 1073741824, .pointer (some ⟨b, 4, none⟩), .int .i64 1, .int .i64 1073741824] rfl)
  skip
  have ch := N0.out.c
  go_enter Tryd.func28, Tryd.ntmps28
  go_wp2_with fail
  go_region
  generalize (w.alloc (Obj.cells #[.pointer (some ⟨b, 1, none⟩), .int .i64 0, .int .i64 7, .pointer (some ⟨b, 2, none⟩), .int .i64 0, .int .i64 7, .pointer (some ⟨b, 3, none⟩), .int .i64 1, .int .i64 1073741824, .pointer (some ⟨b, 4, none⟩), .int .i64 1, .int .i64 1073741824] 82)).drew = w1 at *
  go_wp2_with fail
  go_region_law (refine step_pushK rfl _ _ rfl b 2 _ (nrB 2) [⟨6, 1, 1099511627776⟩, ⟨7, 0, 1099511627776⟩] #[.pointer (some ⟨b, 6, none⟩), .int .i64 1, .int .i64 1099511627776, .pointer (some ⟨b, 7, none⟩), .int .i64 0, .int .i64 1099511627776] _ _ rfl rfl N0 ⟨rfl, rfl, rfl, rfl⟩ rfl rfl (by decide) (by decide) (by decide) ?_; intro A1 c1 w2 N1 ch1)
  go_wp2_with (at_builtin; refine wpList_pushK rfl _ _ rfl b 2 _ ((nrB 2) ++ [⟨6, 1, 1099511627776⟩, ⟨7, 0, 1099511627776⟩]) [⟨8, 0, 1099511627776⟩] #[.pointer (some ⟨b, 8, none⟩), .int .i64 0, .int .i64 1099511627776] _ _ rfl rfl N1 ⟨rfl, rfl, rfl, rfl⟩ rfl rfl (by decide) (by decide) (by decide) ?_; intro A2 c2 w3 N2 ch2)
  go_ret
  exact ⟨N2.out.bl, A2, c2, rfl, N2.out.ow⟩
set_option maxRecDepth 100000 in
set_option maxHeartbeats 4000000 in
theorem numbers3_any (b : Nat) (w : World) (h : w.cell? ⟨b, 0, none⟩ = some (.int .i64 3)) :
    Calls Tryd.prog 28 #[.pointer (some ⟨b, 0, none⟩)] w (NsP b 3 w) := by
  have N0 := Lib.hid (NI.start h #[.pointer (some ⟨b, 1, none⟩), .int .i64 0, .int .i64 7, .pointer (some ⟨b, 2, none⟩), .int .i64 0, .int .i64 7, .pointer (some ⟨b, 3, none⟩), .int .i64 1, .int .i64 1073741824, .pointer (some ⟨b, 4, none⟩), .int .i64 1, .int .i64 1073741824] rfl)
  skip
  have ch := N0.out.c
  go_enter Tryd.func28, Tryd.ntmps28
  go_wp2_with fail
  go_region
  generalize (w.alloc (Obj.cells #[.pointer (some ⟨b, 1, none⟩), .int .i64 0, .int .i64 7, .pointer (some ⟨b, 2, none⟩), .int .i64 0, .int .i64 7, .pointer (some ⟨b, 3, none⟩), .int .i64 1, .int .i64 1073741824, .pointer (some ⟨b, 4, none⟩), .int .i64 1, .int .i64 1073741824] 82)).drew = w1 at *
  go_wp2_with fail
  go_region_law (refine step_pushK rfl _ _ rfl b 3 _ (nrB 3) [⟨6, 1, 1099511627776⟩, ⟨7, 0, 1099511627776⟩] #[.pointer (some ⟨b, 6, none⟩), .int .i64 1, .int .i64 1099511627776, .pointer (some ⟨b, 7, none⟩), .int .i64 0, .int .i64 1099511627776] _ _ rfl rfl N0 ⟨rfl, rfl, rfl, rfl⟩ rfl rfl (by decide) (by decide) (by decide) ?_; intro A1 c1 w2 N1 ch1)
  go_wp2_with (at_builtin; refine wpList_pushK rfl _ _ rfl b 3 _ ((nrB 3) ++ [⟨6, 1, 1099511627776⟩, ⟨7, 0, 1099511627776⟩]) [⟨8, 0, 1099511627776⟩] #[.pointer (some ⟨b, 8, none⟩), .int .i64 0, .int .i64 1099511627776] _ _ rfl rfl N1 ⟨rfl, rfl, rfl, rfl⟩ rfl rfl (by decide) (by decide) (by decide) ?_; intro A2 c2 w3 N2 ch2)
  go_ret
  exact ⟨N2.out.bl, A2, c2, rfl, N2.out.ow⟩
set_option maxRecDepth 100000 in
set_option maxHeartbeats 4000000 in
theorem numbers4_any (b : Nat) (w : World) (h : w.cell? ⟨b, 0, none⟩ = some (.int .i64 4)) :
    Calls Tryd.prog 28 #[.pointer (some ⟨b, 0, none⟩)] w (NsP b 4 w) := by
  have N0 := Lib.hid (NI.start h #[.pointer (some ⟨b, 1, none⟩), .int .i64 0, .int .i64 7, .pointer (some ⟨b, 2, none⟩), .int .i64 0, .int .i64 7, .pointer (some ⟨b, 3, none⟩), .int .i64 1, .int .i64 1073741824, .pointer (some ⟨b, 4, none⟩), .int .i64 1, .int .i64 1073741824] rfl)
  skip
  have ch := N0.out.c
  go_enter Tryd.func28, Tryd.ntmps28
  go_wp2_with fail
  go_region
  generalize (w.alloc (Obj.cells #[.pointer (some ⟨b, 1, none⟩), .int .i64 0, .int .i64 7, .pointer (some ⟨b, 2, none⟩), .int .i64 0, .int .i64 7, .pointer (some ⟨b, 3, none⟩), .int .i64 1, .int .i64 1073741824, .pointer (some ⟨b, 4, none⟩), .int .i64 1, .int .i64 1073741824] 82)).drew = w1 at *
  go_wp2_with (at_builtin; refine wpList_pushK rfl _ _ rfl b 4 _ (nrB 4) [⟨5, 0, 1⟩] #[.pointer (some ⟨b, 5, none⟩), .int .i64 0, .int .i64 1] _ _ rfl rfl N0 ⟨rfl, rfl, rfl, rfl⟩ rfl rfl (by decide) (by decide) (by decide) ?_; intro A1 c1 w2 N1 ch1)
  go_region_law (refine step_pushK rfl _ _ rfl b 4 _ ((nrB 4) ++ [⟨5, 0, 1⟩]) [⟨6, 1, 1099511627776⟩, ⟨7, 0, 1099511627776⟩] #[.pointer (some ⟨b, 6, none⟩), .int .i64 1, .int .i64 1099511627776, .pointer (some ⟨b, 7, none⟩), .int .i64 0, .int .i64 1099511627776] _ _ rfl rfl N1 ⟨rfl, rfl, rfl, rfl⟩ rfl rfl (by decide) (by decide) (by decide) ?_; intro A2 c2 w3 N2 ch2)
  go_wp2_with (at_builtin; refine wpList_pushK rfl _ _ rfl b 4 _ (((nrB 4) ++ [⟨5, 0, 1⟩]) ++ [⟨6, 1, 1099511627776⟩, ⟨7, 0, 1099511627776⟩]) [⟨8, 0, 1099511627776⟩] #[.pointer (some ⟨b, 8, none⟩), .int .i64 0, .int .i64 1099511627776] _ _ rfl rfl N2 ⟨rfl, rfl, rfl, rfl⟩ rfl rfl (by decide) (by decide) (by decide) ?_; intro A3 c3 w4 N3 ch3)
  go_ret
  exact ⟨N3.out.bl, A3, c3, rfl, N3.out.ow⟩
set_option maxRecDepth 100000 in
set_option maxHeartbeats 4000000 in
theorem numbers5_any (b : Nat) (w : World) (h : w.cell? ⟨b, 0, none⟩ = some (.int .i64 5)) :
    Calls Tryd.prog 28 #[.pointer (some ⟨b, 0, none⟩)] w (NsP b 5 w) := by
  have N0 := Lib.hid (NI.start h #[.pointer (some ⟨b, 1, none⟩), .int .i64 0, .int .i64 7, .pointer (some ⟨b, 2, none⟩), .int .i64 0, .int .i64 7, .pointer (some ⟨b, 3, none⟩), .int .i64 0, .int .i64 1073741824, .pointer (some ⟨b, 4, none⟩), .int .i64 0, .int .i64 1073741824] rfl)
  skip
  have ch := N0.out.c
  go_enter Tryd.func28, Tryd.ntmps28
  go_wp2_with fail
  go_region
  generalize (w.alloc (Obj.cells #[.pointer (some ⟨b, 1, none⟩), .int .i64 0, .int .i64 7, .pointer (some ⟨b, 2, none⟩), .int .i64 0, .int .i64 7, .pointer (some ⟨b, 3, none⟩), .int .i64 0, .int .i64 1073741824, .pointer (some ⟨b, 4, none⟩), .int .i64 0, .int .i64 1073741824] 82)).drew = w1 at *
  go_wp2_with (first | (at_builtin; refine wpList_pushK rfl _ _ rfl b 5 _ (nrB 5) [⟨5, 0, 1099511627776⟩] #[.pointer (some ⟨b, 5, none⟩), .int .i64 0, .int .i64 1099511627776] _ _ rfl rfl N0 ⟨rfl, rfl, rfl, rfl⟩ rfl rfl (by decide) (by decide) (by decide) ?_; intro A1 c1 w2 N1 ch1) | (at_builtin; refine wpList_pushK rfl _ _ rfl b 5 _ ((nrB 5) ++ [⟨5, 0, 1099511627776⟩]) [⟨8, 0, 1099511627776⟩] #[.pointer (some ⟨b, 8, none⟩), .int .i64 0, .int .i64 1099511627776] _ _ rfl rfl N1 ⟨rfl, rfl, rfl, rfl⟩ rfl rfl (by decide) (by decide) (by decide) ?_; intro A2 c2 w3 N2 ch2))
  go_ret
  exact ⟨N2.out.bl, A2, c2, rfl, N2.out.ow⟩
set_option maxRecDepth 100000 in
set_option maxHeartbeats 4000000 in
theorem numbersx_any (b : Nat) (k : Int) (w : World) (h : w.cell? ⟨b, 0, none⟩ = some (.int .i64 k)) (k1 : (k == 1) = false) (k2 : (k == 2) = false) (k3 : (k == 3) = false) (k4 : (k == 4) = false) (k5 : (k == 5) = false) :
    Calls Tryd.prog 28 #[.pointer (some ⟨b, 0, none⟩)] w (NsP b k w) := by
  have e1 : nrB k = nrB 1 := by unfold nrB lid; rw [if_neg (by simpa using k5)]; rfl
  have e2 : nrs k = nrB 1 ++ [(⟨8, 0, 1099511627776⟩ : Nr)] := by
    unfold nrs nrS nrF
    have q1 : ¬ k = 1 := by simpa using k1
    have q2 : ¬ k = 2 := by simpa using k2
    have q3 : ¬ k = 3 := by simpa using k3
    have q4 : ¬ k = 4 := by simpa using k4
    have q5 : ¬ k = 5 := by simpa using k5
    rw [e1, if_neg q1, if_neg q4, if_neg q5, if_neg (by rintro (h | h | h); exact q2 h; exact q3 h; exact q4 h)]
    rfl
  have N0 := Lib.hid (NI.start h #[.pointer (some ⟨b, 1, none⟩), .int .i64 0, .int .i64 7, .pointer (some ⟨b, 2, none⟩), .int .i64 0, .int .i64 7, .pointer (some ⟨b, 3, none⟩), .int .i64 1, .int .i64 1073741824, .pointer (some ⟨b, 4, none⟩), .int .i64 1, .int .i64 1073741824] (by rw [e1]; rfl))
  rw [e1] at N0
  have ch := N0.out.c
  go_enter Tryd.func28, Tryd.ntmps28
  go_wp2_with fail
  go_region
  generalize (w.alloc (Obj.cells #[.pointer (some ⟨b, 1, none⟩), .int .i64 0, .int .i64 7, .pointer (some ⟨b, 2, none⟩), .int .i64 0, .int .i64 7, .pointer (some ⟨b, 3, none⟩), .int .i64 1, .int .i64 1073741824, .pointer (some ⟨b, 4, none⟩), .int .i64 1, .int .i64 1073741824] 82)).drew = w1 at *
  go_wp2_with (at_builtin; refine wpList_pushK rfl _ _ rfl b k _ (nrB 1) [⟨8, 0, 1099511627776⟩] #[.pointer (some ⟨b, 8, none⟩), .int .i64 0, .int .i64 1099511627776] _ _ rfl rfl N0 ⟨rfl, rfl, rfl, rfl⟩ rfl rfl (by decide) (by decide) (by decide) ?_; intro A1 c1 w2 N1 ch1)
  go_ret
  exact ⟨N1.out.bl, A1, c1, by rw [e2]; rfl, by rw [e2]; exact N1.out.ow⟩
theorem numbers_any (b : Nat) (k : Int) (w : World) (h : w.cell? ⟨b, 0, none⟩ = some (.int .i64 k)) :
    Calls Tryd.prog 28 #[.pointer (some ⟨b, 0, none⟩)] w (NsP b k w) := by
  by_cases k1 : k = 1
  · subst k1; exact numbers1_any b w h
  by_cases k2 : k = 2
  · subst k2; exact numbers2_any b w h
  by_cases k3 : k = 3
  · subst k3; exact numbers3_any b w h
  by_cases k4 : k = 4
  · subst k4; exact numbers4_any b w h
  by_cases k5 : k = 5
  · subst k5; exact numbers5_any b w h
  exact numbersx_any b k w h (by simpa using k1) (by simpa using k2) (by simpa using k3) (by simpa using k4) (by simpa using k5)
end Go.Proofs.YtcjaaijohapeaaaDoor

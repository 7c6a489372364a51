import Derived.Test.YtndidbanbklonaaBp
/-
  A network: receiving, the first time, how many were sent. No conditions beyond those that each names.
-/
namespace Go.Proofs.Ytndidbanbklonaa
open Go.RowKit Go.Sort Go.Lib Go.Shelf
/-- A network behind a receiving. -/
def rcvS (S : Ns) (u : Int) (q : Sq) : Ns := ⟨S.nodes, S.lat, S.fs, S.sent, max S.rch u, q⟩
/-- What a receiving leaves. -/
def RcP (c m : Nat) (V : Int → Value) (tv fv : Value) (S : Ns) (u : Int) (w : World) (e : Ending) (w' : World) : Prop := ∃ x l q V' tv', e = .returned x ∧ OwA w.heap.size w' x l ∧ Nw c w' m V' tv' fv (rcvS S u q) ∧ S.q.fl = l ++ q.fl ∧ (∀ a ∈ l, a.at_ ≤ u) ∧ (∀ a ∈ q.fl, u < a.at_) ∧ (∀ i, Fp c m V' tv' i → Fp c m V tv i) ∧ Fm (Fp c m V tv) w w'
theorem rcv_end {c m : Nat} {V : Int → Value} {tv fv : Value} {S : Ns} {u : Int} {w : World} {e : Ending} {w' : World} (h : Nw c w m V tv fv S) (k : TkP c 5 m V tv S.q u (w.setCell ⟨c, 4, none⟩ (.int .i64 (max S.rch u))) e w') : RcP c m V tv fv S u w e w' := by
  obtain ⟨x, l, q, V', tv', rfl, k1, k2, k3, k4, k5, k6, k7, k8, k9⟩ := k
  have gb := gb_set1 w ⟨c, 4, none⟩ (.int .i64 (max S.rch u))
  have n4 : ∀ j, j ≠ 4 → (⟨c, 4, none⟩ : Addr) ≠ ⟨c, j, none⟩ := fun j hj e => by injection e with _ e; exact hj e.symm
  have c_ := fun j (hj : j ≠ 4) (h1 : j ≠ 5) (h2 : j ≠ 6) (h3 : j ≠ 7) v (e : w.cell? ⟨c, j, none⟩ = some v) => (k9.cl j h1 h2 h3).trans ((World.cell?_setCell_other (h := n4 j hj) ..).trans e)
  have hfm : Fm (Fp c m V tv) w w' := (Fm.gb (s := Fp c m V tv) gb fun i e => by injection e with e; exact .inl e.symm).trans k8 fun _ _ e => e
  have hn : q.n ≤ S.q.n := by rw [k3.cnt, h.ok.oq.cnt, k4, List.length_append]; omega
  refine ⟨x, l, q, V', tv', rfl, own_mono k1 gb.size, ⟨c_ 0 (by decide) (by decide) (by decide) (by decide) _ h.c0, c_ 1 (by decide) (by decide) (by decide) (by decide) _ h.c1, c_ 2 (by decide) (by decide) (by decide) (by decide) _ h.c2, c_ 3 (by decide) (by decide) (by decide) (by decide) _ h.c3, (k9.fr 3).trans ((fr_set ..).trans h.f3), (k9.cl 4 (by decide) (by decide) (by decide)).trans (World.cell?_setCell_same (h := h.c4) ..), (k9.fr 4).trans ((fr_set ..).trans h.f4), k2, own_blk h.fo fun g e => hfm.blk g (h.fo.lt g e).2 (h.fn g e), fun g e hg => h.fn g e (k7 g hg), ⟨h.ok.nd, h.ok.lt, h.ok.fl, h.ok.fo, k3, Nat.le_trans hn h.ok.qn⟩⟩, k4, k5, k6, k7, hfm⟩
set_option maxRecDepth 100000 in
set_option maxHeartbeats 2000000 in
theorem receive_any (c : Nat) (w : World) (m : Nat) (V : Int → Value) (tv fv : Value) (S : Ns) (u : Int) (h : Nw c w m V tv fv S) :
    Calls Try.prog 11 #[(.pointer (some ⟨c, 0, none⟩)), .int .i64 u] w (RcP c m V tv fv S u w) := by
  have k4 := h.c4
  have f4 := h.f4
  have pl := h.lt
  have cT := take_any c 5 _ m V tv S.q u (h.sb.set 4 (by decide) (.int .i64 (max S.rch u))) h.ok.oq (by have := h.ok.qn; omega)
  have H := Lib.hid h
  clear h
  go_enter Try.func11, Try.ntmps11
  go_wp2_with (refine cT.mono ?_; intro e w2 k; have K := Lib.hid k; obtain ⟨x, l, q, V', tv', rfl, -⟩ := k)
  go_ret
  exact rcv_end H.out K.out
set_option maxRecDepth 100000 in
set_option maxHeartbeats 2000000 in
theorem next_any (c : Nat) (w : World) (m : Nat) (V : Int → Value) (tv fv : Value) (S : Ns) (h : Nw c w m V tv fv S) :
    Calls Try.prog 24 #[(.pointer (some ⟨c, 0, none⟩))] w (Is (.tuple #[.int .i64 (hdI S.q.T), .bool !S.q.T.isEmpty]) w) := by
  have pl := h.lt
  have cF := first_any c 5 w m V tv S.q _ h.sb (by have := len_T h.ok.oq; have := h.ok.qn; omega)
  generalize hdI S.q.T = x at *
  generalize (!S.q.T.isEmpty) = b at *
  clear h
  go_enter Try.func24, Try.ntmps24
  go_wp2_with (refine cF.mono ?_; rintro e w1 ⟨rfl, rfl⟩)
  go_ret2
  exact ⟨rfl, rfl⟩
set_option maxRecDepth 100000 in
set_option maxHeartbeats 2000000 in
theorem sent_any (c : Nat) (w : World) (m : Nat) (V : Int → Value) (tv fv : Value) (S : Ns) (h : Nw c w m V tv fv S) :
    Calls Try.prog 12 #[(.pointer (some ⟨c, 0, none⟩))] w (Is (.int .i64 (S.sent : Int)) w) := by
  have k3 := h.c3
  have pl := h.lt
  clear h
  go_enter Try.func12, Try.ntmps12
  go_wp2_with fail
  go_ret
  exact ⟨rfl, rfl⟩
end Go.Proofs.Ytndidbanbklonaa

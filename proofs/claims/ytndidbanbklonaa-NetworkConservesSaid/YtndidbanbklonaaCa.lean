import Derived.Test.YtndidbanbklonaaBv
import Derived.Deep.Upon
/-
  What a sending makes of what is pending, as a multiset; appending one row of arrivals to another; times that come in. No conditions beyond those that each names.
-/
namespace Go.Proofs.Ytndidbanbklonaa
open Go.RowKit Go.Sort Go.Lib Go.Shelf
theorem fold_perm {fr to_ : Int} {k : Nat} {s : ByteArray} : ∀ (l : List Int) (q : Sq), Okq q → (l.foldl (fun q t => q.add ⟨t, fr, to_, k, s⟩) q).fl.Perm (q.fl ++ l.map fun t => ⟨t, fr, to_, k, s⟩)
  | [], q, h => by rw [List.map_nil, List.append_nil]; exact List.Perm.refl _
  | t :: l, q, h => by
    have h1 := fold_perm (fr := fr) (to_ := to_) (k := k) (s := s) l (q.add ⟨t, fr, to_, k, s⟩) (h.add _)
    obtain ⟨F1, F2, e1, e2, -, -⟩ := add_fl h ⟨t, fr, to_, k, s⟩
    rw [List.foldl_cons, List.map_cons]
    refine h1.trans ?_
    rw [e2, e1]
    have h2 : (F1 ++ ⟨t, fr, to_, k, s⟩ :: F2).Perm (F1 ++ F2 ++ [⟨t, fr, to_, k, s⟩]) := by
      rw [List.append_assoc]
      exact List.Perm.append_left F1 (List.perm_append_singleton _ F2).symm
    refine (h2.append_right _).trans ?_
    rw [List.append_assoc]; exact List.Perm.refl _
/-- The arrivals that the first i operations cause. -/
def ars (q : Nat → Opn) (S : Ns) : Nat → List Ar
  | 0 => []
  | i + 1 => if sndE (sr q S i).1 (q i).at_ (q i).fr (q i).to_ (q i).dat.size = 0 then ars q S i ++ (arT S.lat (q i).at_ (q i).fr (q i).to_ S.fs).map (fun t => ⟨t, (q i).fr, (q i).to_, (sr q S i).1.sent + 1, (q i).dat⟩) else ars q S i
theorem sr_perm (q : Nat → Opn) (S : Ns) (h0 : 0 ≤ S.rch ∧ S.rch ≤ 1099511627776) (hq : Okq S.q) (hfl : S.q.fl = []) : ∀ i, Okq (sr q S i).1.q ∧ (sr q S i).1.q.fl.Perm (ars q S i)
  | 0 => ⟨hq, by rw [show (sr q S 0).1.q.fl = S.q.fl from rfl, hfl]; exact List.Perm.refl _⟩
  | i + 1 => by
    obtain ⟨h1, h2⟩ := sr_perm q S h0 hq hfl i
    obtain ⟨-, k2, k3, -⟩ := sr_keep q S h0 i
    unfold sr ars
    split
    · refine ⟨?_, ?_⟩
      · show Okq (List.foldl _ _ _)
        exact (fold_ok _ _ h1).1
      · unfold sndS
        rw [k2, k3]
        exact (fold_perm _ _ h1).trans (h2.append_right _)
    · exact ⟨h1, h2⟩
theorem ars_mem (q : Nat → Opn) (S : Ns) (hl : 0 ≤ S.lat ∧ S.lat ≤ 1099511627776) (hf : S.fs.length ≤ 64) (hx : ∀ y ∈ S.fs, 0 ≤ y.x ∧ y.x ≤ 1099511627776) (h0 : S.sent = 0) : ∀ i, ∀ a ∈ ars q S i, ∃ j, ∃ hj : j < (sr q S i).2.length, a.num = j + 1 ∧ a.fr = ((sr q S i).2[j]'hj).fr ∧ a.to_ = ((sr q S i).2[j]'hj).to_ ∧ a.dat = ((sr q S i).2[j]'hj).dat ∧ ((sr q S i).2[j]'hj).at_ + S.lat ≤ a.at_ ∧ 0 ≤ a.at_ ∧ a.at_ ≤ 73667279060992
  | 0, a, h => by cases h
  | i + 1, a, h => by
    have hs := (sr_sent q S h0 i).1
    by_cases he : sndE (sr q S i).1 (q i).at_ (q i).fr (q i).to_ (q i).dat.size = 0
    · have e1 : ars q S (i + 1) = ars q S i ++ (arT S.lat (q i).at_ (q i).fr (q i).to_ S.fs).map (fun t => ⟨t, (q i).fr, (q i).to_, (sr q S i).1.sent + 1, (q i).dat⟩) := by rw [ars, if_pos he]
      have e2 : (sr q S (i + 1)).2 = (sr q S i).2 ++ [⟨(q i).at_, (q i).fr, (q i).to_, (sr q S i).1.sent + 1, (q i).dat⟩] := by rw [sr, if_pos he]
      rw [e1] at h
      rw [e2]
      rcases List.mem_append.1 h with h | h
      · obtain ⟨j, hj, a1⟩ := ars_mem q S hl hf hx h0 i a h
        refine ⟨j, by rw [List.length_append]; omega, ?_⟩
        rw [List.getElem_append_left hj]
        exact a1
      · obtain ⟨t, ht, rfl⟩ := List.mem_map.1 h
        have hb := (arT_bd (fr := (q i).fr) (to_ := (q i).to_) hf hx (sndE_t he).1 hl).2 t ht
        have h3 := (sndE_t he).1
        refine ⟨(sr q S i).2.length, by rw [List.length_append]; exact Nat.lt_succ_self _, ?_⟩
        rw [List.getElem_append_right (Nat.le_refl _)]
        simp only [Nat.sub_self, List.getElem_cons_zero]
        exact ⟨by rw [hs], trivial, trivial, trivial, hb.1, by omega, hb.2⟩
    · have e1 : ars q S (i + 1) = ars q S i := by rw [ars, if_neg he]
      have e2 : (sr q S (i + 1)).2 = (sr q S i).2 := by rw [sr, if_neg he]
      rw [e1] at h
      rw [e2]
      exact ars_mem q S hl hf hx h0 i a h
/-- A list parts in one way at a time. -/
theorem cut_one {l1 r1 l2 r2 : List Ar} {u : Int} (e : l1 ++ r1 = l2 ++ r2) (h1 : ∀ a ∈ l1, a.at_ ≤ u) (g1 : ∀ a ∈ r1, u < a.at_) (h2 : ∀ a ∈ l2, a.at_ ≤ u) (g2 : ∀ a ∈ r2, u < a.at_) : l1 = l2 := by
  have f : ∀ l r : List Ar, (∀ a ∈ l, a.at_ ≤ u) → (∀ a ∈ r, u < a.at_) → (l ++ r).filter (fun a => decide (a.at_ ≤ u)) = l := fun l r h g => by
    rw [List.filter_append, List.filter_eq_self.2 (fun a ha => decide_eq_true (h a ha)), List.filter_eq_nil_iff.2 (fun a ha => by have := g a ha; simp; omega), List.append_nil]
  rw [← f l1 r1 h1 g1, e, f l2 r2 h2 g2]
/-- One row of arrivals behind another. -/
theorem ap_row {B : Nat} (w : World) (ty : TypeId) (v x : Value) (l lx : List Ar) (hv : OwA B w v l) (hx : OwA 0 w x lx) (hn : l.length + lx.length ≤ 1000000) (hB : B ≤ w.heap.size) : ∃ A n d w', (Builtin.append_ #[28, 28] ty #[v, x]).run Try.prog w = .ok (.slice A n d) w' ∧ OwA B w' (.slice A n d) (l ++ lx) ∧ w.grownBy w' v.ownBlock ∧ ((Value.slice A n d).ownBlock = v.ownBlock ∨ (Value.slice A n d).ownBlock = some w.heap.size) := by
  obtain ⟨i, hi, hz, hs5, hby⟩ := info_parts infoA
  obtain ⟨Ax, dx, rfl, ⟨rfl, rfl, h0⟩ | ⟨gx, rfl, -⟩⟩ := own_nil_or hx
  · obtain rfl := List.eq_nil_of_length_eq_zero h0
    obtain ⟨Av, dv, rfl, hA⟩ := own_nil_or hv
    have hr := run_append_nothing (P := Try.prog) w 28 28 ty 34 i Try.underlying28 hi Av l.length dv (by rcases hA with ⟨-, -, h⟩ | ⟨g, -, -, -, h⟩ <;> omega) _ (Src.ofNil w Try.underlying28 0)
    exact ⟨_, _, _, w, hr, by rw [List.append_nil]; exact hv, World.grownBy.refl _ _, .inl rfl⟩
  · obtain ⟨v', w', e1, e2, e3, -, e5⟩ := run_append_own_at (P := Try.prog) w B 28 28 34 i _ 5 48 Try.underlying28 hi hz hs5 hby rfl (by omega) v l.length (tc e5 l) hv ⟨gx, 0, none⟩ lx.length dx (tc e5 lx) (by rw [tc_len e5_len]) (fun j u hj => hx.cells (g := gx) rfl j u hj) (tc_one' e5_one _) (by unfold maxLen; omega) (by omega) hB
    have e2 : OwA B w' v' (l ++ lx) := by unfold OwA; rw [tc_app, List.length_append]; exact e2
    obtain ⟨A, d, rfl, -⟩ := own_nil_or e2
    exact ⟨A, _, d, w', e1, e2, e3, e5⟩
/-- Numbers that come in. -/
def Tms (w : World) (A : Option Addr) (n : Nat) (q : Nat → Int) : Prop := n = 0 ∨ ∃ ab ao : Nat, A = some ⟨ab, ao, none⟩ ∧ ab < w.heap.size ∧ ∀ i, i < n → w.cell? ⟨ab, ao + i, none⟩ = some (.int .i64 (q i))
open Go.ChangeShapes Go.WideShapes Go.ChangeAt in
set_option maxRecDepth 100000 in
theorem open_ints {H : Type} {enc : TypeId × Value → H} {W : World} {r : Reach} {b0 : Nat} {v : Value} {d : DataW H} {p : List MemPlace} (hv : Value.okWide Try.prog W r b0 54 v) (h : DataW.Trod enc Try.prog W 0 (fun _ => true) true 54 v d p) :
    ∃ A n c q, v = .slice A n c ∧ n ≤ 9223372036854775807 ∧ Tms W A n q := by
  obtain ⟨A, n, c, rfl⟩ := okWide_slice Try.underlying54 hv
  obtain ⟨fuel, hf⟩ := h
  rcases Go.Deep.open_slice Try.underlying54 hf with ⟨hc, _⟩ | ⟨a, len, cap, m, k, D, Pl, hc, _, hl, hm, hmm, _, hi⟩
  · simp [Value.cells] at hc
    obtain ⟨rfl, rfl, rfl⟩ := hc
    exact ⟨none, 0, 0, fun _ => 0, rfl, by decide, .inl rfl⟩
  · simp [Value.cells] at hc
    obtain ⟨rfl, rfl, rfl⟩ := hc
    have e1 : Try.prog.cellsOf 3 = 1 := by kernel_rfl
    have key : ∀ i, ∃ x : Int, i < n → W.cell? (a.add i) = some (.int .i64 x) := by
      intro i
      by_cases hin : i < n
      · obtain ⟨cs, hcells, htr⟩ := hi i (by simp at hmm; omega)
        rw [e1, Nat.mul_one] at hcells
        obtain ⟨_, hcl, hat⟩ := World.cells?_some hcells
        match cs, hcl with
        | [c0], _ =>
          obtain ⟨K, rfl, wk⟩ := int_cell Try.underlying3 htr
          refine ⟨K, fun _ => ?_⟩
          have h0 : W.cell? ((a.add i).add 0) = some (.int .i64 K) := hat 0 (by decide)
          rw [Addr.add_zero'] at h0
          exact h0
      · exact ⟨0, fun h => absurd h hin⟩
    obtain ⟨q, hq⟩ := Classical.skolem.1 key
    refine ⟨_, _, _, q, rfl, by simp only [maxLen] at hm; omega, ?_⟩
    rcases Nat.eq_zero_or_pos n with h0 | h0
    · exact .inl h0
    have hs := spot_none0 (hq 0 h0)
    obtain ⟨ab, ao, sp⟩ := a
    have hs : sp = none := by simpa [Addr.add] using hs
    subst hs
    have hb := blk_lt (hq 0 h0)
    rw [Addr.add_lit] at hb
    exact .inr ⟨ab, ao, rfl, hb, fun i hi => by have := hq i hi; rw [Addr.add_lit] at this; exact this⟩
end Go.Proofs.Ytndidbanbklonaa

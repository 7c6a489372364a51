import Derived.Test.YtndidbanbklonaaBu
/-
  The law of delivery without faults. No conditions beyond those that each names.
-/
namespace Go.Proofs.Ytndidbanbklonaa
open Go.RowKit Go.Sort Go.Lib Go.Shelf
/-- What does not change while a script is sent; the bounds of what is pending. -/
theorem sr_keep (q : Nat → Opn) (S : Ns) (h0 : 0 ≤ S.rch ∧ S.rch ≤ 1099511627776) : ∀ i, (sr q S i).1.nodes = S.nodes ∧ (sr q S i).1.lat = S.lat ∧ (sr q S i).1.fs = S.fs ∧ 0 ≤ (sr q S i).1.rch ∧ (sr q S i).1.rch ≤ 1099511627776
  | 0 => ⟨rfl, rfl, rfl, h0⟩
  | i + 1 => by
    obtain ⟨h1, h2, h3, h4⟩ := sr_keep q S h0 i
    unfold sr
    split
    · rename_i he
      refine ⟨h1, h2, h3, ?_⟩
      show 0 ≤ (q i).at_ ∧ (q i).at_ ≤ 1099511627776
      unfold sndE at he
      split at he
      · split at he
        · rename_i ht; exact of_decide_eq_true ht
        · cases he
      · cases he
    · exact ⟨h1, h2, h3, h4⟩
theorem sndE_t {S : Ns} {at_ fr to_ : Int} {n : Nat} (h : sndE S at_ fr to_ n = 0) : (0 ≤ at_ ∧ at_ ≤ 1099511627776) ∧ S.rch ≤ at_ := by
  unfold sndE at h
  split at h
  · split at h
    · rename_i ht
      refine ⟨of_decide_eq_true ht, ?_⟩
      split at h
      · cases h
      · split at h
        · cases h
        · omega
    · cases h
  · cases h
theorem sr_bd (q : Nat → Opn) (S : Ns) : ∀ i, ∀ a ∈ (sr q S i).2, 0 ≤ a.at_ ∧ a.at_ ≤ 1099511627776
  | 0, a, h => by cases h
  | i + 1, a, h => by
    unfold sr at h
    split at h
    · rename_i he
      rcases List.mem_append.1 h with h | h
      · exact sr_bd q S i a h
      · rw [List.mem_singleton.1 h]; exact (sndE_t he).1
    · exact sr_bd q S i a h
/-- An arrival after the latency. -/
def lateA (lat : Int) (a : Ar) : Ar := ⟨a.at_ + lat, a.fr, a.to_, a.num, a.dat⟩
/-- Without faults what is pending is what was sent, after the latency. -/
theorem sr_late (q : Nat → Opn) (S : Ns) (h0 : 0 ≤ S.rch ∧ S.rch ≤ 1099511627776) (hl : 0 ≤ S.lat) (hf : S.fs = []) (hq : Okq S.q) (hfl : S.q.fl = []) : ∀ i, Okq (sr q S i).1.q ∧ (sr q S i).1.q.fl = (sr q S i).2.map (lateA S.lat) ∧ ∀ x ∈ (sr q S i).1.q.fl, x.at_ ≤ (sr q S i).1.rch + S.lat
  | 0 => ⟨hq, hfl, fun x hx => by rw [show (sr q S 0).1.q.fl = S.q.fl from rfl, hfl] at hx; cases hx⟩
  | i + 1 => by
    obtain ⟨h1, h2, h3⟩ := sr_late q S h0 hl hf hq hfl i
    obtain ⟨k1, k2, k3, k4⟩ := sr_keep q S h0 i
    unfold sr
    split
    · rename_i he
      obtain ⟨t1, t2⟩ := sndE_t he
      have ha : arT (sr q S i).1.lat (q i).at_ (q i).fr (q i).to_ (sr q S i).1.fs = [(q i).at_ + S.lat] := by rw [k2, k3, hf]; rfl
      have hS : (sndS (sr q S i).1 (q i).at_ (q i).fr (q i).to_ (q i).dat).q = (sr q S i).1.q.add ⟨(q i).at_ + S.lat, (q i).fr, (q i).to_, (sr q S i).1.sent + 1, (q i).dat⟩ := by unfold sndS; rw [ha]; rfl
      obtain ⟨F1, F2, e1, e2, e3, e4⟩ := add_fl h1 ⟨(q i).at_ + S.lat, (q i).fr, (q i).to_, (sr q S i).1.sent + 1, (q i).dat⟩
      have hF2 : F2 = [] := by
        cases hF : F2 with
        | nil => rfl
        | cons x r =>
          have a1 := e4 x (by rw [hF]; exact List.mem_cons_self ..)
          have a2 := h3 x (by rw [e1, hF]; simp)
          have a3 : (q i).at_ + S.lat < x.at_ := a1
          omega
      rw [hF2, List.append_nil] at e1
      rw [hF2] at e2
      refine ⟨?_, ?_, fun x hx => ?_⟩
      · rw [hS]; exact h1.add _
      · rw [hS, e2, ← e1, h2, List.map_append]; rfl
      · rw [hS, e2] at hx
        show x.at_ ≤ (q i).at_ + S.lat
        rcases List.mem_append.1 hx with hx | hx
        · exact e3 x hx
        · rw [List.mem_singleton.1 hx]; exact Int.le_refl _
    · exact ⟨h1, h2, h3⟩
/-- The elements of a row in a later world. -/
theorem OwA.cell {B : Nat} {w : World} {g n c : Nat} {l : List Ar} (h : OwA B w (.slice (some ⟨g, 0, none⟩) n c) l) (hn : l.length = n) (i : Nat) (hi : i < l.length) (j : Nat) (v : Value) (hv : (e5 (l[i]'hi))[j]? = some v) : w.cell? ⟨g, i * 5 + j, none⟩ = some v := by
  subst hn
  exact own_cells e5_len h i hi j v hv
theorem OwA.len {B : Nat} {w : World} {A : Option Addr} {n c : Nat} {l : List Ar} (h : OwA B w (.slice A n c) l) : l.length = n := by obtain ⟨A0, c0, e, -⟩ := own_nil_or h; injection e with _ e _; exact e.symm
theorem OwA.pos {B : Nat} {w : World} {A : Option Addr} {n c : Nat} {l : List Ar} (h : OwA B w (.slice A n c) l) (hn : 0 < n) : ∃ g, A = some ⟨g, 0, none⟩ ∧ g < w.heap.size := by
  obtain ⟨A0, c0, e, ⟨-, -, h0⟩ | ⟨g, h1, -, h2, -⟩⟩ := own_nil_or h
  · have := h.len; omega
  · injection e with e1 _ _
    exact ⟨g, e1.trans h1, h2⟩
/-- How the comparing loop stands. -/
structure DlB (w w4 : World) (x y : Value) (l : List Ar) (lat : Int) : Prop where
  bd : ∀ a ∈ l, 0 ≤ a.at_ ∧ a.at_ ≤ 1099511627776
  lo : Below w.heap.size w w4
  ox : OwA 0 w4 x l
  oy : OwA 0 w4 y (l.map (lateA lat))
/-- The network behind the script, received at the end. -/
theorem dl_end {nodes lat : Int} {w w1 w2 w3 : World} {c m : Nat} {fv : Value} {q : Nat → Opn} {N : Nat} {x : Value} {V2 : Int → Value} {tv2 : Value} {e : Ending} (hl : 0 ≤ lat ∧ lat ≤ 1099511627776) (hb1 : Below w.heap.size w w1) (hge : ∀ i, Fp c m (fun _ => .slice none 0 0) (.slice none 0 0) i ∨ fv.ownBlock = some i → w.heap.size ≤ i) (k : SeI c m (fun _ => .slice none 0 0) (.slice none 0 0) fv q (Ns.new nodes lat []) w1 N x V2 tv2 w2) (r : RcP c m V2 tv2 fv (sr q (Ns.new nodes lat []) N).1 1152921504606846976 w2 e w3) :
    ∃ y V3 tv3 S3, e = .returned y ∧ DlB w w3 x y (sr q (Ns.new nodes lat []) N).2 lat ∧ Nw c w3 m V3 tv3 fv S3 ∧ S3.sent = (sr q (Ns.new nodes lat []) N).2.length := by
  obtain ⟨y, l, q3, V3, tv3, rfl, r1, r2, r3, r4, r5, r6, r7⟩ := r
  have h0 : 0 ≤ (Ns.new nodes lat []).rch ∧ (Ns.new nodes lat []).rch ≤ 1099511627776 := ⟨Int.le_refl _, by show (0 : Int) ≤ _; omega⟩
  obtain ⟨a1, a2, a3⟩ := sr_late q (Ns.new nodes lat []) h0 hl.1 rfl Okq.nil rfl N
  obtain ⟨-, b2, -, b4⟩ := sr_keep q (Ns.new nodes lat []) h0 N
  have b2 : (sr q (Ns.new nodes lat []) N).1.lat = lat := b2
  have a3 : ∀ x ∈ (sr q (Ns.new nodes lat []) N).1.q.fl, x.at_ ≤ (sr q (Ns.new nodes lat []) N).1.rch + lat := a3
  have hq3 : q3.fl = [] := by
    cases hq : q3.fl with
    | nil => rfl
    | cons z r =>
      have c1 := r5 z (by rw [hq]; exact List.mem_cons_self ..)
      have c2 := a3 z (by rw [r3, hq]; simp)
      omega
  rw [hq3, List.append_nil] at r3
  have hlow : ∀ i, Fp c m V2 tv2 i → w.heap.size ≤ i := fun i hi => (k.fp i hi).elim (fun h => hge i (.inl h)) (fun h => Nat.le_trans hb1.size h)
  have hb2 : Below w.heap.size w w2 := ((Fm.of (fun i => w.heap.size ≤ i) hb1).trans k.fm fun i _ e => hge i (.inl e)).below (Nat.le_refl _) fun _ e => e
  have hb3 : Below w.heap.size w w3 := ((Fm.of (fun i => w.heap.size ≤ i) hb2).trans r7 fun i _ e => hlow i e).below (Nat.le_refl _) fun _ e => e
  refine ⟨y, V3, tv3, _, rfl, ⟨sr_bd q _ N, hb3, own_mono (k.ow.blk fun g e => r7.blk g (k.ow.lt g e).2 (k.ap g e).1) (Nat.zero_le _), ?_⟩, r2, (sr_sent q (Ns.new nodes lat []) rfl N).1⟩
  rw [show ((sr q (Ns.new nodes lat []) N).2.map (lateA lat)) = l by rw [← r3, a2]; rfl]
  exact own_mono r1 (Nat.zero_le _)
end Go.Proofs.Ytndidbanbklonaa

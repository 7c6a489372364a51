import Derived.Test.YtndidbanbklonaaCa
/-
  Two networks apart. No conditions beyond those that each names.
-/
namespace Go.Proofs.Ytndidbanbklonaa
open Go.RowKit Go.Sort Go.Lib Go.Shelf
/-- Two networks that share no block, all in new memory. -/
structure Tw (w0 w : World) (c1 m1 : Nat) (V1 : Int → Value) (t1 f1 : Value) (S1 : Ns) (c2 m2 : Nat) (V2 : Int → Value) (t2 f2 : Value) (S2 : Ns) : Prop where
  n1 : Nw c1 w m1 V1 t1 f1 S1
  n2 : Nw c2 w m2 V2 t2 f2 S2
  ap : ∀ i, Fp c1 m1 V1 t1 i ∨ f1.ownBlock = some i → Fp c2 m2 V2 t2 i ∨ f2.ownBlock = some i → False
  bl : Below w0.heap.size w0 w
  l1 : ∀ i, Fp c1 m1 V1 t1 i → w0.heap.size ≤ i
  l2 : ∀ i, Fp c2 m2 V2 t2 i → w0.heap.size ≤ i
section
variable {w0 w w' : World} {c1 m1 c2 m2 : Nat} {V1 V2 V' : Int → Value} {t1 f1 t2 f2 t' : Value} {S1 S2 S' : Ns}
theorem Tw.left (h : Tw w0 w c1 m1 V1 t1 f1 S1 c2 m2 V2 t2 f2 S2) (hf : Fm (Fp c1 m1 V1 t1) w w') (hn : Nw c1 w' m1 V' t' f1 S') (hp : FpN w (Fp c1 m1 V1 t1) (Fp c1 m1 V' t')) : Tw w0 w' c1 m1 V' t' f1 S' c2 m2 V2 t2 f2 S2 := by
  refine ⟨hn, h.n2.blk hf.size fun i hi => hf.blk i (h.n2.bl_lt i hi) fun e => h.ap i (.inl e) hi, fun i hi hj => ?_, ((Fm.of (fun i => w0.heap.size ≤ i) h.bl).trans hf fun i _ e => h.l1 i e).below (Nat.le_refl _) fun _ e => e, fun i hi => ?_, h.l2⟩
  · rcases hi with hi | hi
    · rcases hp i hi with hi | hi
      · exact h.ap i (.inl hi) hj
      · have := h.n2.bl_lt i hj; omega
    · exact h.ap i (.inr hi) hj
  · rcases hp i hi with hi | hi
    · exact h.l1 i hi
    · have := h.bl.size; omega
theorem Tw.right (h : Tw w0 w c1 m1 V1 t1 f1 S1 c2 m2 V2 t2 f2 S2) (hf : Fm (Fp c2 m2 V2 t2) w w') (hn : Nw c2 w' m2 V' t' f2 S') (hp : FpN w (Fp c2 m2 V2 t2) (Fp c2 m2 V' t')) : Tw w0 w' c1 m1 V1 t1 f1 S1 c2 m2 V' t' f2 S' := by
  refine ⟨h.n1.blk hf.size fun i hi => hf.blk i (h.n1.bl_lt i hi) fun e => h.ap i hi (.inl e), hn, fun i hi hj => ?_, ((Fm.of (fun i => w0.heap.size ≤ i) h.bl).trans hf fun i _ e => h.l2 i e).below (Nat.le_refl _) fun _ e => e, h.l1, fun i hi => ?_⟩
  · rcases hj with hj | hj
    · rcases hp i hj with hj | hj
      · exact h.ap i hi (.inl hj)
      · have := h.n1.bl_lt i hi; omega
    · exact h.ap i hi (.inr hj)
  · rcases hp i hi with hi | hi
    · exact h.l2 i hi
    · have := h.bl.size; omega
/-- A row that is none of the networks'. -/
def Out (x : Value) (c1 m1 : Nat) (V1 : Int → Value) (t1 f1 : Value) (c2 m2 : Nat) (V2 : Int → Value) (t2 f2 : Value) : Prop := ∀ g, x.ownBlock = some g → ¬ (Fp c1 m1 V1 t1 g ∨ f1.ownBlock = some g) ∧ ¬ (Fp c2 m2 V2 t2 g ∨ f2.ownBlock = some g)
theorem Tw.grow {x : Value} {lx : List Ar} (h : Tw w0 w c1 m1 V1 t1 f1 S1 c2 m2 V2 t2 f2 S2) (hx : OwA w0.heap.size w x lx) (ho : Out x c1 m1 V1 t1 f1 c2 m2 V2 t2 f2) (hg : w.grownBy w' x.ownBlock) : Tw w0 w' c1 m1 V1 t1 f1 S1 c2 m2 V2 t2 f2 S2 :=
  ⟨h.n1.blk hg.size fun i hi => hg.block i (h.n1.bl_lt i hi) fun e => (ho i e.symm).1 hi, h.n2.blk hg.size fun i hi => hg.block i (h.n2.bl_lt i hi) fun e => (ho i e.symm).2 hi, h.ap, ((Fm.of (fun i => w0.heap.size ≤ i) h.bl).trans (Fm.gb (s := fun i => x.ownBlock = some i) hg fun _ e => e) fun i _ e => (hx.lt i e).1).below (Nat.le_refl _) fun _ e => e, h.l1, h.l2⟩
theorem Tw.next (h : Tw w0 w c1 m1 V1 t1 f1 S1 c2 m2 V2 t2 f2 S2) (hb : Below w.heap.size w w') : Tw w0 w' c1 m1 V1 t1 f1 S1 c2 m2 V2 t2 f2 S2 :=
  ⟨h.n1.next hb, h.n2.next hb, h.ap, Below.next h.bl (hb.mono (Nat.le_refl _)), h.l1, h.l2⟩
end
/-- How the loop over the times stands. -/
structure StL (w0 w : World) (c1 m1 : Nat) (V1 : Int → Value) (t1 f1 : Value) (S1 : Ns) (c2 m2 : Nat) (V2 : Int → Value) (t2 f2 : Value) (S2 : Ns) (x : Value) (lp : List Ar) (last : Int) : Prop where
  tw : Tw w0 w c1 m1 V1 t1 f1 S1 c2 m2 V2 t2 f2 S2
  ow : OwA w0.heap.size w x lp
  out : Out x c1 m1 V1 t1 f1 c2 m2 V2 t2 f2
  fl : S2.q.fl = lp ++ S1.q.fl
  le : ∀ a ∈ lp, a.at_ ≤ last
  gt : ∀ a ∈ S1.q.fl, last < a.at_
/-- One time more. -/
theorem StL.step {w0 w w1 : World} {c1 m1 c2 m2 : Nat} {V1 V2 : Int → Value} {t1 f1 t2 f2 : Value} {S1 S2 : Ns} {x : Value} {lp : List Ar} {last t : Int} {e : Ending} (h : StL w0 w c1 m1 V1 t1 f1 S1 c2 m2 V2 t2 f2 S2 x lp last) (r : RcP c1 m1 V1 t1 f1 S1 (max last t) w e w1) :
    ∃ y, e = .returned y ∧ ∃ A n d w2 V' t' S' lp', (Builtin.append_ #[28, 28] 28 #[x, y]).run Try.prog w1 = .ok (.slice A n d) w2 ∧ StL w0 w2 c1 m1 V' t' f1 S' c2 m2 V2 t2 f2 S2 (.slice A n d) lp' (max last t) := by
  obtain ⟨y, l, q, V', t', rfl, r1, r2, r3, r4, r5, r6, r7⟩ := r
  have hT := h.tw.left r7 r2 fun i hi => .inl (r6 i hi)
  have hO : Out x c1 m1 V' t' f1 c2 m2 V2 t2 f2 := fun g e => ⟨fun hg => (h.out g e).1 (hg.imp (r6 g) id), (h.out g e).2⟩
  have hx : OwA w0.heap.size w1 x lp := h.ow.blk fun g e => r7.blk g (h.ow.lt g e).2 fun hg => (h.out g e).1 (.inl hg)
  have hlen : lp.length + l.length ≤ 1000000 := by
    have h1 := h.tw.n2.ok.qn
    have h2 := h.tw.n2.ok.oq.cnt
    rw [h2, h.fl, r3, List.length_append, List.length_append] at h1
    omega
  obtain ⟨A, n, d, w2, a1, a2, a3, a4⟩ := ap_row w1 28 x y lp l hx (own_mono r1 (Nat.zero_le _)) hlen (Nat.le_trans h.tw.bl.size r7.size)
  refine ⟨y, rfl, A, n, d, w2, V', t', _, lp ++ l, a1, hT.grow hx hO a3, a2, fun g e => ?_, ?_, fun a ha => ?_, fun a ha => ?_⟩
  · rcases a4 with a4 | a4
    · exact hO g (a4 ▸ e)
    · rw [a4] at e
      injection e with e
      exact ⟨fun hg => by have := hT.n1.bl_lt g hg; omega, fun hg => by have := hT.n2.bl_lt g hg; omega⟩
  · rw [h.fl, r3, List.append_assoc]; rfl
  · rcases List.mem_append.1 ha with ha | ha
    · have := h.le a ha; omega
    · exact r4 a ha
  · exact r5 a ha
/-- Received at once. -/
theorem StL.end_ {w0 w w1 : World} {c1 m1 c2 m2 : Nat} {V1 V2 : Int → Value} {t1 f1 t2 f2 : Value} {S1 S2 : Ns} {x : Value} {lp : List Ar} {last : Int} {e : Ending} (h : StL w0 w c1 m1 V1 t1 f1 S1 c2 m2 V2 t2 f2 S2 x lp last) (r : RcP c2 m2 V2 t2 f2 S2 last w e w1) :
    ∃ y, e = .returned y ∧ OwA 0 w1 x lp ∧ OwA 0 w1 y lp ∧ Below w0.heap.size w0 w1 := by
  obtain ⟨y, l, q, V', t', rfl, r1, r2, r3, r4, r5, r6, r7⟩ := r
  have hT := h.tw.right r7 r2 fun i hi => .inl (r6 i hi)
  have e : lp = l := cut_one (h.fl.symm.trans r3) h.le h.gt r4 r5
  refine ⟨y, rfl, own_mono (h.ow.blk fun g e => r7.blk g (h.ow.lt g e).2 fun hg => (h.out g e).2 (.inl hg)) (Nat.zero_le _), ?_, hT.bl⟩
  rw [e]; exact own_mono r1 (Nat.zero_le _)
/-- The scripts sent. -/
theorem Tw.sent1 {w0 w w1 : World} {c1 m1 c2 m2 : Nat} {V2 : Int → Value} {f1 t2 f2 : Value} {S0 S2 : Ns} {q : Nat → Opn} {N : Nat} {x : Value} {V' : Int → Value} {t' : Value} (h : Tw w0 w c1 m1 (fun _ => .slice none 0 0) (.slice none 0 0) f1 S0 c2 m2 V2 t2 f2 S2) (k : SeI c1 m1 (fun _ => .slice none 0 0) (.slice none 0 0) f1 q S0 w N x V' t' w1) : Tw w0 w1 c1 m1 V' t' f1 (sr q S0 N).1 c2 m2 V2 t2 f2 S2 := h.left k.fm k.nw k.fp
theorem Tw.sent2 {w0 w w1 : World} {c1 m1 c2 m2 : Nat} {V1 : Int → Value} {f1 t1 f2 : Value} {S1 S0 : Ns} {q : Nat → Opn} {N : Nat} {x : Value} {V' : Int → Value} {t' : Value} (h : Tw w0 w c1 m1 V1 t1 f1 S1 c2 m2 (fun _ => .slice none 0 0) (.slice none 0 0) f2 S0) (k : SeI c2 m2 (fun _ => .slice none 0 0) (.slice none 0 0) f2 q S0 w N x V' t' w1) : Tw w0 w1 c1 m1 V1 t1 f1 S1 c2 m2 V' t' f2 (sr q S0 N).1 := h.right k.fm k.nw k.fp
theorem Ops.next {w w' : World} {A : Option Addr} {n : Nat} {q : Nat → Opn} (h : Ops w A n q) (hb : Below w.heap.size w w') : Ops w' A n q := by
  rcases h with h | ⟨ab, ao, e, hab, h⟩
  · exact .inl h
  · exact .inr ⟨ab, ao, e, Nat.lt_of_lt_of_le hab hb.size, fun i hi => by
      obtain ⟨a0, a1, a2, a3, a4, a5⟩ := h i hi
      exact ⟨cell_next hb a0, cell_next hb a1, cell_next hb a2, cell_next hb a3, cell_next hb a4, a5⟩⟩
theorem Ops.apart {w : World} {A : Option Addr} {n cap : Nat} {q : Nat → Opn} (h : Ops w A n q) {s : Nat → Prop} (hs : ∀ i, s i → w.heap.size ≤ i) : 0 < n → ∀ g, (Value.slice A n cap).ownBlock = some g → ¬ s g := fun hn g e hg => by
  rcases h with h | ⟨ab, ao, e2, hab, -⟩
  · omega
  · subst e2
    injection e with e
    have e : ab = g := e
    have := hs g hg
    omega
end Go.Proofs.Ytndidbanbklonaa

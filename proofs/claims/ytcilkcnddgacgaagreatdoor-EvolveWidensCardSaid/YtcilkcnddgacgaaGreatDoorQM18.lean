/-
  A region whose order Go leaves open, with one new variable into which one value is stored; what is known of a slot may depend on where the new variable lies. No conditions beyond those that it names.
-/
import Derived.Test.YtcilkcnddgacgaaGreatDoorQM17
import Derived.Test.YtcilkcnddgacgaaGreatDoorQM13
import Derived.Test.YtcilkcnddgacgaaGreatDoorQM15
import Derived.Test.YtcilkcnddgacgaaGreatDoorQM02
import Derived.Deep.AppendLies
import Derived.Deep.RegionLaw
import Derived.Test.YtcilkcnddgacgaaGreatDoorQM16
namespace Go.Proofs.YtcilkcnddgacgaaGreatDoor
open Go.RowKit
section
variable (ops : Array Oper) (F : Option Nat → Nat → Fact) (base : List Nat) (N : Nat) (g : Nat) (p k : Nat) (zs : List Value) (V : World → Nat → List Value → Prop)
structure ZInv (a0 : Act) (w0 : World) (m : Option Nat) (listed : Array Bool) (a : Act) (w : World) : Prop where
  tsize : a.tmps.size = N
  defers : a.defers = a0.defers
  base : ∀ t ∈ base, (F m t).holds (a.tmps.getD t undef) w
  done : ∀ (i t : Nat), listed.getD i false = true → (ops[i]?).bind Oper.dst = some t → (F m t).holds (a.tmps.getD t undef) w
  other : ∀ (t : Nat), (∀ (i : Nat), (ops[i]?).bind Oper.dst ≠ some t) → a.tmps.getD t undef = a0.tmps.getD t undef
  below : Below g w0 w
  gle : g ≤ w.heap.size
  mode : m = none → ∀ i, listed.getD i false = true → (ops[i]?).bind Oper.dst ≠ some p
  made : ∀ b, m = some b → (∃ i, listed.getD i false = true ∧ (ops[i]?).bind Oper.dst = some p) ∧ a.tmps.getD p undef = ptr0 b ∧ g ≤ b ∧ b < w.heap.size ∧ (listed.getD k false = false → Bx w b zs) ∧ (listed.getD k false = true → ∃ vs, V w b vs ∧ Bx w b vs)
  closed : ∀ i o, ops[i]? = some o → listed.getD i false = true → ∀ e ∈ o.after, Region.binds .any e = true → listed.getD e.on false = true
/-- What an operation of such a region must show. -/
inductive ZOb (f : Nat) (Q : Exit → Act → World → Prop) (i : Nat) (o : Oper) : Prop
  | plain (h : ∀ m, Ob ops Q (F m) base N o) (hp : o.dst ≠ some p) (hk : i ≠ k) : ZOb f Q i o
  | alloc (hd : o.dst = some p) (hg : o.guard = none) (hF : ∀ m, F m p = Fact.any) (hk : i ≠ k) (hrun : ∀ (a : Act) (w : World), ∃ w', (execOp a.eval o).run Tryz.prog w = .ok (.value (ptr0 w.heap.size)) w' ∧ Below w.heap.size w w' ∧ w.heap.size < w'.heap.size ∧ Bx w' w.heap.size zs) : ZOb f Q i o
  | store (hi : i = k) (hd : o.dst = none) (hg : o.guard = none) (hkn : known ops [] o p = true) (hk2 : known ops base o f = true)
      (hrun : ∀ (a : Act) (w : World) (b : Nat), a.tmps.getD p undef = ptr0 b → g ≤ b → Bx w b zs → (F (some b) f).holds (a.tmps.getD f undef) w → ∃ w', (execOp a.eval o).run Tryz.prog w = .ok .skip w' ∧ w.grownBy w' (some b) ∧ ∃ vs, V w' b vs ∧ Bx w' b vs) : ZOb f Q i o
end
section
variable {ops : Array Oper} {Q : Exit → Act → World → Prop} {F : Option Nat → Nat → Fact} {base : List Nat} {N g : Nat} {p k f : Nat} {zs : List Value} {V : World → Nat → List Value → Prop}
theorem ZInv.closed' {a0 : Act} {w0 : World} {m : Option Nat} {listed : Array Bool} {a : Act} {w : World} (h : ZInv ops F base N g p k zs V a0 w0 m listed a w) (hs : listed.size = ops.size) {i : Nat} {o : Oper} (ho : ops[i]? = some o)
    (he : ∀ e ∈ o.after, Region.binds .any e = true → listed.getD e.on false = true) : ∀ j o', ops[j]? = some o' → (listed.setIfInBounds i true).getD j false = true → ∀ e ∈ o'.after, Region.binds .any e = true → (listed.setIfInBounds i true).getD e.on false = true := by
  have hlt : i < listed.size := by rw [hs]; exact (Array.getElem?_eq_some_iff.1 ho).1
  intro j o' ho' hl e hm hb
  rw [listed_set hlt] at hl ⊢
  rcases hl with rfl | hl
  · rw [ho] at ho'
    injection ho' with ho'
    subst ho'
    exact .inr (he e hm hb)
  · exact .inr (h.closed j o' ho' hl e hm hb)
theorem ZInv.step (hok : formOk ops base N = true) (hV : ∀ w w' b vs, V w b vs → Below w.heap.size w w' → V w' b vs)
    (hsw : ∀ t v w w', (F none t).holds v w → Below w.heap.size w w' → w.heap.size < w'.heap.size → (F (some w.heap.size) t).holds v w')
    (hsoft : ∀ b t v w w', (F (some b) t).holds v w → g ≤ b → g ≤ w.heap.size → w.grownBy w' (some b) → (F (some b) t).holds v w')
    (hobs : ∀ j o', ops[j]? = some o' → ZOb ops F base N g p k zs V f Q j o') {a0 : Act} {w0 : World} {m : Option Nat} {listed : Array Bool} {a : Act} {w : World} (h : ZInv ops F base N g p k zs V a0 w0 m listed a w) (hs : listed.size = ops.size) {i : Nat} {o : Oper} (ho : ops[i]? = some o)
    (hl0 : listed.getD i false = false) (he : ∀ e ∈ o.after, Region.binds .any e = true → listed.getD e.on false = true) (K : Act → World → Prop) (hK : ∀ a' w' m', ZInv ops F base N g p k zs V a0 w0 m' (listed.setIfInBounds i true) a' w' → K a' w') :
    (if Region.wanted o (yielded ops a.tmps) = true then Oper.wp Tryz.prog o a w K Q else K (a.put o.dst undef) w) := by
  have hdone : ∀ e ∈ o.after, Region.binds .any e = true → ∀ t, (ops[e.on]?).bind Oper.dst = some t → (F m t).holds (a.tmps.getD t undef) w := fun e hm hb t ht => h.done e.on t (he e hm hb) ht
  have hlt : i < listed.size := by rw [hs]; exact (Array.getElem?_eq_some_iff.1 ho).1
  obtain ⟨_, hd⟩ := formOk_at hok ho
  cases hobs i o ho with
  | plain hob hp hk =>
    refine hob m a w K h.tsize h.base hdone fun v w' hb hF => hK _ _ m ?_
    have hkk : (listed.setIfInBounds i true).getD k false = listed.getD k false := by
      have := listed_set (j := k) hlt
      cases hx : listed.getD k false
      · rw [Bool.eq_false_iff]
        intro hc
        rcases this.1 hc with e | e
        · exact hk e.symm
        · rw [hx] at e; cases e
      · exact this.2 (.inr hx)
    refine ⟨?_, ?_, fun t ht => ?_, fun j t hj hjt => ?_, fun t ht => ?_, h.below.trans (hb.mono h.gle), Nat.le_trans h.gle hb.size, fun hm j hj hjd => ?_, fun b hm => ?_, h.closed' hs ho he⟩
    · cases o.dst <;> simpa [Act.put] using h.tsize
    · cases o.dst <;> simpa [Act.put] using h.defers
    · rw [getD_put_other (fun e => (hd t e).2.1 ht)]
      exact (F m t).stable _ _ _ (h.base t ht) hb
    · by_cases hji : j = i
      · subst hji
        rw [ho] at hjt
        have hjt' : o.dst = some t := hjt
        rw [hjt', getD_put_same (by rw [h.tsize]; exact (hd t hjt').1)]
        exact hF t hjt'
      · have hl : listed.getD j false = true := ((listed_set hlt).1 hj).resolve_left hji
        rw [getD_put_other (fun e => (hd t e).2.2 j hji hjt)]
        exact (F m t).stable _ _ _ (h.done j t hl hjt) hb
    · rw [getD_put_other (fun e => ht i (by rw [ho]; exact e))]
      exact h.other t ht
    · rcases (listed_set hlt).1 hj with rfl | hj
      · rw [ho] at hjd
        exact hp hjd
      · exact h.mode hm j hj hjd
    · obtain ⟨⟨j, hj, hjd⟩, h1, h2, h5, h3, h4⟩ := h.made b hm
      rw [hkk]
      exact ⟨⟨j, (listed_set hlt).2 (.inr hj), hjd⟩, by rw [getD_put_other hp]; exact h1, h2, Nat.lt_of_lt_of_le h5 hb.size, fun hl => (h3 hl).next hb, fun hl => by obtain ⟨vs, hv, hx⟩ := h4 hl; exact ⟨vs, hV _ _ _ _ hv hb, hx.next hb⟩⟩
  | alloc hds hg hF hk hrun =>
    obtain ⟨w', hr, hb, hgt, hx⟩ := hrun a w
    rw [if_pos (by simp [Region.wanted, hg])]
    unfold Oper.wp
    rw [hr]
    have hps := (hd p hds)
    have hm : m = none := by
      cases m with
      | none => rfl
      | some b =>
        obtain ⟨⟨j, hj, hjd⟩, -⟩ := h.made b rfl
        have h5 : j = i := by
          by_cases h6 : j = i
          · exact h6
          · exact absurd hjd (hps.2.2 j h6)
        rw [h5, hl0] at hj
        cases hj
    subst hm
    have hput : (a.put o.dst (ptr0 w.heap.size)).tmps.getD p undef = ptr0 w.heap.size := by
      rw [hds, getD_put_same (by rw [h.tsize]; exact hps.1)]
    have hold : ∀ t, t ≠ p → (a.put o.dst (ptr0 w.heap.size)).tmps.getD t undef = a.tmps.getD t undef := fun t ht => getD_put_other (by rw [hds]; intro e; injection e with e; exact ht e.symm)
    have hnk : listed.getD k false = false := by
      cases hc : listed.getD k false with
      | false => rfl
      | true =>
        exfalso
        have hlt2 : k < ops.size := by
          rcases Nat.lt_or_ge k listed.size with h1 | h1
          · rw [← hs]; exact h1
          · rw [Array.getD_eq_getD_getElem?, Array.getElem?_eq_none h1] at hc; cases hc
        have ho' : ops[k]? = some ops[k] := Array.getElem?_eq_getElem hlt2
        cases hobs k _ ho' with
        | plain _ _ h2 => exact h2 rfl
        | alloc _ _ _ h2 => exact h2 rfl
        | store _ _ _ hkn _ _ =>
          obtain ⟨e, hem, hb', hdst⟩ := known_opX hkn
          exact h.mode rfl e.on (h.closed _ _ ho' hc e hem hb') hdst
    have hnk2 : (listed.setIfInBounds i true).getD k false = false := by
      rw [Bool.eq_false_iff]
      intro hc
      rcases (listed_set hlt).1 hc with e | e
      · exact hk e.symm
      · rw [hnk] at e; cases e
    refine hK _ _ (some w.heap.size) ⟨?_, ?_, fun t ht => ?_, fun j t hj hjt => ?_, fun t ht => ?_, h.below.trans (hb.mono h.gle), Nat.le_trans h.gle hb.size, fun hm => (by cases hm), fun b hm => ?_, h.closed' hs ho he⟩
    · cases o.dst <;> simpa [Act.put] using h.tsize
    · cases o.dst <;> simpa [Act.put] using h.defers
    · rw [hold t (fun e => hps.2.1 (e ▸ ht))]
      exact hsw _ _ _ _ (h.base t ht) hb hgt
    · by_cases hts : t = p
      · subst hts
        rw [hF]
        trivial
      · rw [hold t hts]
        refine hsw _ _ _ _ (h.done j t (((listed_set hlt).1 hj).resolve_left ?_) hjt) hb hgt
        rintro rfl
        rw [ho] at hjt
        exact hts (by have h5 : o.dst = some t := hjt; rw [hds] at h5; injection h5 with h5; exact h5.symm)
    · rw [hold t (by rintro rfl; exact ht i (by rw [ho]; exact hds))]
      exact h.other t ht
    · injection hm with hm
      subst hm
      exact ⟨⟨i, (listed_set hlt).2 (.inl rfl), by rw [ho]; exact hds⟩, hput, h.gle, hgt, fun _ => hx, fun hl => by rw [hnk2] at hl; cases hl⟩
  | store hi hd0 hg hkn hk2 hrun =>
    have hlk : listed.getD k false = false := by rw [← hi]; exact hl0
    rw [if_pos (by simp [Region.wanted, hg])]
    obtain ⟨e, hem, heb, hed⟩ := known_opX hkn
    obtain ⟨b, hm⟩ : ∃ b, m = some b := by
      cases m with
      | none => exact absurd hed (h.mode rfl e.on (he e hem heb))
      | some b => exact ⟨b, rfl⟩
    subst hm
    obtain ⟨⟨j, hj, hjd⟩, h1, h2, h5, h3, _⟩ := h.made b rfl
    have hf := known_fact h.base hdone hk2
    obtain ⟨w', hr, hgw, hx⟩ := hrun a w b h1 h2 (h3 hlk) hf
    unfold Oper.wp
    rw [hr]
    have hput : a.put o.dst undef = a := by rw [hd0]; rfl
    show K (a.put o.dst undef) _
    rw [hput]
    have hold : ∀ m d, (listed.setIfInBounds i true).getD m false = true → (ops[m]?).bind Oper.dst = some d → listed.getD m false = true := fun m d hm hmd => ((listed_set hlt).1 hm).resolve_left (by
      rintro rfl
      rw [ho] at hmd
      have h5 : o.dst = some d := hmd
      rw [hd0] at h5; cases h5)
    have hii : (listed.setIfInBounds i true).getD k false = true := (listed_set hlt).2 (.inl hi.symm)
    exact hK _ _ (some b) ⟨h.tsize, h.defers, fun t ht => hsoft b t _ _ _ (h.base t ht) h2 h.gle hgw, fun m t hm hmt => hsoft b t _ _ _ (h.done m t (hold m t hm hmt) hmt) h2 h.gle hgw, h.other, h.below.grown hgw h.gle (fun j hj => by cases hj; exact h2), Nat.le_trans h.gle hgw.size, fun hm => (by cases hm), fun b' hm => (by
      injection hm with hm
      subst hm
      exact ⟨⟨j, (listed_set hlt).2 (.inr hj), hjd⟩, h1, h2, Nat.lt_of_lt_of_le h5 hgw.size, fun hl => (by rw [hii] at hl; cases hl), fun _ => hx⟩), h.closed' hs ho he⟩
end
/-- What reads x's parts, told by a stretch of blocks that the new variable doesn't lie in. -/
def NwM (m : Option Nat) (G : Nat) (w : World) (x : Vl) (s : Sb) : Prop := ∃ lo hi, G ≤ lo ∧ hi ≤ w.heap.size ∧ (∀ b, m = some b → b < lo ∨ hi ≤ b) ∧ ∀ w2 : World, hi ≤ w2.heap.size → (∀ i, lo ≤ i → i < hi → w2.heap[i]? = w.heap[i]?) → RdV w2 x s
theorem NwM.next {m : Option Nat} {G : Nat} {w w' : World} {x : Vl} {s : Sb} (h : NwM m G w x s) (hb : Below w.heap.size w w') : NwM m G w' x s := by
  obtain ⟨lo, hi, h1, h2, h3, h4⟩ := h
  exact ⟨lo, hi, h1, Nat.le_trans h2 hb.size, h3, fun w2 hs hw => h4 w2 hs fun i h5 h6 => (hw i h5 h6).trans (hb.block i (Nat.lt_of_lt_of_le h6 h2))⟩
theorem NwM.grown {b G : Nat} {w w' : World} {x : Vl} {s : Sb} (h : NwM (some b) G w x s) (hb : w.grownBy w' (some b)) : NwM (some b) G w' x s := by
  obtain ⟨lo, hi, h1, h2, h3, h4⟩ := h
  exact ⟨lo, hi, h1, Nat.le_trans h2 hb.size, h3, fun w2 hs hw => h4 w2 hs fun i h5 h6 => (hw i h5 h6).trans (hb.block i (Nat.lt_of_lt_of_le h6 h2) (fun e => by injection e with e; rcases h3 b rfl with h7 | h7 <;> omega))⟩
theorem NwM.of {m : Option Nat} {G lo : Nat} {w : World} {x : Vl} {s : Sb} (h : NwV lo w x s) (hG : G ≤ lo) (hm : ∀ b, m = some b → b < lo) : NwM m G w x s :=
  ⟨lo, w.heap.size, hG, Nat.le_refl _, fun b e => .inl (hm b e), fun w2 hs hw => h w2 ⟨hs, fun i h1 h2 => hw i h1 h2⟩⟩
end Go.Proofs.YtcilkcnddgacgaaGreatDoor
/-
  The developers' With, of any value. No conditions beyond those that each names.
-/
namespace Go.Proofs.YtcilkcnddgacgaaGreatDoor
open Go.RowKit Go.Shelf Go.Sort
theorem encE_one (x : Int × Vl) (s : Sb) : ∀ u ∈ encE x s, u.oneCell' = true := fun u hu => by
  simp only [encE, List.mem_cons, List.not_mem_nil, or_false] at hu
  rcases hu with rfl | rfl | rfl | rfl | rfl | rfl <;> rfl
theorem IL.one {P : Nat → Int × Vl → Sb → Prop} {l : List (Int × Vl)} {xs : List Value} (h : IL 6 encE P l xs) : ∀ u ∈ xs, u.oneCell' = true := fun u hu => by
  obtain ⟨q, hq, rfl⟩ := List.getElem_of_mem hu
  have h1 := h.1
  have hj : q / 6 < l.length := by omega
  obtain ⟨b, hb, -⟩ := h.2 _ hj
  have h2 := hb (q % 6) (Nat.mod_lt _ (by decide))
  rw [show q / 6 * 6 + q % 6 = q by omega, List.getElem?_eq_getElem hq] at h2
  exact encE_one _ b _ (List.mem_of_getElem? h2.symm)
theorem Bx.gbo {w w' : World} {b : Nat} {vs : List Value} {q : Option Nat} (h : Bx w b vs) (hg : w.grownBy w' q) (hn : ∀ g, q = some g → b ≠ g) : Bx w' b vs := by
  cases q with
  | none => exact h.next (below_of_gb hg)
  | some g => exact h.gb hg (hn g rfl)
end Go.Proofs.YtcilkcnddgacgaaGreatDoor
/-
  What is not compatible, as data; how it is gathered. No conditions beyond those that each names.
-/
namespace Go.Proofs.YtcilkcnddgacgaaGreatDoor
open Go.RowKit Go.Sort
/-- What is not compatible. -/
structure Iss where
  kd : Int
  num : Int
  ty : List UInt8
deriving DecidableEq
/-- Issues as cells. -/
def encI (x : Iss) : List Value := [.int .i64 x.kd, .int .i64 x.num, .string (bs x.ty)]
def isC (l : List Iss) : List Value := l.flatMap encI
theorem isC_snoc (l : List Iss) (x : Iss) : isC (l ++ [x]) = isC l ++ encI x := by simp [isC]
theorem isC_at : ∀ {l : List Iss} {i : Nat} (hi : i < l.length), (isC l)[i * 3]? = some (.int .i64 (l[i]'hi).kd) ∧ (isC l)[i * 3 + 1]? = some (.int .i64 (l[i]'hi).num) ∧ (isC l)[i * 3 + 2]? = some (.string (bs (l[i]'hi).ty))
  | p :: l, 0, _ => ⟨rfl, rfl, rfl⟩
  | p :: l, i + 1, hi => by
    have := isC_at (l := l) (i := i) (by simpa using hi)
    have e : (i + 1) * 3 = i * 3 + 1 + 1 + 1 := by omega
    rw [e]
    exact this
theorem encI_one (x : Iss) : ∀ u ∈ encI x, u.oneCell' = true := fun u hu => by
  simp only [encI, List.mem_cons, List.not_mem_nil, or_false] at hu
  rcases hu with rfl | rfl | rfl <;> rfl
/-- An issue at p. -/
def IsA (w : World) (x : Iss) (p : Addr) : Prop := w.cell? p = some (.int .i64 x.kd) ∧ w.cell? (nx1 p 1) = some (.int .i64 x.num) ∧ w.cell? (nx1 p 2) = some (.string (bs x.ty))
theorem IsA.next {w w' : World} (hb : Below w.heap.size w w') (x : Iss) (p : Addr) (h : IsA w x p) : IsA w' x p := ⟨cell_next hb h.1, cell_next hb h.2.1, cell_next hb h.2.2⟩
def OwS (B : Nat) (w : World) (v : Value) (l : List Iss) : Prop := w.ownsRow B 33 3 v l.length (isC l)
theorem OwS.nil (B : Nat) (w : World) : OwS B w (.slice none 0 0) [] := World.ownsRow_nil _ _ _ _
theorem OwS.rw_ {B : Nat} {w : World} {v : Value} {l : List Iss} (h : OwS B w v l) : ∃ A c, v = .slice A l.length c ∧ Rw IsA 3 w l A := by
  obtain ⟨A, c, rfl⟩ := own_form h
  refine ⟨A, c, rfl, ?_⟩
  by_cases h0 : l.length = 0
  · exact .inl (List.eq_nil_of_length_eq_zero h0)
  · obtain ⟨g, rfl⟩ := own_some h h0
    refine .inr ⟨_, rfl, fun i hi => ?_⟩
    obtain ⟨h1, h2, h3⟩ := isC_at hi
    rw [Addr.add_lit, Nat.zero_add]
    refine ⟨?_, ?_, ?_⟩
    · rw [World.ownsRow.cellAt h _ (by omega)]; exact h1
    · show w.cell? ⟨g, i * 3 + 1, none⟩ = _
      rw [World.ownsRow.cellAt h _ (by omega)]; exact h2
    · show w.cell? ⟨g, i * 3 + 2, none⟩ = _
      rw [World.ownsRow.cellAt h _ (by omega)]; exact h3
theorem infoIs : (Tryz.prog.info? 33).map (fun i => (i.zero, i.size, i.bytes)) = some (some (.agg #[.int .i64 0, .int .i64 0, .string ⟨#[]⟩]), 3, 32) := by kernel_rfl
/-- Of old memory only block g, and that of q, may have changed; the new own block is the old one or new. -/
structure Ad (w : World) (q : Option Nat) (g : Nat) (W : World) (q' : Option Nat) : Prop where
  os : W.os = w.os
  tape : W.tape = w.tape
  output : W.output = w.output
  size : w.heap.size ≤ W.heap.size
  block : ∀ k, k < w.heap.size → some k ≠ q → k ≠ g → W.heap[k]? = w.heap[k]?
  own : ∀ k, q' = some k → q = some k ∨ w.heap.size ≤ k
theorem Ad.of {w W : World} {g : Nat} (q : Option Nat) (hb : Below w.heap.size w W) : Ad w q g W q :=
  ⟨hb.os, hb.tape, hb.output, hb.size, fun k h1 _ _ => hb.block k h1, fun _ h => .inl h⟩
theorem Ad.trans {w W W2 : World} {q q' q2 : Option Nat} {g : Nat} (h : Ad w q g W q') (k : Ad W q' g W2 q2) : Ad w q g W2 q2 :=
  ⟨k.os.trans h.os, k.tape.trans h.tape, k.output.trans h.output, Nat.le_trans h.size k.size, fun i h1 h2 h3 => (k.block i (Nat.lt_of_lt_of_le h1 h.size) (fun e => by
    rcases h.own i e.symm with h4 | h4
    · exact h2 h4.symm
    · omega) h3).trans (h.block i h1 h2 h3), fun i e => by
    rcases k.own i e with h4 | h4
    · exact h.own i h4
    · have := h.size; exact .inr (by omega)⟩
theorem Ad.below {w0 w W : World} {q q' : Option Nat} {g : Nat} (hb : Below w0.heap.size w0 w) (h : Ad w q g W q') (hg : w0.heap.size ≤ g) (hq : ∀ k, q = some k → w0.heap.size ≤ k) : Below w0.heap.size w0 W :=
  ⟨h.os.trans hb.os, h.tape.trans hb.tape, h.output.trans hb.output, Nat.le_trans hb.size h.size, fun k hk => (h.block k (Nat.lt_of_lt_of_le hk hb.size) (fun e => by have := hq k e.symm; omega) (by omega)).trans (hb.block k hk)⟩
theorem Bx.ad {w W : World} {q q' : Option Nat} {b g : Nat} {vs : List Value} (h : Bx w b vs) (k : Ad w q g W q') (h1 : b ≠ g) (h2 : q ≠ some b) : Bx W b vs := by
  have hk := k.block b h.lt (fun e => h2 e.symm) h1
  exact ⟨Nat.lt_of_lt_of_le h.lt k.size, fun j v e => ⟨(World.cell?_of_block (w := w) (a := ⟨b, j, none⟩) hk).trans (h.at_ j v e).1, (World.frozen?_of_block (w := w) (a := ⟨b, j, none⟩) hk).trans (h.at_ j v e).2⟩⟩
/-- What a comparison holds behind a call that adds to it. -/
def AcQ (g B : Nat) (O : List Value) (v : Value) (l : List Iss) (w : World) (e : Ending) (W : World) : Prop := e = .returned (.tuple #[]) ∧ ∃ v', Bx W g (O ++ [v']) ∧ OwS B W v' l ∧ Ad w v.ownBlock g W v'.ownBlock
/-- An issue is added, unless it is there. -/
def adI (l : List Iss) (x : Iss) : List Iss := if x ∈ l then l else l ++ [x]
theorem adI_len (l : List Iss) (x : Iss) : (adI l x).length ≤ l.length + 1 := by
  unfold adI; split <;> simp
theorem own_low {w : World} {B : Nat} {e : TypeId} {z n : Nat} {v : Value} {xs : List Value} (h : w.ownsRow B e z v n xs) (q : Nat) (hq : v.ownBlock = some q) : B ≤ q := by
  obtain ⟨-, ⟨h2, -⟩ | ⟨g, cap, cur, h2, hB, -, -⟩⟩ := h
  · subst h2; cases hq
  · subst h2
    obtain rfl : g = q := by injection hq
    exact hB
set_option maxRecDepth 100000 in
set_option maxHeartbeats 8000000 in
theorem add_any (g B : Nat) (a0 a1 a2 a3 a4 a5 vI : Value) (l : List Iss) (x : Iss) (w : World) (hC : Bx w g [a0, a1, a2, a3, a4, a5, vI]) (hO : OwS B w vI l) (hl : l.length ≤ 100000) (hB : B ≤ w.heap.size) (hgB : g < B) :
    Calls Tryz.prog 71 #[.pointer (some ⟨g, 0, none⟩), .agg #[.int .i64 x.kd, .int .i64 x.num, .string (bs x.ty)]] w (AcQ g B [a0, a1, a2, a3, a4, a5] vI (adI l x) w) := by
  obtain ⟨A, c, rfl, hR⟩ := hO.rw_
  obtain ⟨n, hn⟩ : ∃ n, l.length = n := ⟨_, rfl⟩
  have HN := Lib.hid hn
  rw [hn] at hC
  have D1 := Bx.new3 w 33 (.int .i64 x.kd) (.int .i64 x.num) (.string (bs x.ty))
  have hab := ab1 w (Obj.cells #[.int .i64 x.kd, .int .i64 x.num, .string (bs x.ty)] 33)
  have hC2 := hC.next hab
  have H0 := Lib.hid (show x ∉ l.take 0 by simp)
  have HO := Lib.hid hO
  rw [hn] at hl
  obtain ⟨L', hL'⟩ : ∃ L', adI l x = L' := ⟨_, rfl⟩
  have HL := Lib.hid hL'
  rw [hL']
  clear hn hO hL'
  have c6 := hC2.c 6 rfl
  have lc := hC2.lt
  go_enter Tryz.func71, Tryz.ntmps71
  go_wp2_with fail
  go_loopw [11] (fun i wr => ∃ k : Nat, k ≤ n ∧ i = .int .i64 (k : Int) ∧ Hid (x ∉ l.take k) ∧ Bx wr w.heap.size [.int .i64 x.kd, .int .i64 x.num, .string (bs x.ty)] ∧ Below w.heap.size w wr) (fun i _ => n - (intOf i).toNat)
  case atStart => exact ⟨0, by omega, rfl, H0, D1, hab⟩
  case round =>
    obtain ⟨k, hk, rfl, HK, E1, hb⟩ := hrel
    clear H0 c6 lc hC2 D1 hab
    have f0 := E1.c 0 rfl
    have f1 := E1.c 1 rfl
    have f2 := E1.c 2 rfl
    have fl := E1.lt
    by_cases hlt : k < n
    · have hk1 := Lib.hid hlt
      have hkl : k < l.length := by rw [HN.out]; exact hlt
      obtain ⟨a, rfl, hA⟩ := hR.get hkl
      obtain ⟨y0, y1, y2⟩ := IsA.next hb _ _ hA
      have HT := Lib.hid (show l.take (k + 1) = l.take k ++ [l[k]'hkl] by rw [List.take_succ_eq_append_getElem hkl])
      have HM := Lib.hid (List.getElem_mem hkl)
      generalize l[k]'hkl = y at *
      have hblk : (a.add (k * 3)).block < wr.heap.size := blk_lt y0
      clear hA
      have hbx := ab1 wr (Obj.cells #[.int .i64 y.kd, .int .i64 y.num, .string (bs y.ty)] 33)
      have E3 := Bx.new3 wr 33 (.int .i64 y.kd) (.int .i64 y.num) (.string (bs y.ty))
      go_upto_region 4 with (fail)
      generalize wr.alloc (Obj.cells #[.int .i64 y.kd, .int .i64 y.num, .string (bs y.ty)] 33) = w5 at *
      clear f0 f1 f2 fl y0 y1 y2 hblk
      replace E1 := E1.next hbx
      have hb5 := Below.next hb hbx
      have f0 := E1.c 0 rfl
      have f1 := E1.c 1 rfl
      have f2 := E1.c 2 rfl
      have fl := E1.lt
      have g0 := E3.c 0 rfl
      have g1 := E3.c 1 rfl
      have g2 := E3.c 2 rfl
      have gl := E3.lt
      have hC5 := hC.next hb5
      by_cases hxy : y = x
      · subst hxy
        obtain rfl : L' = l := HL.out.symm.trans (if_pos HM.out)
        have HC5 := Lib.hid hC5
        have HB5 := Lib.hid hb5
        have HO5 := Lib.hid (own_next HO.out hb5)
        clear hC5 hb5 hb hC hR hbx HT HM HK HL
        go_wp2_with fail
        go_end0
        exact ⟨rfl, _, HC5.out, by have h := HO5.out; rw [HN.out] at h; unfold OwS; rw [HN.out]; exact h, Ad.of _ HB5.out⟩
      · have HX := Lib.hid hxy
        have HK2 := Lib.hid (show x ∉ l.take (k + 1) by
          rw [HT.out, List.mem_append, List.mem_singleton]
          rintro (h | h)
          · exact HK.out h
          · exact HX.out h.symm)
        clear hxy hC5 hb hC hR hbx HT HM HK E3
        go_wp2_with fail
        all_goals first
          | (go_roundw
             case rel => exact ⟨k + 1, hk1.out, by go_num, HK2, E1, hb5⟩
             case measure => simp [intOf]; omega)
          | (exfalso; refine HX.out ?_; cases x; cases y; simp_all [toList_bs])
    · obtain rfl : k = n := by omega
      have HNM := Lib.hid (show x ∉ l from fun h => HK.out (by rw [List.take_of_length_le (by rw [HN.out]; exact Nat.le_refl _)]; exact h))
      obtain rfl : L' = l ++ [x] := HL.out.symm.trans (if_neg HNM.out)
      have hC5 := hC.next hb
      have hO5 := own_next HO.out hb
      rw [HN.out] at hO5
      have hB5 : B ≤ wr.heap.size := Nat.le_trans hB hb.size
      have HG := Lib.hid (gbq_of hb (Value.slice A k c).ownBlock)
      have c6 := hC5.c 6 rfl
      have lc := hC5.lt
      obtain ⟨i, hi, hz, hs5, hby⟩ := info_parts infoIs
      have hbx := ab1 wr (Obj.cells #[.int .i64 x.kd, .int .i64 x.num, .string (bs x.ty)] 33)
      have hO6 := own_next hO5 hbx
      have hB6 : B ≤ (wr.alloc (Obj.cells #[.int .i64 x.kd, .int .i64 x.num, .string (bs x.ty)] 33)).heap.size := Nat.le_trans hB5 hbx.size
      have hH : (wr.alloc (Obj.cells #[.int .i64 x.kd, .int .i64 x.num, .string (bs x.ty)] 33)).heap.size = wr.heap.size + 1 := by simp
      have hN6 : ∀ j u, (encI x)[j]? = some u → (wr.alloc (Obj.cells #[.int .i64 x.kd, .int .i64 x.num, .string (bs x.ty)] 33)).cell? ((⟨wr.heap.size, 0, none⟩ : Addr).add j) = some u := fun j u hj => by
        rw [Addr.add_lit, Nat.zero_add]
        exact ((Bx.new3 wr 33 (.int .i64 x.kd) (.int .i64 x.num) (.string (bs x.ty))).at_ j u hj).1
      have hm1 : k + 1 ≤ maxLen := by simp only [maxLen]; omega
      have hm2 : (k + 1) * 32 ≤ 140737488355328 := by omega
      have hlow : ∀ q, (Value.slice A k c).ownBlock = some q → B ≤ q := fun q hq => own_low hO5 q hq
      have hneq : ∀ q, ((Value.slice A k c).ownBlock = some q ∨ q = wr.heap.size + 1) → g ≠ q := fun q h => by
        rcases h with h | h
        · have := hlow q h; omega
        · omega
      have hT : ∀ w1, (wr.alloc (Obj.cells #[.int .i64 x.kd, .int .i64 x.num, .string (bs x.ty)] 33)).grownBy w1 (Value.slice A k c).ownBlock → Bx w1 g [a0, a1, a2, a3, a4, a5, .slice A k c] := fun w1 hg => (hC5.next hbx).gbo hg (fun q e => by have := hlow q e; omega)
      have hgw : w.grownBy (wr.alloc (Obj.cells #[.int .i64 x.kd, .int .i64 x.num, .string (bs x.ty)] 33)) (Value.slice A k c).ownBlock := HG.out.trans (gbq_of hbx _)
      have HEE : ∀ g1 cap w1, w1.ownsRow B 33 3 (.slice (some ⟨g1, 0, none⟩) (k + 1) cap) (k + 1) (isC l ++ encI x) → (wr.alloc (Obj.cells #[.int .i64 x.kd, .int .i64 x.num, .string (bs x.ty)] 33)).grownBy w1 (Value.slice A k c).ownBlock → ((Value.slice A k c).ownBlock = some g1 ∨ g1 = wr.heap.size + 1) →
          AcQ g B [a0, a1, a2, a3, a4, a5] (.slice A l.length c) (l ++ [x]) w (.returned (.tuple #[])) (w1.setCell ⟨g, 6, none⟩ (.slice (some ⟨g1, 0, none⟩) (k + 1) cap)) := fun g1 cap w1 hown hgrow hat => by
        have hne := hneq g1 hat
        have gs := gb_set1 w1 ⟨g, 6, none⟩ (.slice (some ⟨g1, 0, none⟩) (k + 1) cap)
        have hgn : Value.ownBlock (.slice (some ⟨g1, 0, none⟩) (k + 1) cap) ≠ some g := fun e => by injection e with e; exact hne e.symm
        have hfin := (hgw.trans hgrow)
        have hlen : (l ++ [x]).length = k + 1 := by rw [List.length_append, HN.out]; rfl
        refine ⟨rfl, (.slice (some ⟨g1, 0, none⟩) (k + 1) cap), (hT w1 hgrow).put1 6 _, ?_, ?_⟩
        · unfold OwS
          rw [hlen, isC_snoc]
          exact hown.kept gs (.inr hgn)
        · rw [HN.out]
          have hsz := hfin.size
          exact ⟨gs.os.trans hfin.os, gs.tape.trans hfin.tape, gs.output.trans hfin.output, Nat.le_trans hfin.size gs.size, fun j h1 h2 h3 => (gs.block j (by omega) (fun e => by injection e with e; exact h3 e)).trans (hfin.block j h1 h2), fun j e => by
            injection e with e
            subst e
            rcases hat with h | h
            · exact .inl h
            · subst h; exact .inr (by have := hb.size; show w.heap.size ≤ wr.heap.size + 1; omega)⟩
      clear hR hC hbx HG HL HNM HO HK hO5 hgw
      go_upto_region 6 with (fail)
      go_region_law (first | (refine step_append_lies _ (by rfl) _ _ 28 (by rfl) B 33 i _ 3 32 Tryz.underlying28 hi hz hs5 hby rfl (by omega) _ k (isC l) (by rfl) hO6 _ 1 _ (encI x) (by rfl) rfl hN6 (encI_one _) (by omega) hm1 hm2 hB6 _ hH ?_; intro g1 cap w1 hown hgrow0 hat hlt; have hgrow : (wr.alloc (Obj.cells #[.int .i64 x.kd, .int .i64 x.num, .string (bs x.ty)] 33)).grownBy w1 (Value.slice A k c).ownBlock := ⟨hgrow0.os, hgrow0.tape, hgrow0.output, hgrow0.size, hgrow0.block⟩; clear hgrow0; have T5 := hT w1 hgrow; have y4 := T5.c 6 rfl; have y5 := T5.f 6 rfl; have y6 := T5.lt; have HE := HEE g1 cap w1 hown hgrow hat))
      all_goals (clear y4 y5 y6 T5; go_end0; with_reducible exact HE)
end Go.Proofs.YtcilkcnddgacgaaGreatDoor
/-
  Both sides' Struct: what was found reads on, whatever becomes of other memory. No conditions beyond those that each names.
-/
namespace Go.Proofs.YtcilkcnddgacgaaGreatDoor
open Go.RowKit Go.Shelf
/-- A struct was found or not; it reads in every world that G names. -/
def StK (o : Option St) (G : World → World → Prop) (w : World) (e : Ending) (w' : World) : Prop := ∃ v, e = .returned (.tuple #[v, .bool o.isSome]) ∧ (∀ w2, G w' w2 → StV w2 (o.getD st0) v) ∧ Below w.heap.size w w'
theorem StK.some_ {o : Option St} {G : World → World → Prop} {w w' : World} {t : St} {v : Value} (h : o = some t) (hv : ∀ w2, G w' w2 → StV w2 t v) (hb : Below w.heap.size w w') : StK o G w (.returned (.tuple #[v, .bool true])) w' := by
  subst h; exact ⟨v, rfl, hv, hb⟩
theorem StK.none_ {o : Option St} {G : World → World → Prop} {w w' : World} (h : o = none) (hb : Below w.heap.size w w') : StK o G w (.returned (.tuple #[.agg #[.string ⟨#[]⟩, .slice none 0 0], .bool false])) w' := by
  subst h; exact ⟨_, rfl, fun w2 _ => StV.zero w2, hb⟩
set_option maxRecDepth 100000 in
set_option maxHeartbeats 4000000 in
theorem devStruct_k (S : Sch) (nm : List UInt8) (v : Value) (w : World) (hv : ScV w S v) (hn : S.structs.length ≤ 1000) (hfw : ∀ t ∈ S.structs, t.fields.length ≤ 1000 ∧ ∀ f ∈ t.fields, fewT f.type = true) :
    Calls Tryz.prog 70 #[v, .string (bs nm)] w (StK (fst_ St.name S.structs nm) (Kpl w.heap.size) w) := by
  obtain ⟨A, c, A2, c2, rfl, hS⟩ := hv
  have hSs := hS.st
  clear hS
  obtain ⟨m, hm⟩ : ∃ m, S.enums.length = m := ⟨_, rfl⟩
  obtain ⟨n, hn2⟩ : ∃ n, S.structs.length = n := ⟨_, rfl⟩
  have HN := Lib.hid hn2
  rw [hn2] at hn
  rw [hm, hn2]
  clear hn2 hm
  have z1 : (w.alloc (Obj.cells #[.int .i64 S.ver, .slice A m c, .slice A2 n c2] 25)).heap.size = w.heap.size + 1 := by simp
  have B1 := (Bx.new3 w 25 (.int .i64 S.ver) (.slice A m c) (.slice A2 n c2)).next (ab1 _ (Obj.cells #[.string ⟨#[]⟩, .slice none 0 0] 37))
  have B2 := Bx.new2 (w.alloc (Obj.cells #[.int .i64 S.ver, .slice A m c, .slice A2 n c2] 25)) 37 (.string ⟨#[]⟩) (.slice none 0 0)
  rw [z1] at B2
  have hab := ab2 w (Obj.cells #[.int .i64 S.ver, .slice A m c, .slice A2 n c2] 25) (Obj.cells #[.string ⟨#[]⟩, .slice none 0 0] 37)
  have HI0 : Hid (∀ j (hj : j < S.structs.length), j < 0 → (S.structs[j]'hj).name ≠ nm) := Lib.hid fun j _ h => by omega
  clear z1
  go_enter Tryz.func70, Tryz.ntmps70
  go_wp2_with fail
  go_loopw [11] (fun i wr => ∃ k : Nat, k ≤ n ∧ i = .int .i64 (k : Int) ∧ Hid (∀ j (hj : j < S.structs.length), j < k → (S.structs[j]'hj).name ≠ nm) ∧ Bx wr (w.heap.size + 1) [.string ⟨#[]⟩, .slice none 0 0] ∧ Below w.heap.size w wr) (fun i _ => n - (intOf i).toNat)
  case atStart => exact ⟨0, by omega, rfl, HI0, B2, hab⟩
  case round =>
    obtain ⟨k, hk, rfl, hI, C2, hb⟩ := hrel
    clear HI0 B1 B2 hab
    have r0 := C2.c 0 rfl
    have r1 := C2.c 1 rfl
    have s0 := C2.f 0 rfl
    have s1 := C2.f 1 rfl
    have l2 := C2.lt
    by_cases hlt : k < n
    · have hkm : k < S.structs.length := by rw [HN.out]; exact hlt
      obtain ⟨a, rfl, hA⟩ := hSs.get (i := k) hkm
      obtain ⟨A3, c3, h0, h1, hV⟩ := hA.val
      replace h0 := cell_next hb h0
      replace h1 := cell_next hb h1
      have hblk : (a.add (k * 2)).block < wr.heap.size := blk_lt h0
      have hx : (S.structs[k]'hkm).name = nm → fst_ St.name S.structs nm = some (S.structs[k]'hkm) := fun e => fst_at hkm hI.out e
      have hy : (S.structs[k]'hkm).name ≠ nm → ∀ j (hj : j < S.structs.length), j < k + 1 → (S.structs[j]'hj).name ≠ nm := fun e j hj hjk => by
        by_cases hjk2 : j < k
        · exact hI.out j hj hjk2
        · obtain rfl : j = k := by omega
          exact e
      obtain ⟨g1, g2⟩ := hfw _ (List.getElem_mem hkm)
      generalize S.structs[k]'hkm = t at *
      have hW1 := ab1 wr (Obj.cells #[.string (bs t.name), .slice A3 t.fields.length c3] 37)
      have B7 := Bx.new2 wr 37 (.string (bs t.name)) (.slice A3 t.fields.length c3)
      have C3 := C2.next hW1
      by_cases e : t.name = nm
      · have E := Lib.hid (hx e)
        obtain ⟨A4, c4, hV0, hV⟩ := hV
        obtain ⟨rfl, -, rfl⟩ : A3 = A4 ∧ t.fields.length = t.fields.length ∧ c3 = c4 := by injection hV0 with h; simp at h; exact ⟨h.1, rfl, h.2⟩
        have cE := eachField_any t.fields A3 c3 (wr.alloc (Obj.cells #[.string (bs t.name), .slice A3 t.fields.length c3] 37)) (by omega) (hV.next fun x p => FdA.next (Below.next hb hW1)) (fun i h v w' hv => newField_any _ v w' (g2 _ (List.getElem_mem h)) hv)
        have hz : wr.heap.size + 1 ≤ (wr.alloc (Obj.cells #[.string (bs t.name), .slice A3 t.fields.length c3] 37)).heap.size := by simp
        clear hx hy hI hA hV hV0 g1 g2
        subst e
        have q1 := sq_t t.name
        unfold EfP at cE
        generalize hq : t.fields.length = q at *
        have HQ := Lib.hid hq
        clear hq
        go_wp2_with fail
        refine cE.mono ?_
        rintro e3 w3 ⟨A9, c9, rfl, hN9, hb9⟩
        have hb3 := Below.next (Below.next hb hW1) hb9
        have D7 := B7.next hb9
        have D3 := C3.next hb9
        have p0 := D7.c 0 rfl
        have p1 := D7.c 1 rfl
        have p2 := D7.f 1 rfl
        have p3 := D7.lt
        have t0 := D3.c 0 rfl
        have t1 := D3.c 1 rfl
        have t2 := D3.f 0 rfl
        have t3 := D3.f 1 rfl
        have t4 := D3.lt
        clear cE B7 C3 C2 r0 r1 s0 s1 h0 h1 hblk hW1
        go_wp2_with fail
        refine bodyPost_ret (v := .tuple #[.agg #[.string (bs t.name), .slice A9 q c9], .bool true]) (by simp [results, Tryz.results70, go_sem, t0, t1]) rfl ?_
        refine .some_ E.out (fun w2 hk2 => ⟨A9, c9, by rw [HQ.out], ((hN9.next ?_).next (hk2.mono (Nat.le_trans hb.size (Nat.le_trans (Nat.le_succ _) hz)))).rw_⟩) ?_
        · iterate 3 refine Kpl.set ?_ (by first | (show wr.heap.size < _; omega) | (show w.heap.size + 1 < _; omega)) _
          exact Kpl.of (Below.refl _ _)
        · have hws := hb.size
          iterate 3 refine Below.setCell ?_ (by first | (show w.heap.size ≤ wr.heap.size; omega) | (show w.heap.size ≤ w.heap.size + 1; omega)) _
          exact hb3
      · have E := Lib.hid (hy e)
        have q1 := sq_f e
        have hb3 := Below.next hb hW1
        clear hx hy hI hA hV hfw
        go_wp2_with fail
        go_roundw
        case rel => exact ⟨k + 1, by omega, by go_num, E, C3, hb3⟩
        case measure => simp [intOf]; omega
    · obtain rfl : k = n := by omega
      have E := Lib.hid (show fst_ St.name S.structs nm = none from fst_end fun j hj => hI.out j hj (by rw [← HN.out]; exact hj))
      clear hI hfw
      go_wp2_with fail
      refine bodyPost_ret (v := .tuple #[.agg #[.string ⟨#[]⟩, .slice none 0 0], .bool false]) (by simp [results, Tryz.results70, go_sem, r0, r1]) rfl (.none_ E.out ?_)
      iterate 2 refine Below.setCell ?_ (by simp) _
      exact hb
end Go.Proofs.YtcilkcnddgacgaaGreatDoor


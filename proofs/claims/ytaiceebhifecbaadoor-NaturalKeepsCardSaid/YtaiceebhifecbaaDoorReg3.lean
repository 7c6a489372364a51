/-
  A region whose order Go leaves open, with a relation that each of its operations keeps; and a region that makes new variables and stores into each of them once. No conditions beyond those that they name.
-/
import Derived.Test.YtaiceebhifecbaaDoorReg2
import Derived.Test.YtaiceebhifecbaaDoorT50
namespace Go.Proofs.YtaiceebhifecbaaDoor
open Go.RowKit
/-- All edges go back. -/
def backOk (ops : Array Oper) : Bool := (List.range ops.size).all fun i => match ops[i]? with
  | none => true
  | some o => o.after.all fun e => !Region.binds .any e || decide (e.on < i)
theorem backOk_at {ops : Array Oper} (h : backOk ops = true) {i : Nat} {o : Oper} (ho : ops[i]? = some o) : ∀ e ∈ o.after, Region.binds .any e = true → e.on < i := by
  have hi : i < ops.size := (Array.getElem?_eq_some_iff.1 ho).1
  have h1 := List.all_eq_true.1 h i (List.mem_range.2 hi)
  simp only [ho] at h1
  intro e he hb
  have := Array.all_eq_true_iff_forall_mem.1 h1 e he
  simpa [hb] using this
theorem all_listed_back {ops : Array Oper} (hok : backOk ops = true) {listed : Array Bool} (hl : listed.size = ops.size) (hr : Region.ready .any ops listed = []) : ∀ i, i < ops.size → listed.getD i false = true := by
  intro i
  induction i using Nat.strongRecOn with
  | _ i ih =>
    intro hi
    cases hg : listed.getD i false with
    | true => rfl
    | false =>
      exfalso
      have hmem : i ∈ Region.ready .any ops listed := by
        refine mem_ready.2 ⟨?_, ops[i], Array.getElem?_eq_getElem hi, fun e he hb => ?_⟩
        · rw [Array.getD_eq_getD_getElem?, Array.getElem?_eq_getElem (by omega)] at hg ⊢
          exact hg
        · have := backOk_at hok (Array.getElem?_eq_getElem hi) e he hb
          exact ih e.on this (by omega)
      rw [hr] at hmem
      cases hmem
theorem set_listed {listed : Array Bool} {i j : Nat} (hi : i < listed.size) : (listed.setIfInBounds i true).getD j false = true ↔ j = i ∨ listed.getD j false = true := by
  by_cases hji : j = i
  · subst hji
    simp [Array.getD_eq_getD_getElem?, hi]
  · simp only [Array.getD_eq_getD_getElem?, Array.getElem?_setIfInBounds, if_neg (Ne.symm hji), hji, false_or]
section
variable {ops : Array Oper} {Q : Exit → Act → World → Prop}
theorem wpAny_inv (hok : backOk ops = true) (I : Array Bool → Act → World → Prop)
    (hstep : ∀ i o listed a w, ops[i]? = some o → listed.size = ops.size → listed.getD i false = false → (∀ e ∈ o.after, Region.binds .any e = true → listed.getD e.on false = true) → I listed a w →
      ∀ K : Act → World → Prop, (∀ a' w', I (listed.setIfInBounds i true) a' w' → K a' w') → (if Region.wanted o (yielded ops a.tmps) = true then Oper.wp Tryd.prog o a w K Q else K (a.put o.dst undef) w))
    (hend : ∀ listed a w, listed.size = ops.size → (∀ i, i < ops.size → listed.getD i false = true) → I listed a w → Q .normal a w) :
    ∀ (fuel : Nat) (listed : Array Bool) (a : Act) (w : World), listed.size = ops.size → I listed a w → left_ listed ops.size ≤ fuel → wpAny Tryd.prog .any ops Q fuel listed a w := by
  have hfin : ∀ (listed : Array Bool) (a : Act) (w : World), listed.size = ops.size → I listed a w → Region.ready .any ops listed = [] → Q .normal a w := fun listed a w hs h hr =>
    hend listed a w hs (all_listed_back hok hs hr) h
  intro fuel
  induction fuel with
  | zero =>
    intro listed a w hs h hl
    have hr : Region.ready .any ops listed = [] := by
      cases hr : Region.ready .any ops listed with
      | nil => rfl
      | cons i rs =>
        exfalso
        have hm : i ∈ Region.ready .any ops listed := by rw [hr]; simp
        obtain ⟨h1, o, ho, _⟩ := mem_ready.1 hm
        have := left_step (Array.getElem?_eq_some_iff.1 ho).1 hs h1
        omega
    exact ⟨hr, hfin listed a w hs h hr⟩
  | succ fuel ih =>
    intro listed a w hs h hl
    refine ⟨hfin listed a w hs h, fun i hi => ?_⟩
    obtain ⟨h1, o, ho, hedges⟩ := mem_ready.1 hi
    have hlt : i < ops.size := (Array.getElem?_eq_some_iff.1 ho).1
    refine wpOp_step ho fun K' hK => hstep i o listed a w ho hs (getD_of (b := true) h1 false) hedges h K' fun a' w' h' => hK _ _ (ih _ _ _ (by simpa using hs) h' ?_)
    have := left_step hlt hs h1
    omega
end
/-- **A region whose order Go leaves open**: what each operation keeps, whichever comes when, holds behind it. -/
theorem wp_region_inv {Q : Exit → Act → World → Prop} {id : Nat} {l : List Oper} {a : Act} {w : World} (hm : Tryd.prog.follows .mixedOrders = true) (hok : backOk l.toArray = true) (I : Array Bool → Act → World → Prop)
    (h0 : I (Array.replicate l.length false) a w.drew)
    (hstep : ∀ i o listed a w, l.toArray[i]? = some o → listed.size = l.toArray.size → listed.getD i false = false → (∀ e ∈ o.after, Region.binds .any e = true → listed.getD e.on false = true) → I listed a w →
      ∀ K : Act → World → Prop, (∀ a' w', I (listed.setIfInBounds i true) a' w' → K a' w') → (if Region.wanted o (yielded l.toArray a.tmps) = true then Oper.wp Tryd.prog o a w K Q else K (a.put o.dst undef) w))
    (hend : ∀ listed a w, listed.size = l.toArray.size → (∀ i, i < l.toArray.size → listed.getD i false = true) → I listed a w → Q .normal a w) : (Code.region id l.toArray true).wp Tryd.prog Q a w := by
  refine wp_region_any hm (wpAny_inv hok I hstep hend _ _ _ _ (by simp) (by simpa using h0) ?_)
  unfold left_
  exact Nat.le_trans (List.length_filter_le _ _) (by simp)
/-! ### New variables, each stored into once -/
/-- A fact that a store into a new variable does not touch. -/
def Fact.Soft (g : Nat) (f : Fact) : Prop := ∀ v w b A n c A' n' c', g ≤ b → w.cell? ⟨b, 0, none⟩ = some (.slice A n c) → f.holds v w → f.holds v (w.setCell ⟨b, 0, none⟩ (.slice A' n' c'))
theorem Fact.soft_any {g : Nat} : Fact.any.Soft g := fun _ _ _ _ _ _ _ _ _ _ _ _ => trivial
theorem Fact.soft_eq {g : Nat} (u : Value) : (Fact.eq u).Soft g := fun _ _ _ _ _ _ _ _ _ _ _ h => h
theorem Num.setCell {w : World} {A : Option Addr} {n c : Nat} {zs : List Nat} (h : Num w A n c zs) {p : Addr} {v u : Value} (hc : w.cell? p = some v) (hv : ∀ n, v ≠ .int .u32 n) : Num (w.setCell p u) A n c zs := ⟨h.rd.setCell hc hv, h.len, h.cap, h.dig, h.small⟩
theorem Fact.soft_num {g : Nat} (zs : List Nat) : (Fact.num zs).Soft g := fun _ _ _ _ _ _ _ _ _ _ hc ⟨A, c, h, hn⟩ => ⟨A, c, h, hn.setCell hc (by simp)⟩
theorem Fact.soft_row {g : Nat} (zs : List Nat) : (Fact.row zs).Soft g := fun _ _ _ _ _ _ _ _ _ _ hc ⟨A, c, h, hn⟩ => ⟨A, c, h, hn.setCell hc (by simp)⟩
/-- A number in memory of its own, from g on. -/
def Fact.own (g : Nat) (zs : List Nat) : Fact := ⟨fun v w => ∃ A c, v = nt A zs.length c ∧ Num w A zs.length c zs ∧ Fr g w A zs, fun _ _ _ ⟨A, c, h, hn, hf⟩ hb => ⟨A, c, h, hn.below hb, hf.below hb⟩⟩
theorem Fact.soft_own {g h : Nat} (zs : List Nat) : (Fact.own h zs).Soft g := fun _ _ _ _ _ _ _ _ _ _ hc ⟨A, c, h, hn, hf⟩ => ⟨A, c, h, hn.setCell hc (by simp), hf.setCell hc (by simp)⟩
/-- A variable below g that holds a number. -/
def Fact.low (g : Nat) (zs : List Nat) : Fact := ⟨fun v w => g ≤ w.heap.size ∧ ∃ b A c, v = .pointer (some ⟨b, 0, none⟩) ∧ b < g ∧ Var w b A zs.length c zs, fun _ _ _ ⟨h0, b, A, c, h, hl, hn⟩ hb => ⟨Nat.le_trans h0 hb.size, b, A, c, h, hl, hn.below hb⟩⟩
theorem Fact.soft_low {g : Nat} (zs : List Nat) : (Fact.low g zs).Soft g := fun _ _ _ _ _ _ _ _ _ hg hc ⟨h0, b, A, c, h, hl, hn⟩ => ⟨by simpa using h0, b, A, c, h, hl, hn.other hc (by simp) (by omega)⟩
theorem Fact.soft_list {g : Nat} (l : List (Nat × Fact)) (h : ∀ p ∈ l, p.2.Soft g) (t : Nat) : ((l.lookup t).getD Fact.any).Soft g := by
  induction l with
  | nil => exact Fact.soft_any
  | cons p l ih =>
    obtain ⟨s, f⟩ := p
    rw [List.lookup_cons]
    split
    · exact h _ (List.mem_cons_self ..)
    · exact ih fun q hq => h q (List.mem_cons_of_mem _ hq)
/-- A new variable of a region: its slot, the index of the store into it, the slot that is stored. -/
structure Made where
  slot : Nat
  store : Nat
  from_ : Nat
section
variable (ops : Array Oper) (F : Nat → Fact) (base : List Nat) (N : Nat) (g : Nat) (P : List Made)
structure MInv (a0 : Act) (w0 : World) (listed : Array Bool) (a : Act) (w : World) : Prop where
  tsize : a.tmps.size = N
  defers : a.defers = a0.defers
  base : ∀ t ∈ base, (F t).holds (a.tmps.getD t undef) w
  done : ∀ (i t : Nat), listed.getD i false = true → (ops[i]?).bind Oper.dst = some t → (F t).holds (a.tmps.getD t undef) w
  other : ∀ (t : Nat), (∀ (i : Nat), (ops[i]?).bind Oper.dst ≠ some t) → a.tmps.getD t undef = a0.tmps.getD t undef
  below : Below g w0 w
  gle : g ≤ w.heap.size
  made : ∀ p ∈ P, ∀ i, listed.getD i false = true → (ops[i]?).bind Oper.dst = some p.slot → ∃ b A n c, a.tmps.getD p.slot undef = .pointer (some ⟨b, 0, none⟩) ∧ g ≤ b ∧ b < w.heap.size ∧ w.frozen? ⟨b, 0, none⟩ = false ∧ w.cell? ⟨b, 0, none⟩ = some (.slice A n c) ∧ (listed.getD p.store false = true → (F p.from_).holds (nt A n c) w)
  closed : ∀ i o, ops[i]? = some o → listed.getD i false = true → ∀ e ∈ o.after, Region.binds .any e = true → listed.getD e.on false = true
  apart : ∀ p ∈ P, ∀ q ∈ P, p.slot ≠ q.slot → ∀ i k, listed.getD i false = true → (ops[i]?).bind Oper.dst = some p.slot → listed.getD k false = true → (ops[k]?).bind Oper.dst = some q.slot → a.tmps.getD p.slot undef ≠ a.tmps.getD q.slot undef
/-- What an operation of such a region must show. -/
inductive MOb (Q : Exit → Act → World → Prop) (i : Nat) (o : Oper) : Prop
  | plain (h : Ob ops Q F base N o) (hp : (P.all fun p => p.store != i && o.dst != some p.slot) = true) : MOb Q i o
  | alloc (s : Nat) (ho : o.op = .alloc 24) (hd : o.dst = some s) (hg : o.guard = none) (hF : F s = Fact.any) (hp : (P.all fun p => p.store != i) = true) : MOb Q i o
  | store (p : Made) (hm : p ∈ P) (hi : p.store = i) (ho : o.op = .store 24 (.tmp p.slot) (.tmp p.from_)) (hd : o.dst = none) (hg : o.guard = none) (hk : known ops [] o p.slot = true) (hk2 : known ops base o p.from_ = true)
      (hn : ∀ v w, (F p.from_).holds v w → ∃ A n c, v = nt A n c) (hu : (P.all fun q => (q.slot == p.slot && q.store == i && q.from_ == p.from_) || (q.slot != p.slot && q.store != i)) = true) : MOb Q i o
end
section
variable {ops : Array Oper} {Q : Exit → Act → World → Prop} {F : Nat → Fact} {base : List Nat} {N g : Nat} {P : List Made}
theorem MInv.closed' {a0 : Act} {w0 : World} {listed : Array Bool} {a : Act} {w : World} (h : MInv ops F base N g P a0 w0 listed a w) (hs : listed.size = ops.size) {i : Nat} {o : Oper} (ho : ops[i]? = some o)
    (he : ∀ e ∈ o.after, Region.binds .any e = true → listed.getD e.on false = true) : ∀ j o', ops[j]? = some o' → (listed.setIfInBounds i true).getD j false = true → ∀ e ∈ o'.after, Region.binds .any e = true → (listed.setIfInBounds i true).getD e.on false = true := by
  have hlt : i < listed.size := by rw [hs]; exact (Array.getElem?_eq_some_iff.1 ho).1
  intro j o' ho' hl e hm hb
  rw [set_listed hlt] at hl ⊢
  rcases hl with rfl | hl
  · rw [ho] at ho'
    injection ho' with ho'
    subst ho'
    exact .inr (he e hm hb)
  · exact .inr (h.closed j o' ho' hl e hm hb)
theorem known_op {o : Oper} {t : Nat} (hk : known ops [] o t = true) : ∃ e ∈ o.after, Region.binds .any e = true ∧ (ops[e.on]?).bind Oper.dst = some t := by
  unfold known at hk
  simp only [List.contains_nil, Bool.false_or] at hk
  obtain ⟨e, he, h⟩ := Array.any_eq_true'.1 hk
  simp only [Bool.and_eq_true, beq_iff_eq] at h
  exact ⟨e, he, h.1, h.2⟩
theorem MInv.plain (hok : formOk ops base N = true) {a0 : Act} {w0 : World} {listed : Array Bool} {a : Act} {w w' : World} (h : MInv ops F base N g P a0 w0 listed a w) (hs : listed.size = ops.size) {i : Nat} {o : Oper} (ho : ops[i]? = some o)
    (he : ∀ e ∈ o.after, Region.binds .any e = true → listed.getD e.on false = true) {v : Value} (hp : (P.all fun p => p.store != i && o.dst != some p.slot) = true)
    (hb : Below w.heap.size w w') (hF : ∀ t, o.dst = some t → (F t).holds v w') : MInv ops F base N g P a0 w0 (listed.setIfInBounds i true) (a.put o.dst v) w' := by
  obtain ⟨_, hd⟩ := formOk_at hok ho
  have hlt : i < listed.size := by rw [hs]; exact (Array.getElem?_eq_some_iff.1 ho).1
  have hP : ∀ p ∈ P, p.store ≠ i ∧ o.dst ≠ some p.slot := fun p hm => by
    have := List.all_eq_true.1 hp p hm
    simpa using this
  have hnew : ∀ p ∈ P, ∀ j, (listed.setIfInBounds i true).getD j false = true → (ops[j]?).bind Oper.dst = some p.slot → listed.getD j false = true := fun p hm j hj hjd => by
    rcases (set_listed hlt).1 hj with rfl | hj
    · rw [ho] at hjd
      exact absurd hjd (hP p hm).2
    · exact hj
  refine ⟨?_, ?_, fun t ht => ?_, fun j t hj hjt => ?_, fun t ht => ?_, h.below.trans (hb.mono h.gle), Nat.le_trans h.gle hb.size, fun p hm j hj hjd => ?_, h.closed' hs ho he, fun p hm q hq hne j k hj hjd hk hkd => ?_⟩
  · cases o.dst <;> simpa [Act.put] using h.tsize
  · cases o.dst <;> simpa [Act.put] using h.defers
  · rw [getD_put_other (fun e => (hd t e).2.1 ht)]
    exact (F t).stable _ _ _ (h.base t ht) hb
  · by_cases hji : j = i
    · subst hji
      rw [ho] at hjt
      have hjt' : o.dst = some t := hjt
      rw [hjt', getD_put_same (by rw [h.tsize]; exact (hd t hjt').1)]
      exact hF t hjt'
    · have hl : listed.getD j false = true := ((set_listed hlt).1 hj).resolve_left hji
      rw [getD_put_other (fun e => (hd t e).2.2 j hji hjt)]
      exact (F t).stable _ _ _ (h.done j t hl hjt) hb
  · rw [getD_put_other (fun e => ht i (by rw [ho]; exact e))]
    exact h.other t ht
  · obtain ⟨b, A, n, c, h1, h2, h3, h4, h5, h6⟩ := h.made p hm j (hnew p hm j hj hjd) hjd
    refine ⟨b, A, n, c, by rw [getD_put_other (hP p hm).2]; exact h1, h2, Nat.lt_of_lt_of_le h3 hb.size, ((seen hb).2 _ _ h3).trans h4, ((seen hb).1 _ _ h3).trans h5, fun hl => (F _).stable _ _ _ (h6 (((set_listed hlt).1 hl).resolve_left (hP p hm).1)) hb⟩
  · rw [getD_put_other (hP p hm).2, getD_put_other (hP q hq).2]
    exact h.apart p hm q hq hne j k (hnew p hm j hj hjd) hjd (hnew q hq k hk hkd) hkd
theorem MInv.alloc (hok : formOk ops base N = true) (hobs : ∀ j o', ops[j]? = some o' → MOb ops F base N P Q j o') {a0 : Act} {w0 : World} {listed : Array Bool} {a : Act} {w : World} (h : MInv ops F base N g P a0 w0 listed a w) (hs : listed.size = ops.size) {i : Nat} {o : Oper} (ho : ops[i]? = some o)
    (hl0 : listed.getD i false = false) (he : ∀ e ∈ o.after, Region.binds .any e = true → listed.getD e.on false = true) {s : Nat} (hds : o.dst = some s) (hFs : F s = Fact.any) (hp : (P.all fun p => p.store != i) = true) :
    MInv ops F base N g P a0 w0 (listed.setIfInBounds i true) (a.put o.dst (.pointer (some ⟨w.heap.size, 0, none⟩))) (w.alloc (Obj.cells #[Value.slice none 0 0] 24)) := by
  obtain ⟨_, hd⟩ := formOk_at hok ho
  have hlt : i < listed.size := by rw [hs]; exact (Array.getElem?_eq_some_iff.1 ho).1
  have hb := one w (Obj.cells #[Value.slice none 0 0] 24)
  have hPs : ∀ p ∈ P, p.store ≠ i := fun p hm => by
    have := List.all_eq_true.1 hp p hm
    simpa using this
  obtain ⟨hsN, hsb, hsu⟩ := hd s hds
  have hnot : ∀ p ∈ P, p.slot = s → ¬ listed.getD p.store false = true := fun p hm hps hl => by
    have hlt2 : p.store < ops.size := by
      rcases Nat.lt_or_ge p.store listed.size with h1 | h1
      · rw [← hs]; exact h1
      · rw [Array.getD_eq_getD_getElem?, Array.getElem?_eq_none h1] at hl; cases hl
    have ho' : ops[p.store]? = some ops[p.store] := Array.getElem?_eq_getElem hlt2
    cases hobs p.store _ ho' with
    | plain h1 h2 => have := List.all_eq_true.1 h2 p hm; simp at this
    | alloc _ _ _ _ _ h2 => have := List.all_eq_true.1 h2 p hm; simp at this
    | store p' hm' hi' _ _ _ hk _ _ hu =>
      have h3 := List.all_eq_true.1 hu p hm
      simp at h3
      obtain ⟨e, hem, hb', hdst⟩ := known_op hk
      have h4 := h.closed _ _ ho' hl e hem hb'
      have h5 : e.on = i := by
        rcases Nat.lt_or_ge e.on e.on.succ with _ | _
        · by_cases h6 : e.on = i
          · exact h6
          · exfalso
            refine hsu e.on h6 ?_
            rw [hdst]
            congr 1
            rw [← h3.1]; exact hps
        · omega
      rw [h5, hl0] at h4
      cases h4
  have hput : (a.put o.dst (.pointer (some ⟨w.heap.size, 0, none⟩))).tmps.getD s undef = .pointer (some ⟨w.heap.size, 0, none⟩) := by
    rw [hds, getD_put_same (by rw [h.tsize]; exact hsN)]
  have hold : ∀ t, t ≠ s → (a.put o.dst (.pointer (some ⟨w.heap.size, 0, none⟩))).tmps.getD t undef = a.tmps.getD t undef := fun t ht => getD_put_other (by rw [hds]; intro e; injection e with e; exact ht e.symm)
  refine ⟨?_, ?_, fun t ht => ?_, fun j t hj hjt => ?_, fun t ht => ?_, h.below.trans (hb.mono h.gle), Nat.le_trans h.gle hb.size, fun p hm j hj hjd => ?_, h.closed' hs ho he, fun p hm q hq hne j k hj hjd hk hkd => ?_⟩
  · cases o.dst <;> simpa [Act.put] using h.tsize
  · cases o.dst <;> simpa [Act.put] using h.defers
  · rw [hold t (fun e => hsb (e ▸ ht))]
    exact (F t).stable _ _ _ (h.base t ht) hb
  · by_cases hts : t = s
    · subst hts
      rw [hFs]
      trivial
    · rw [hold t hts]
      refine (F t).stable _ _ _ (h.done j t (((set_listed hlt).1 hj).resolve_left ?_) hjt) hb
      rintro rfl
      rw [ho] at hjt
      exact hts (by have h5 : o.dst = some t := hjt; rw [hds] at h5; injection h5 with h5; exact h5.symm)
  · rw [hold t (by rintro rfl; exact ht i (by rw [ho]; exact hds))]
    exact h.other t ht
  · by_cases hps : p.slot = s
    · refine ⟨w.heap.size, none, 0, 0, by rw [hps]; exact hput, h.gle, by simp, new_soft _ _ _ _ rfl, new_cell _ _ _ _ rfl, fun hl => absurd (((set_listed hlt).1 hl).resolve_left (hPs p hm)) (hnot p hm hps)⟩
    · have hj' : listed.getD j false = true := ((set_listed hlt).1 hj).resolve_left (by
        rintro rfl
        rw [ho] at hjd
        have h5 : o.dst = some p.slot := hjd
        rw [hds] at h5; injection h5 with h5; exact hps h5.symm)
      obtain ⟨b, A, n, c, h1, h2, h3, h4, h5, h6⟩ := h.made p hm j hj' hjd
      exact ⟨b, A, n, c, by rw [hold _ hps]; exact h1, h2, Nat.lt_of_lt_of_le h3 hb.size, ((seen hb).2 _ _ h3).trans h4, ((seen hb).1 _ _ h3).trans h5, fun hl => (F _).stable _ _ _ (h6 (((set_listed hlt).1 hl).resolve_left (hPs p hm))) hb⟩
  · have hother : ∀ r ∈ P, r.slot ≠ s → ∀ j, (listed.setIfInBounds i true).getD j false = true → (ops[j]?).bind Oper.dst = some r.slot → listed.getD j false = true := fun r hr hrs j hj hjd => ((set_listed hlt).1 hj).resolve_left (by
        rintro rfl
        rw [ho] at hjd
        have h5 : o.dst = some r.slot := hjd
        rw [hds] at h5; injection h5 with h5; exact hrs h5.symm)
    have hfar : ∀ r ∈ P, r.slot ≠ s → ∀ j, (listed.setIfInBounds i true).getD j false = true → (ops[j]?).bind Oper.dst = some r.slot → a.tmps.getD r.slot undef ≠ .pointer (some ⟨w.heap.size, 0, none⟩) := fun r hr hrs j hj hjd => by
      obtain ⟨b, A, n, c, h1, h2, h3, _⟩ := h.made r hr j (hother r hr hrs j hj hjd) hjd
      rw [h1]
      intro e
      injection e with e
      injection e with e
      injection e with e
      omega
    by_cases hps : p.slot = s
    · have hqs : q.slot ≠ s := fun e => hne (hps.trans e.symm)
      rw [hps, hput, hold _ hqs]
      exact (hfar q hq hqs k hk hkd).symm
    · by_cases hqs : q.slot = s
      · rw [hqs, hput, hold _ hps]
        exact hfar p hm hps j hj hjd
      · rw [hold _ hps, hold _ hqs]
        exact h.apart p hm q hq hne j k (hother p hm hps j hj hjd) hjd (hother q hq hqs k hk hkd) hkd
theorem MInv.store (hsoft : ∀ t, (F t).Soft g) {a0 : Act} {w0 : World} {listed : Array Bool} {a : Act} {w : World} (h : MInv ops F base N g P a0 w0 listed a w) (hs : listed.size = ops.size) {i : Nat} {o : Oper} (ho : ops[i]? = some o)
    (he : ∀ e ∈ o.after, Region.binds .any e = true → listed.getD e.on false = true) {p : Made} (hm : p ∈ P) (hd : o.dst = none) (hu : (P.all fun q => (q.slot == p.slot && q.store == i && q.from_ == p.from_) || (q.slot != p.slot && q.store != i)) = true)
    {j : Nat} (hj : listed.getD j false = true) (hjd : (ops[j]?).bind Oper.dst = some p.slot) {b : Nat} {A A' : Option Addr} {n c n' c' : Nat} (h2 : g ≤ b) (h3 : b < w.heap.size) (hptr : a.tmps.getD p.slot undef = .pointer (some ⟨b, 0, none⟩)) (h5 : w.cell? ⟨b, 0, none⟩ = some (.slice A n c)) (hF : (F p.from_).holds (nt A' n' c') w) :
    MInv ops F base N g P a0 w0 (listed.setIfInBounds i true) a (w.setCell ⟨b, 0, none⟩ (.slice A' n' c')) := by
  have hlt : i < listed.size := by rw [hs]; exact (Array.getElem?_eq_some_iff.1 ho).1
  have hu' : ∀ q ∈ P, (q.slot = p.slot ∧ q.store = i ∧ q.from_ = p.from_) ∨ (q.slot ≠ p.slot ∧ q.store ≠ i) := fun q hq => by
    have := List.all_eq_true.1 hu q hq
    simpa [and_assoc] using this
  have hold : ∀ k d, (listed.setIfInBounds i true).getD k false = true → (ops[k]?).bind Oper.dst = some d → listed.getD k false = true := fun k d hk hkd => ((set_listed hlt).1 hk).resolve_left (by
    rintro rfl
    rw [ho] at hkd
    have h5 : o.dst = some d := hkd
    rw [hd] at h5; cases h5)
  refine ⟨h.tsize, h.defers, fun t ht => hsoft t _ _ _ _ _ _ _ _ _ h2 h5 (h.base t ht), fun k t hk hkt => hsoft t _ _ _ _ _ _ _ _ _ h2 h5 (h.done k t (hold k t hk hkt) hkt), h.other, h.below.setCell h2 _, by simpa using h.gle, fun q hq k hk hkd => ?_, h.closed' hs ho he, fun q hq r hr hne k m hk hkd hm' hmd => h.apart q hq r hr hne k m (hold k _ hk hkd) hkd (hold m _ hm' hmd) hmd⟩
  rcases hu' q hq with ⟨e1, e2, e3⟩ | ⟨e1, e2⟩
  · refine ⟨b, A', n', c', by rw [e1]; exact hptr, h2, by simpa using h3, ?_, ?_, fun _ => by rw [e3]; exact hsoft _ _ _ _ _ _ _ _ _ _ h2 h5 hF⟩
    · rw [World.frozen?_setCell]
      obtain ⟨b', _, _, _, k1, _, _, k4, _⟩ := h.made p hm j hj hjd
      rw [hptr] at k1
      injection k1 with k1; injection k1 with k1; injection k1 with k1
      rw [k1]; exact k4
    · exact World.cell?_setCell_same (u := _) _ _ _ h5
  · obtain ⟨b', A1, n1, c1, k1, k2, k3, k4, k5, k6⟩ := h.made q hq k (hold k _ hk hkd) hkd
    have hne : b' ≠ b := by
      rintro rfl
      exact h.apart q hq p hm e1 k j (hold k _ hk hkd) hkd hj hjd (k1.trans hptr.symm)
    refine ⟨b', A1, n1, c1, k1, k2, by simpa using k3, by rw [World.frozen?_setCell]; exact k4, ?_, fun hl => hsoft _ _ _ _ _ _ _ _ _ _ h2 h5 (k6 (((set_listed hlt).1 hl).resolve_left e2))⟩
    rw [World.cell?_setCell_other _ _ _ _ (by intro e; injection e; omega)]
    exact k5
theorem run_alloc24 {o : Oper} (ho : o.op = .alloc 24) (a : Act) (w : World) : (execOp a.eval o).run Tryd.prog w = .ok (.value (.pointer (some ⟨w.heap.size, 0, none⟩))) (w.alloc (Obj.cells #[Value.slice none 0 0] 24)) := by
  simp [execOp, ho]
  go_simp
theorem run_store24 {o : Oper} {s f : Nat} (ho : o.op = .store 24 (.tmp s) (.tmp f)) (a : Act) (w : World) {b : Nat} {A A' : Option Addr} {n c n' c' : Nat} (h1 : a.tmps.getD s undef = .pointer (some ⟨b, 0, none⟩)) (h2 : a.tmps.getD f undef = nt A' n' c') (h3 : w.cell? ⟨b, 0, none⟩ = some (.slice A n c)) (h4 : w.frozen? ⟨b, 0, none⟩ = false) :
    (execOp a.eval o).run Tryd.prog w = .ok .skip (w.setCell ⟨b, 0, none⟩ (.slice A' n' c')) := by
  have k1 : a.eval (.tmp s) = .pointer (some ⟨b, 0, none⟩) := h1
  have k2 : a.eval (.tmp f) = nt A' n' c' := h2
  simp [execOp, ho, k1, k2]
  go_simp
theorem MInv.step (hok : formOk ops base N = true) (hsoft : ∀ t, (F t).Soft g) (hobs : ∀ j o', ops[j]? = some o' → MOb ops F base N P Q j o') {a0 : Act} {w0 : World} {listed : Array Bool} {a : Act} {w : World} (h : MInv ops F base N g P a0 w0 listed a w) (hs : listed.size = ops.size) {i : Nat} {o : Oper} (ho : ops[i]? = some o)
    (hl0 : listed.getD i false = false) (he : ∀ e ∈ o.after, Region.binds .any e = true → listed.getD e.on false = true) (K : Act → World → Prop) (hK : ∀ a' w', MInv ops F base N g P a0 w0 (listed.setIfInBounds i true) a' w' → K a' w') :
    (if Region.wanted o (yielded ops a.tmps) = true then Oper.wp Tryd.prog o a w K Q else K (a.put o.dst undef) w) := by
  have hdone : ∀ e ∈ o.after, Region.binds .any e = true → ∀ t, (ops[e.on]?).bind Oper.dst = some t → (F t).holds (a.tmps.getD t undef) w := fun e hm hb t ht => h.done e.on t (he e hm hb) ht
  cases hobs i o ho with
  | plain hob hp => exact hob a w K h.tsize h.base hdone fun v w' hb hF => hK _ _ (h.plain hok hs ho he hp hb hF)
  | alloc s hop hd hg hF hp =>
    rw [if_pos (by simp [Region.wanted, hg])]
    unfold Oper.wp
    rw [run_alloc24 hop]
    exact hK _ _ (h.alloc hok hobs hs ho hl0 he hd hF hp)
  | store p hm hi hop hd hg hk hk2 hn hu =>
    rw [if_pos (by simp [Region.wanted, hg])]
    obtain ⟨e, hem, heb, hed⟩ := known_op hk
    obtain ⟨b, A, n, c, h1, h2, h3, h4, h5, _⟩ := h.made p hm e.on (he e hem heb) hed
    have hf := known_fact h.base hdone hk2
    obtain ⟨A', n', c', hv⟩ := hn _ _ hf
    unfold Oper.wp
    rw [run_store24 hop a w h1 hv h5 h4]
    have hput : a.put o.dst undef = a := by rw [hd]; rfl
    show K (a.put o.dst undef) _
    rw [hput]
    exact hK _ _ (h.store hsoft hs ho he hm hd hu (he e hem heb) hed h2 h3 h1 h5 (hv ▸ hf))
end
/-- Whether the new variables are made and stored into by the operations. -/
def madeOk (l : List Oper) (ds : List Nat) (P : List Made) : Bool := P.all fun p => ds.contains p.slot && decide (p.store < l.length)
/-- **A region that makes new variables and stores into each once**, whatever its order, and what comes behind it. -/
theorem wp_region_made {Q : Exit → Act → World → Prop} {id : Nat} {l : List Oper} {a : Act} {w : World} (hm : Tryd.prog.follows .mixedOrders = true) (F : Nat → Fact) (base : List Nat) (N : Nat) (P : List Made) (ds : List Nat) (hN : a.tmps.size = N) (hok : formOk l.toArray base N = true) (hback : backOk l.toArray = true) (hds : dstsOk l ds = true) (hmade : madeOk l ds P = true)
    (hsoft : ∀ t, (F t).Soft w.heap.size) (hbase : ∀ t ∈ base, (F t).holds (a.tmps.getD t undef) w) (hstep : ∀ q ∈ l.zipIdx, MOb l.toArray F base N P Q q.2 q.1)
    (hend : ∀ (v : Nat → Value) w', (∀ t ∈ ds, (F t).holds (v t) w') → (∀ p ∈ P, ∃ b A n c, v p.slot = .pointer (some ⟨b, 0, none⟩) ∧ w.heap.size ≤ b ∧ b < w'.heap.size ∧ w'.frozen? ⟨b, 0, none⟩ = false ∧ w'.cell? ⟨b, 0, none⟩ = some (.slice A n c) ∧ (F p.from_).holds (nt A n c) w') →
      (∀ p ∈ P, ∀ q ∈ P, p.slot ≠ q.slot → v p.slot ≠ v q.slot) → Below w.heap.size w w' → Q .normal { tmps := lay a.tmps ds v, defers := a.defers } w') : (Code.region id l.toArray true).wp Tryd.prog Q a w := by
  have hobs : ∀ j o', l.toArray[j]? = some o' → MOb l.toArray F base N P Q j o' := fun j o' h => by
    rw [List.getElem?_toArray] at h
    exact hstep (o', j) (List.mem_of_getElem? (i := j) (by rw [List.getElem?_zipIdx, h]; simp))
  have hnone : ∀ i, (Array.replicate l.length false).getD i false = true → False := fun i hi => by
    rw [Array.getD_eq_getD_getElem?, Array.getElem?_replicate] at hi
    split at hi <;> simp at hi
  refine wp_region_inv hm hback (MInv l.toArray F base N w.heap.size P a w) ?_ (fun i o listed a' w' ho hs hl0 he h K hK => h.step hok hsoft hobs hs ho hl0 he K hK) fun listed a' w' hs hl h => ?_
  · exact ⟨hN, rfl, fun t ht => (F t).stable _ _ _ (hbase t ht) (Below.refl _ _).drew, fun i _ hi _ => (hnone i hi).elim, fun _ _ => rfl, (Below.refl _ _).drew, Nat.le_refl _, fun _ _ i hi _ => (hnone i hi).elim, fun i _ _ hi => (hnone i hi).elim, fun _ _ _ _ _ i _ hi _ _ => (hnone i hi).elim⟩
  · have hw : ∀ t ∈ ds, ∃ i, listed.getD i false = true ∧ (l.toArray[i]?).bind Oper.dst = some t := fun t ht => by
      have h1 := hds
      simp only [dstsOk, Bool.and_eq_true] at h1
      have h2 := List.any_eq_true.1 (List.all_eq_true.1 h1.2 t ht)
      obtain ⟨o, ho, hd⟩ := h2
      obtain ⟨i, hi⟩ := List.getElem?_of_mem ho
      have hlt : i < l.toArray.size := by simpa using (List.getElem?_eq_some_iff.1 hi).1
      exact ⟨i, hl i hlt, by rw [List.getElem?_toArray, hi]; exact (by simpa using hd)⟩
    have hP : ∀ p ∈ P, p.slot ∈ ds ∧ p.store < l.length := fun p hp => by
      have := List.all_eq_true.1 hmade p hp
      simpa using this
    have hq := hend (fun t => a'.tmps.getD t undef) w' (fun t ht => by
      obtain ⟨i, hi, hd⟩ := hw t ht
      exact h.done i t hi hd) (fun p hp => by
      obtain ⟨i, hi, hd⟩ := hw p.slot (hP p hp).1
      obtain ⟨b, A, n, c, h1, h2, h3, h4, h5, h6⟩ := h.made p hp i hi hd
      exact ⟨b, A, n, c, h1, h2, h3, h4, h5, h6 (hl _ (by simpa using (hP p hp).2))⟩) (fun p hp q hq hne => by
      obtain ⟨i, hi, hd⟩ := hw p.slot (hP p hp).1
      obtain ⟨k, hk, hkd⟩ := hw q.slot (hP q hq).1
      exact h.apart p hp q hq hne i k hi hd hk hkd) h.below
    have heq : a' = { tmps := lay a.tmps ds fun t => a'.tmps.getD t undef, defers := a.defers } := by
      have hoth := h.other
      have hsz := h.tsize
      have hdef := h.defers
      clear hq hP hw h hs hl hobs hstep hend hbase
      obtain ⟨ts, df⟩ := a'
      have hdef' : df = a.defers := hdef
      subst hdef'
      congr 1
      have hsz' : ts.size = N := hsz
      refine Array.ext_getElem? fun t => ?_
      rcases Nat.lt_or_ge t N with hlt | hge
      · by_cases htd : t ∈ ds
        · rw [lay_at ds _ _ t htd (by omega), Array.getD_eq_getD_getElem?, Array.getElem?_eq_getElem (by omega)]; rfl
        · rw [lay_other ds _ _ t htd]
          have := hoth t fun i hi => by
            have h1 := hds
            simp only [dstsOk, Bool.and_eq_true] at h1
            rw [List.getElem?_toArray] at hi
            cases hl : l[i]? with
            | none => rw [hl] at hi; cases hi
            | some o =>
              rw [hl] at hi
              have h2 := List.all_eq_true.1 h1.1 o (List.mem_of_getElem? hl)
              have h3 : o.dst = some t := hi
              rw [h3] at h2
              exact htd (by simpa using h2)
          have h2 : ts.getD t undef = a.tmps.getD t undef := this
          rw [Array.getD_eq_getD_getElem?, Array.getD_eq_getD_getElem?, Array.getElem?_eq_getElem (by omega), Array.getElem?_eq_getElem (by omega)] at h2
          rw [Array.getElem?_eq_getElem (by omega), Array.getElem?_eq_getElem (by omega)]
          exact congrArg some h2
      · rw [Array.getElem?_eq_none (by omega), Array.getElem?_eq_none (by rw [lay_size]; omega)]
    rw [heq]
    exact hq
end Go.Proofs.YtaiceebhifecbaaDoor

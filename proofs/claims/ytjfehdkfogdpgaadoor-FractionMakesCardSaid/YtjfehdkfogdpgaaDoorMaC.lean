/-
  A region whose order Go leaves open, with a relation that each of its operations keeps; and a region that makes new variables and stores into each of them once. No conditions beyond those that they name.
  The law of the greatest common divisor: it returns true. No conditions. Also: Contract of the reference's Gcd. Conditions: numbers without leading zeros, of at most 300 digits.
  The law that arguments are not modified and results have memory of their own: it returns true. No conditions. Also: A region whose operations each give a value told ahead and keep what is said of memory; slices of digits that are written, whatever the digits. No conditions beyond those that each names.
  The types of fractions in the model: loads, fields, new variables, built values; and the contracts of numbers told by facts. No conditions beyond those that each names.
  More obligations of single operations: comparisons, built values, parts of results, numbers in a row. No conditions beyond those that each names.
  Fractions and the sizes of their parts; the facts of a fraction, and of one that is made of a sign and two numbers. No conditions beyond those that each names.
  Contracts of isZero, isOne, signOf and reduced. Conditions: numbers of at most 400 digits.
  Rows of numbers: their length, their elements; the product of a list. No conditions beyond those that each names.
  Contract of product. Conditions: numbers of at most 400 digits together.
  A copy of a slice of digits whatever its capacity, told by facts; fields of a number; the text of a fraction's contracts needs them. Conditions: at most 400 digits.
  Contracts of Make, Neg, Add, Mul, Sub, Div, Sign and Lerp. Conditions: numbers of at most 400 digits together.
  Contract of the reference's Parse. No conditions but the string's size.
  Plain mathematics of decimal digits: what is written reads as it was. No conditions.
  The contracts of the reference's numbers, told by the sizes of their parts. Conditions: numbers of at most 300 digits.
-/
import Derived.Laws.BytesArg
import Derived.Test.YtjfehdkfogdpgaaDoorMaB
namespace Go.Proofs.YtjfehdkfogdpgaaDoor
open Go.RowKit
theorem set_listed {listed : Array Bool} {i j : Nat} (hi : i < listed.size) : (listed.setIfInBounds i true).getD j false = true ↔ j = i ∨ listed.getD j false = true := by
  by_cases hji : j = i
  · subst hji
    simp [Array.getD_eq_getD_getElem?, hi]
  · simp only [Array.getD_eq_getD_getElem?, Array.getElem?_setIfInBounds, if_neg (Ne.symm hji), hji, false_or]
section
variable {ops : Array Oper} {Q : Exit → Act → World → Prop}
end
def Fact.Soft (g : Nat) (f : Fact) : Prop := ∀ v w b A n c A' n' c', g ≤ b → w.cell? ⟨b, 0, none⟩ = some (.slice A n c) → f.holds v w → f.holds v (w.setCell ⟨b, 0, none⟩ (.slice A' n' c'))
theorem Num.setCell {w : World} {A : Option Addr} {n c : Nat} {zs : List Nat} (h : Num w A n c zs) {p : Addr} {v u : Value} (hc : w.cell? p = some v) (hv : ∀ n, v ≠ .int .u32 n) : Num (w.setCell p u) A n c zs := ⟨h.rd.setCell hc hv, h.len, h.cap, h.dig, h.small⟩
def Fact.own (g : Nat) (zs : List Nat) : Fact := ⟨fun v w => ∃ A c, v = nt A zs.length c ∧ Num w A zs.length c zs ∧ Fr g w A zs, fun _ _ _ ⟨A, c, h, hn, hf⟩ hb => ⟨A, c, h, hn.below hb, hf.below hb⟩⟩
def Fact.low (g : Nat) (zs : List Nat) : Fact := ⟨fun v w => g ≤ w.heap.size ∧ ∃ b A c, v = .pointer (some ⟨b, 0, none⟩) ∧ b < g ∧ Var w b A zs.length c zs, fun _ _ _ ⟨h0, b, A, c, h, hl, hn⟩ hb => ⟨Nat.le_trans h0 hb.size, b, A, c, h, hl, hn.below hb⟩⟩
structure Made where
  slot : Nat
  store : Nat
  from_ : Nat
section
variable (ops : Array Oper) (F : Nat → Fact) (base : List Nat) (N : Nat) (g : Nat) (P : List Made)
structure MInv (a0 : Act) (w0 : World) (listed : Array Bool) (a : Act) (w : World) : Prop where
  tsize : a.tmps.size = N
  defers : a.defers = a0.defers
  base : ∀ t ∈ base, (F t).holds (a.tmps.getD t undef) w
  done : ∀ (i t : Nat), listed.getD i false = true → (ops[i]?).bind Oper.dst = some t → (F t).holds (a.tmps.getD t undef) w
  other : ∀ (t : Nat), (∀ (i : Nat), (ops[i]?).bind Oper.dst ≠ some t) → a.tmps.getD t undef = a0.tmps.getD t undef
  below : Below g w0 w
  gle : g ≤ w.heap.size
  made : ∀ p ∈ P, ∀ i, listed.getD i false = true → (ops[i]?).bind Oper.dst = some p.slot → ∃ b A n c, a.tmps.getD p.slot undef = .pointer (some ⟨b, 0, none⟩) ∧ g ≤ b ∧ b < w.heap.size ∧ w.frozen? ⟨b, 0, none⟩ = false ∧ w.cell? ⟨b, 0, none⟩ = some (.slice A n c) ∧ (listed.getD p.store false = true → (F p.from_).holds (nt A n c) w)
  closed : ∀ i o, ops[i]? = some o → listed.getD i false = true → ∀ e ∈ o.after, Region.binds .any e = true → listed.getD e.on false = true
  apart : ∀ p ∈ P, ∀ q ∈ P, p.slot ≠ q.slot → ∀ i k, listed.getD i false = true → (ops[i]?).bind Oper.dst = some p.slot → listed.getD k false = true → (ops[k]?).bind Oper.dst = some q.slot → a.tmps.getD p.slot undef ≠ a.tmps.getD q.slot undef
inductive MOb (Q : Exit → Act → World → Prop) (i : Nat) (o : Oper) : Prop
  | plain (h : Ob ops Q F base N o) (hp : (P.all fun p => p.store != i && o.dst != some p.slot) = true) : MOb Q i o
  | alloc (s : Nat) (ho : o.op = .alloc 24) (hd : o.dst = some s) (hg : o.guard = none) (hF : F s = Fact.any) (hp : (P.all fun p => p.store != i) = true) : MOb Q i o
  | store (p : Made) (hm : p ∈ P) (hi : p.store = i) (ho : o.op = .store 24 (.tmp p.slot) (.tmp p.from_)) (hd : o.dst = none) (hg : o.guard = none) (hk : known ops [] o p.slot = true) (hk2 : known ops base o p.from_ = true)
      (hn : ∀ v w, (F p.from_).holds v w → ∃ A n c, v = nt A n c) (hu : (P.all fun q => (q.slot == p.slot && q.store == i && q.from_ == p.from_) || (q.slot != p.slot && q.store != i)) = true) : MOb Q i o
end
section
variable {ops : Array Oper} {Q : Exit → Act → World → Prop} {F : Nat → Fact} {base : List Nat} {N g : Nat} {P : List Made}
theorem MInv.closed' {a0 : Act} {w0 : World} {listed : Array Bool} {a : Act} {w : World} (h : MInv ops F base N g P a0 w0 listed a w) (hs : listed.size = ops.size) {i : Nat} {o : Oper} (ho : ops[i]? = some o)
    (he : ∀ e ∈ o.after, Region.binds .any e = true → listed.getD e.on false = true) : ∀ j o', ops[j]? = some o' → (listed.setIfInBounds i true).getD j false = true → ∀ e ∈ o'.after, Region.binds .any e = true → (listed.setIfInBounds i true).getD e.on false = true := by
  have hlt : i < listed.size := by rw [hs]; exact (Array.getElem?_eq_some_iff.1 ho).1
  intro j o' ho' hl e hm hb
  rw [set_listed hlt] at hl ⊢
  rcases hl with rfl | hl
  · rw [ho] at ho'
    injection ho' with ho'
    subst ho'
    exact .inr (he e hm hb)
  · exact .inr (h.closed j o' ho' hl e hm hb)
theorem known_op {o : Oper} {t : Nat} (hk : known ops [] o t = true) : ∃ e ∈ o.after, Region.binds .any e = true ∧ (ops[e.on]?).bind Oper.dst = some t := by
  unfold known at hk
  simp only [List.contains_nil, Bool.false_or] at hk
  obtain ⟨e, he, h⟩ := Array.any_eq_true'.1 hk
  simp only [Bool.and_eq_true, beq_iff_eq] at h
  exact ⟨e, he, h.1, h.2⟩
theorem MInv.plain (hok : formOk ops base N = true) {a0 : Act} {w0 : World} {listed : Array Bool} {a : Act} {w w' : World} (h : MInv ops F base N g P a0 w0 listed a w) (hs : listed.size = ops.size) {i : Nat} {o : Oper} (ho : ops[i]? = some o)
    (he : ∀ e ∈ o.after, Region.binds .any e = true → listed.getD e.on false = true) {v : Value} (hp : (P.all fun p => p.store != i && o.dst != some p.slot) = true)
    (hb : Below w.heap.size w w') (hF : ∀ t, o.dst = some t → (F t).holds v w') : MInv ops F base N g P a0 w0 (listed.setIfInBounds i true) (a.put o.dst v) w' := by
  obtain ⟨_, hd⟩ := formOk_at hok ho
  have hlt : i < listed.size := by rw [hs]; exact (Array.getElem?_eq_some_iff.1 ho).1
  have hP : ∀ p ∈ P, p.store ≠ i ∧ o.dst ≠ some p.slot := fun p hm => by
    have := List.all_eq_true.1 hp p hm
    simpa using this
  have hnew : ∀ p ∈ P, ∀ j, (listed.setIfInBounds i true).getD j false = true → (ops[j]?).bind Oper.dst = some p.slot → listed.getD j false = true := fun p hm j hj hjd => by
    rcases (set_listed hlt).1 hj with rfl | hj
    · rw [ho] at hjd
      exact absurd hjd (hP p hm).2
    · exact hj
  refine ⟨?_, ?_, fun t ht => ?_, fun j t hj hjt => ?_, fun t ht => ?_, h.below.trans (hb.mono h.gle), Nat.le_trans h.gle hb.size, fun p hm j hj hjd => ?_, h.closed' hs ho he, fun p hm q hq hne j k hj hjd hk hkd => ?_⟩
  · cases o.dst <;> simpa [Act.put] using h.tsize
  · cases o.dst <;> simpa [Act.put] using h.defers
  · rw [getD_put_other (fun e => (hd t e).2.1 ht)]
    exact (F t).stable _ _ _ (h.base t ht) hb
  · by_cases hji : j = i
    · subst hji
      rw [ho] at hjt
      have hjt' : o.dst = some t := hjt
      rw [hjt', getD_put_same (by rw [h.tsize]; exact (hd t hjt').1)]
      exact hF t hjt'
    · have hl : listed.getD j false = true := ((set_listed hlt).1 hj).resolve_left hji
      rw [getD_put_other (fun e => (hd t e).2.2 j hji hjt)]
      exact (F t).stable _ _ _ (h.done j t hl hjt) hb
  · rw [getD_put_other (fun e => ht i (by rw [ho]; exact e))]
    exact h.other t ht
  · obtain ⟨b, A, n, c, h1, h2, h3, h4, h5, h6⟩ := h.made p hm j (hnew p hm j hj hjd) hjd
    refine ⟨b, A, n, c, by rw [getD_put_other (hP p hm).2]; exact h1, h2, Nat.lt_of_lt_of_le h3 hb.size, ((seen hb).2 _ _ h3).trans h4, ((seen hb).1 _ _ h3).trans h5, fun hl => (F _).stable _ _ _ (h6 (((set_listed hlt).1 hl).resolve_left (hP p hm).1)) hb⟩
  · rw [getD_put_other (hP p hm).2, getD_put_other (hP q hq).2]
    exact h.apart p hm q hq hne j k (hnew p hm j hj hjd) hjd (hnew q hq k hk hkd) hkd
theorem MInv.alloc (hok : formOk ops base N = true) (hobs : ∀ j o', ops[j]? = some o' → MOb ops F base N P Q j o') {a0 : Act} {w0 : World} {listed : Array Bool} {a : Act} {w : World} (h : MInv ops F base N g P a0 w0 listed a w) (hs : listed.size = ops.size) {i : Nat} {o : Oper} (ho : ops[i]? = some o)
    (hl0 : listed.getD i false = false) (he : ∀ e ∈ o.after, Region.binds .any e = true → listed.getD e.on false = true) {s : Nat} (hds : o.dst = some s) (hFs : F s = Fact.any) (hp : (P.all fun p => p.store != i) = true) :
    MInv ops F base N g P a0 w0 (listed.setIfInBounds i true) (a.put o.dst (.pointer (some ⟨w.heap.size, 0, none⟩))) (w.alloc (Obj.cells #[Value.slice none 0 0] 24)) := by
  obtain ⟨_, hd⟩ := formOk_at hok ho
  have hlt : i < listed.size := by rw [hs]; exact (Array.getElem?_eq_some_iff.1 ho).1
  have hb := one w (Obj.cells #[Value.slice none 0 0] 24)
  have hPs : ∀ p ∈ P, p.store ≠ i := fun p hm => by
    have := List.all_eq_true.1 hp p hm
    simpa using this
  obtain ⟨hsN, hsb, hsu⟩ := hd s hds
  have hnot : ∀ p ∈ P, p.slot = s → ¬ listed.getD p.store false = true := fun p hm hps hl => by
    have hlt2 : p.store < ops.size := by
      rcases Nat.lt_or_ge p.store listed.size with h1 | h1
      · rw [← hs]; exact h1
      · rw [Array.getD_eq_getD_getElem?, Array.getElem?_eq_none h1] at hl; cases hl
    have ho' : ops[p.store]? = some ops[p.store] := Array.getElem?_eq_getElem hlt2
    cases hobs p.store _ ho' with
    | plain h1 h2 => have := List.all_eq_true.1 h2 p hm; simp at this
    | alloc _ _ _ _ _ h2 => have := List.all_eq_true.1 h2 p hm; simp at this
    | store p' hm' hi' _ _ _ hk _ _ hu =>
      have h3 := List.all_eq_true.1 hu p hm
      simp at h3
      obtain ⟨e, hem, hb', hdst⟩ := known_op hk
      have h4 := h.closed _ _ ho' hl e hem hb'
      have h5 : e.on = i := by
        rcases Nat.lt_or_ge e.on e.on.succ with _ | _
        · by_cases h6 : e.on = i
          · exact h6
          · exfalso
            refine hsu e.on h6 ?_
            rw [hdst]
            congr 1
            rw [← h3.1]; exact hps
        · omega
      rw [h5, hl0] at h4
      cases h4
  have hput : (a.put o.dst (.pointer (some ⟨w.heap.size, 0, none⟩))).tmps.getD s undef = .pointer (some ⟨w.heap.size, 0, none⟩) := by
    rw [hds, getD_put_same (by rw [h.tsize]; exact hsN)]
  have hold : ∀ t, t ≠ s → (a.put o.dst (.pointer (some ⟨w.heap.size, 0, none⟩))).tmps.getD t undef = a.tmps.getD t undef := fun t ht => getD_put_other (by rw [hds]; intro e; injection e with e; exact ht e.symm)
  refine ⟨?_, ?_, fun t ht => ?_, fun j t hj hjt => ?_, fun t ht => ?_, h.below.trans (hb.mono h.gle), Nat.le_trans h.gle hb.size, fun p hm j hj hjd => ?_, h.closed' hs ho he, fun p hm q hq hne j k hj hjd hk hkd => ?_⟩
  · cases o.dst <;> simpa [Act.put] using h.tsize
  · cases o.dst <;> simpa [Act.put] using h.defers
  · rw [hold t (fun e => hsb (e ▸ ht))]
    exact (F t).stable _ _ _ (h.base t ht) hb
  · by_cases hts : t = s
    · subst hts
      rw [hFs]
      trivial
    · rw [hold t hts]
      refine (F t).stable _ _ _ (h.done j t (((set_listed hlt).1 hj).resolve_left ?_) hjt) hb
      rintro rfl
      rw [ho] at hjt
      exact hts (by have h5 : o.dst = some t := hjt; rw [hds] at h5; injection h5 with h5; exact h5.symm)
  · rw [hold t (by rintro rfl; exact ht i (by rw [ho]; exact hds))]
    exact h.other t ht
  · by_cases hps : p.slot = s
    · refine ⟨w.heap.size, none, 0, 0, by rw [hps]; exact hput, h.gle, by simp, new_soft _ _ _ _ rfl, new_cell _ _ _ _ rfl, fun hl => absurd (((set_listed hlt).1 hl).resolve_left (hPs p hm)) (hnot p hm hps)⟩
    · have hj' : listed.getD j false = true := ((set_listed hlt).1 hj).resolve_left (by
        rintro rfl
        rw [ho] at hjd
        have h5 : o.dst = some p.slot := hjd
        rw [hds] at h5; injection h5 with h5; exact hps h5.symm)
      obtain ⟨b, A, n, c, h1, h2, h3, h4, h5, h6⟩ := h.made p hm j hj' hjd
      exact ⟨b, A, n, c, by rw [hold _ hps]; exact h1, h2, Nat.lt_of_lt_of_le h3 hb.size, ((seen hb).2 _ _ h3).trans h4, ((seen hb).1 _ _ h3).trans h5, fun hl => (F _).stable _ _ _ (h6 (((set_listed hlt).1 hl).resolve_left (hPs p hm))) hb⟩
  · have hother : ∀ r ∈ P, r.slot ≠ s → ∀ j, (listed.setIfInBounds i true).getD j false = true → (ops[j]?).bind Oper.dst = some r.slot → listed.getD j false = true := fun r hr hrs j hj hjd => ((set_listed hlt).1 hj).resolve_left (by
        rintro rfl
        rw [ho] at hjd
        have h5 : o.dst = some r.slot := hjd
        rw [hds] at h5; injection h5 with h5; exact hrs h5.symm)
    have hfar : ∀ r ∈ P, r.slot ≠ s → ∀ j, (listed.setIfInBounds i true).getD j false = true → (ops[j]?).bind Oper.dst = some r.slot → a.tmps.getD r.slot undef ≠ .pointer (some ⟨w.heap.size, 0, none⟩) := fun r hr hrs j hj hjd => by
      obtain ⟨b, A, n, c, h1, h2, h3, _⟩ := h.made r hr j (hother r hr hrs j hj hjd) hjd
      rw [h1]
      intro e
      injection e with e
      injection e with e
      injection e with e
      omega
    by_cases hps : p.slot = s
    · have hqs : q.slot ≠ s := fun e => hne (hps.trans e.symm)
      rw [hps, hput, hold _ hqs]
      exact (hfar q hq hqs k hk hkd).symm
    · by_cases hqs : q.slot = s
      · rw [hqs, hput, hold _ hps]
        exact hfar p hm hps j hj hjd
      · rw [hold _ hps, hold _ hqs]
        exact h.apart p hm q hq hne j k (hother p hm hps j hj hjd) hjd (hother q hq hqs k hk hkd) hkd
theorem MInv.store (hsoft : ∀ t, (F t).Soft g) {a0 : Act} {w0 : World} {listed : Array Bool} {a : Act} {w : World} (h : MInv ops F base N g P a0 w0 listed a w) (hs : listed.size = ops.size) {i : Nat} {o : Oper} (ho : ops[i]? = some o)
    (he : ∀ e ∈ o.after, Region.binds .any e = true → listed.getD e.on false = true) {p : Made} (hm : p ∈ P) (hd : o.dst = none) (hu : (P.all fun q => (q.slot == p.slot && q.store == i && q.from_ == p.from_) || (q.slot != p.slot && q.store != i)) = true)
    {j : Nat} (hj : listed.getD j false = true) (hjd : (ops[j]?).bind Oper.dst = some p.slot) {b : Nat} {A A' : Option Addr} {n c n' c' : Nat} (h2 : g ≤ b) (h3 : b < w.heap.size) (hptr : a.tmps.getD p.slot undef = .pointer (some ⟨b, 0, none⟩)) (h5 : w.cell? ⟨b, 0, none⟩ = some (.slice A n c)) (hF : (F p.from_).holds (nt A' n' c') w) :
    MInv ops F base N g P a0 w0 (listed.setIfInBounds i true) a (w.setCell ⟨b, 0, none⟩ (.slice A' n' c')) := by
  have hlt : i < listed.size := by rw [hs]; exact (Array.getElem?_eq_some_iff.1 ho).1
  have hu' : ∀ q ∈ P, (q.slot = p.slot ∧ q.store = i ∧ q.from_ = p.from_) ∨ (q.slot ≠ p.slot ∧ q.store ≠ i) := fun q hq => by
    have := List.all_eq_true.1 hu q hq
    simpa [and_assoc] using this
  have hold : ∀ k d, (listed.setIfInBounds i true).getD k false = true → (ops[k]?).bind Oper.dst = some d → listed.getD k false = true := fun k d hk hkd => ((set_listed hlt).1 hk).resolve_left (by
    rintro rfl
    rw [ho] at hkd
    have h5 : o.dst = some d := hkd
    rw [hd] at h5; cases h5)
  refine ⟨h.tsize, h.defers, fun t ht => hsoft t _ _ _ _ _ _ _ _ _ h2 h5 (h.base t ht), fun k t hk hkt => hsoft t _ _ _ _ _ _ _ _ _ h2 h5 (h.done k t (hold k t hk hkt) hkt), h.other, h.below.setCell h2 _, by simpa using h.gle, fun q hq k hk hkd => ?_, h.closed' hs ho he, fun q hq r hr hne k m hk hkd hm' hmd => h.apart q hq r hr hne k m (hold k _ hk hkd) hkd (hold m _ hm' hmd) hmd⟩
  rcases hu' q hq with ⟨e1, e2, e3⟩ | ⟨e1, e2⟩
  · refine ⟨b, A', n', c', by rw [e1]; exact hptr, h2, by simpa using h3, ?_, ?_, fun _ => by rw [e3]; exact hsoft _ _ _ _ _ _ _ _ _ _ h2 h5 hF⟩
    · rw [World.frozen?_setCell]
      obtain ⟨b', _, _, _, k1, _, _, k4, _⟩ := h.made p hm j hj hjd
      rw [hptr] at k1
      injection k1 with k1; injection k1 with k1; injection k1 with k1
      rw [k1]; exact k4
    · exact World.cell?_setCell_same (u := _) _ _ _ h5
  · obtain ⟨b', A1, n1, c1, k1, k2, k3, k4, k5, k6⟩ := h.made q hq k (hold k _ hk hkd) hkd
    have hne : b' ≠ b := by
      rintro rfl
      exact h.apart q hq p hm e1 k j (hold k _ hk hkd) hkd hj hjd (k1.trans hptr.symm)
    refine ⟨b', A1, n1, c1, k1, k2, by simpa using k3, by rw [World.frozen?_setCell]; exact k4, ?_, fun hl => hsoft _ _ _ _ _ _ _ _ _ _ h2 h5 (k6 (((set_listed hlt).1 hl).resolve_left e2))⟩
    rw [World.cell?_setCell_other _ _ _ _ (by intro e; injection e; omega)]
    exact k5
theorem run_alloc24 {o : Oper} (ho : o.op = .alloc 24) (a : Act) (w : World) : (execOp a.eval o).run Tryd.prog w = .ok (.value (.pointer (some ⟨w.heap.size, 0, none⟩))) (w.alloc (Obj.cells #[Value.slice none 0 0] 24)) := by
  simp [execOp, ho]
  go_simp
theorem run_store24 {o : Oper} {s f : Nat} (ho : o.op = .store 24 (.tmp s) (.tmp f)) (a : Act) (w : World) {b : Nat} {A A' : Option Addr} {n c n' c' : Nat} (h1 : a.tmps.getD s undef = .pointer (some ⟨b, 0, none⟩)) (h2 : a.tmps.getD f undef = nt A' n' c') (h3 : w.cell? ⟨b, 0, none⟩ = some (.slice A n c)) (h4 : w.frozen? ⟨b, 0, none⟩ = false) :
    (execOp a.eval o).run Tryd.prog w = .ok .skip (w.setCell ⟨b, 0, none⟩ (.slice A' n' c')) := by
  have k1 : a.eval (.tmp s) = .pointer (some ⟨b, 0, none⟩) := h1
  have k2 : a.eval (.tmp f) = nt A' n' c' := h2
  simp [execOp, ho, k1, k2]
  go_simp
theorem MInv.step (hok : formOk ops base N = true) (hsoft : ∀ t, (F t).Soft g) (hobs : ∀ j o', ops[j]? = some o' → MOb ops F base N P Q j o') {a0 : Act} {w0 : World} {listed : Array Bool} {a : Act} {w : World} (h : MInv ops F base N g P a0 w0 listed a w) (hs : listed.size = ops.size) {i : Nat} {o : Oper} (ho : ops[i]? = some o)
    (hl0 : listed.getD i false = false) (he : ∀ e ∈ o.after, Region.binds .any e = true → listed.getD e.on false = true) (K : Act → World → Prop) (hK : ∀ a' w', MInv ops F base N g P a0 w0 (listed.setIfInBounds i true) a' w' → K a' w') :
    (if Region.wanted o (yielded ops a.tmps) = true then Oper.wp Tryd.prog o a w K Q else K (a.put o.dst undef) w) := by
  have hdone : ∀ e ∈ o.after, Region.binds .any e = true → ∀ t, (ops[e.on]?).bind Oper.dst = some t → (F t).holds (a.tmps.getD t undef) w := fun e hm hb t ht => h.done e.on t (he e hm hb) ht
  cases hobs i o ho with
  | plain hob hp => exact hob a w K h.tsize h.base hdone fun v w' hb hF => hK _ _ (h.plain hok hs ho he hp hb hF)
  | alloc s hop hd hg hF hp =>
    rw [if_pos (by simp [Region.wanted, hg])]
    unfold Oper.wp
    rw [run_alloc24 hop]
    exact hK _ _ (h.alloc hok hobs hs ho hl0 he hd hF hp)
  | store p hm hi hop hd hg hk hk2 hn hu =>
    rw [if_pos (by simp [Region.wanted, hg])]
    obtain ⟨e, hem, heb, hed⟩ := known_op hk
    obtain ⟨b, A, n, c, h1, h2, h3, h4, h5, _⟩ := h.made p hm e.on (he e hem heb) hed
    have hf := known_fact h.base hdone hk2
    obtain ⟨A', n', c', hv⟩ := hn _ _ hf
    unfold Oper.wp
    rw [run_store24 hop a w h1 hv h5 h4]
    have hput : a.put o.dst undef = a := by rw [hd]; rfl
    show K (a.put o.dst undef) _
    rw [hput]
    exact hK _ _ (h.store hsoft hs ho he hm hd hu (he e hem heb) hed h2 h3 h1 h5 (hv ▸ hf))
end
end Go.Proofs.YtjfehdkfogdpgaaDoor
namespace Go.Proofs.YtjfehdkfogdpgaaDoor
open Go.RowKit
def RGcdRel (b G : Nat) (w : World) (gk : Nat) (wr : World) : Prop :=
  ∃ (A B : Option Addr) (n m c d : Nat) (X Y : List Nat), Var wr b A n c X ∧ Var wr (b + 1) B m d Y ∧ wr.frozen? ⟨b, 0, none⟩ = false ∧ wr.frozen? ⟨b + 1, 0, none⟩ = false ∧ wr.cell? ⟨b + 1 + 1, 0, none⟩ = some (.slice none 0 0) ∧ wr.frozen? ⟨b + 1 + 1, 0, none⟩ = false ∧ b + 1 + 1 < wr.heap.size ∧
    Hid (Nm.nat (Nm.val X) = X) ∧ Hid (Nm.nat (Nm.val Y) = Y) ∧ n ≤ 300 ∧ m ≤ 300 ∧ Hid (Nat.gcd (Nm.val X) (Nm.val Y) = G) ∧ Hid (gk = Nm.val Y) ∧ Below w.heap.size w wr
theorem Var.drew {w : World} {b n c : Nat} {A : Option Addr} {zs : List Nat} (h : Var w b A n c zs) : Var w.drew b A n c zs := ⟨h.lt, h.cell, num_drew h.num⟩
theorem Nm.tlen_of {zs : List Nat} (h : Nm.nat (Nm.val zs) = zs) : Nm.tlen zs = zs.length := by
  have := Nm.tlen_nat (Nm.val zs)
  rwa [h] at this
set_option maxRecDepth 100000 in
set_option maxHeartbeats 2000000 in
theorem refGcd_n {w : World} {A B : Option Addr} {n m c d : Nat} {xs ys : List Nat} (hx : Num w A n c xs) (hy : Num w B m d ys) (hn : n ≤ 300) (hm : m ≤ 300) (hex : Nm.nat (Nm.val xs) = xs) (hey : Nm.nat (Nm.val ys) = ys) (rs : List Nat) (hr : Nm.nat (Nat.gcd (Nm.val xs) (Nm.val ys)) = rs) :
    Calls Tryd.prog 35 #[nt A n c, nt B m d] w fun e w' => ∃ A' c', e = .returned (nt A' rs.length c') ∧ Num w' A' rs.length c' rs ∧ Below w.heap.size w w' := by
  subst hr
  obtain ⟨G, hG⟩ : ∃ G, Nat.gcd (Nm.val xs) (Nm.val ys) = G := ⟨_, rfl⟩
  rw [hG]
  obtain ⟨V0, hV0⟩ : ∃ V0, Nm.val ys = V0 := ⟨_, rfl⟩
  have hb := three w (Obj.cells #[Value.slice A n c] 24) (Obj.cells #[Value.slice B m d] 24) (Obj.cells #[Value.slice none 0 0] 24)
  have hfirst : RGcdRel w.heap.size G w V0 (((w.alloc (Obj.cells #[Value.slice A n c] 24)).alloc (Obj.cells #[Value.slice B m d] 24)).alloc (Obj.cells #[Value.slice none 0 0] 24)) := by
    refine ⟨A, B, n, m, c, d, xs, ys, (Var.new hx).below (two _ _ _), (Var.at_ (hy.below (one _ _)) (by simp)).below (one _ _), ?_, ?_, new_cell _ _ _ _ (by simp), new_soft _ _ _ _ (by simp), by simp, hex, hey, hn, hm, hG, hV0.symm, hb⟩
    · exact ((seen (two (w.alloc (Obj.cells #[Value.slice A n c] 24)) _ _)).2 _ _ (by simp)).trans (new_soft _ _ _ _ rfl)
    · exact ((seen (one ((w.alloc (Obj.cells #[Value.slice A n c] 24)).alloc (Obj.cells #[Value.slice B m d] 24)) _)).2 _ _ (by simp)).trans (new_soft _ _ _ _ (by simp))
  have Hfirst := Lib.hid hfirst
  clear hfirst hb hV0 hG hex hey hx hy
  go_enter Tryd.func35, Tryd.ntmps35
  go_wp2_with fail
  go_loopg [7] V0 (fun gk _ wr => RGcdRel w.heap.size G w gk wr)
  case atStart => exact Hfirst.out
  case round =>
    obtain ⟨A1, B1, n1, m1, c1, d1, X, Y, vx, vy, fx, fy, cz, fz, hz, hex, hey, hn1, hm1, hg, hgk, hb⟩ := hrel
    obtain rfl := vx.num.len
    obtain rfl := vy.num.len
    have kx := vx.cell
    have ky := vy.cell
    rcases Nat.eq_zero_or_pos Y.length with h0 | h0
    · have hfin : Nm.nat G = X := by
        have h1 := hg.out
        rw [List.eq_nil_of_length_eq_zero h0] at h1
        have h2 : Nat.gcd (Nm.val X) 0 = G := h1
        rw [Nat.gcd_zero_right] at h2
        rw [← h2, hex.out]
      have Hf := Lib.hid hfin
      have hy0 : ¬ (0 : Int) < (Y.length : Int) := by omega
      clear hfin
      go_wp2_with fail
      refine bodyPost_ret (v := nt A1 X.length c1) (by simp [results, Tryd.results35, go_sem, cz]) rfl ⟨A1, c1, by rw [Hf.out], ?_, hb.setCell (by show w.heap.size ≤ w.heap.size + 1 + 1; omega) _⟩
      rw [Hf.out]
      exact ⟨vx.num.rd.setCell cz (by simp), rfl, vx.num.cap, vx.num.dig, vx.num.small⟩
    · have hY0 : (0 : Int) < (Y.length : Int) := by omega
      have hcall := fun V (h1 : Num V A1 X.length c1 X) (h2 : Num V B1 Y.length d1 Y) => refDivMod_n h1 h2 hn1 hm1 (Nm.tlen_of hex.out) (Nm.tlen_of hey.out) h0 (Nm.nat (Nm.val X / Nm.val Y)) (Nm.nat (Nm.val X % Nm.val Y)) rfl rfl
      have Hcall := Lib.hid hcall
      clear hcall
      go_wp2_with fail
      refine (Hcall.out _ vx.num vy.num).mono ?_
      rintro e w2 ⟨A2, c2, A3, c3, rfl, n2, n3, hs⟩
      have h2 := two w2 (Obj.cells #[Value.slice A2 (Nm.nat (Nm.val X / Nm.val Y)).length c2] 24) (Obj.cells #[Value.slice A3 (Nm.nat (Nm.val X % Nm.val Y)).length c3] 24)
      have fx := ((seen hs).2 _ 0 vx.lt).trans fx
      have fy := ((seen hs).2 _ 0 vy.lt).trans fy
      have cz := ((seen hs).1 _ 0 hz).trans cz
      have fz := ((seen hs).2 _ 0 hz).trans fz
      have vx := vx.below hs
      have vy := vy.below hs
      have hz : w.heap.size + 1 + 1 < w2.heap.size := by have := hs.size; omega
      have kx := vx.cell
      have ky := vy.cell
      have hlt1 := vx.lt
      have hlt2 := vy.lt
      clear h2 n2
      go_wp2_with fail
      go_region
      have hK := ‹∀ (a' : Act) (w' : World), Handed _ gk a' w' → _›
      refine hK _ _ ?_
      clear hK
      go_roundg (Nm.val X % Nm.val Y)
      case measure =>
        have := hgk.out
        have h1 := Nm.tlen_pos_val (zs := Y) (by rw [Nm.tlen_of hey.out]; exact h0)
        have h3 : 0 < 4294967296 ^ (Nm.tlen Y - 1) := Nat.pow_pos (by decide)
        have := Nat.mod_lt (Nm.val X) (show 0 < Nm.val Y by omega)
        omega
      case rel =>
        have m3 : Num (w2.setCell ⟨w.heap.size, 0, none⟩ (.slice B1 Y.length d1)) A3 (Nm.nat (Nm.val X % Nm.val Y)).length c3 (Nm.nat (Nm.val X % Nm.val Y)) := ⟨n3.rd.setCell kx (by simp), rfl, n3.cap, n3.dig, n3.small⟩
        have ux := (vx.put vy.num).other (b' := w.heap.size + 1) (u := .slice B1 Y.length d1) (v := .slice A3 (Nm.nat (Nm.val X % Nm.val Y)).length c3) (by rw [World.cell?_setCell_other _ _ _ _ (by intro e; injection e; omega)]; exact ky) (by simp) (by omega)
        have uy := (vy.other (b' := w.heap.size) (v := .slice B1 Y.length d1) kx (by simp) (by omega)).put m3
        have h3 := two ((w2.setCell ⟨w.heap.size, 0, none⟩ (.slice B1 Y.length d1)).setCell ⟨w.heap.size + 1, 0, none⟩ (.slice A3 (Nm.nat (Nm.val X % Nm.val Y)).length c3)) (Obj.cells #[Value.slice A2 (Nm.nat (Nm.val X / Nm.val Y)).length c2] 24) (Obj.cells #[Value.slice A3 (Nm.nat (Nm.val X % Nm.val Y)).length c3] 24)
        have hsz3 := h3.size
        refine ⟨B1, A3, Y.length, _, d1, c3, Y, Nm.nat (Nm.val X % Nm.val Y), (ux.below h3).drew, (uy.below h3).drew, ?_, ?_, ?_, ?_, ?_, hey, ?_, hm1, ?_, ?_, ?_, ?_⟩
        · exact ((seen h3).2 _ 0 ux.lt).trans (by rw [World.frozen?_setCell, World.frozen?_setCell]; exact fx)
        · exact ((seen h3).2 _ 0 uy.lt).trans (by rw [World.frozen?_setCell, World.frozen?_setCell]; exact fy)
        · exact ((seen h3).1 _ 0 (by simpa using hz)).trans (by rw [World.cell?_setCell_other _ _ _ _ (by intro e; injection e; omega), World.cell?_setCell_other _ _ _ _ (by intro e; injection e; omega)]; exact cz)
        · exact ((seen h3).2 _ 0 (by simpa using hz)).trans (by rw [World.frozen?_setCell, World.frozen?_setCell]; exact fz)
        · show w.heap.size + 1 + 1 < _
          simp
          omega
        · show _ = _
          rw [Nm.val_nat]
        · exact Nat.le_trans (Nm.nat_len_le' vx.num.dig (Nat.mod_le _ _)) hn1
        · show _ = _
          rw [Nm.val_nat, ← hg.out, Nat.gcd_comm (Nm.val X), Nat.gcd_rec (Nm.val Y) (Nm.val X), Nat.gcd_comm]
        · show _ = _
          rw [Nm.val_nat]
        · exact (((((up hb hs).setCell (Nat.le_refl _) _).setCell (by show w.heap.size ≤ w.heap.size + 1; omega) _).trans (h3.mono (by have := hb.size; have := hs.size; simp; omega)))).drew
end Go.Proofs.YtjfehdkfogdpgaaDoor
namespace Go.Proofs.YtjfehdkfogdpgaaDoor
open Go.RowKit
theorem Nm.Sz.gcd {k a b : Nat} (h : Nm.Sz k a) (h' : Nm.Sz k b) : Nm.Sz k (Nat.gcd a b) := by
  rcases Nat.eq_zero_or_pos a with h0 | h0
  · subst h0
    rw [Nat.gcd_zero_left]; exact h'
  · exact h.mono (Nat.gcd_le_left _ h0)
theorem c_refGcd (xs ys rs : List Nat) (hex : Nm.nat (Nm.val xs) = xs) (hey : Nm.nat (Nm.val ys) = ys) (hn : xs.length ≤ 300) (hm : ys.length ≤ 300) (hr : Nm.nat (Nat.gcd (Nm.val xs) (Nm.val ys)) = rs) : ∀ v u w, (Fact.num xs).holds v w → (Fact.num ys).holds u w → Calls Tryd.prog 35 #[v, u] w (Ret (Fact.num rs) w) := by
  rintro v u w ⟨A, c, rfl, h⟩ ⟨B, d, rfl, k⟩
  exact (refGcd_n h k hn hm hex hey rs hr).mono fun e w' ⟨A', c', he, hn, hb⟩ => ⟨_, he, hb, A', c', rfl, hn⟩
theorem go_not (b : Bool) (a : Act) (w : World) (t : Nat) (o : Oper) (ho : o.op = .unOp .not 4 (.tmp t)) (h1 : a.eval (.tmp t) = .bool b) : (execOp a.eval o).run Tryd.prog w = .ok (.value (.bool (!b))) w := by
  simp [execOp, ho, h1]
  go_simp
section
variable {ops : Array Oper} {Q : Exit → Act → World → Prop} {F : Nat → Fact} {base : List Nat} {N : Nat} {o : Oper}
end
end Go.Proofs.YtjfehdkfogdpgaaDoor
namespace Go.Proofs.YtjfehdkfogdpgaaDoor
open Go.RowKit
section
variable (ops : Array Oper) (val : Nat → Value) (base : List Nat) (N : Nat) (J : World → Prop)
structure KInv (a0 : Act) (listed : Array Bool) (a : Act) (w : World) : Prop where
  tsize : a.tmps.size = N
  defers : a.defers = a0.defers
  base : ∀ t ∈ base, a.tmps.getD t undef = val t
  done : ∀ (i t : Nat), listed.getD i false = true → (ops[i]?).bind Oper.dst = some t → a.tmps.getD t undef = val t
  other : ∀ (t : Nat), (∀ (i : Nat), (ops[i]?).bind Oper.dst ≠ some t) → a.tmps.getD t undef = a0.tmps.getD t undef
  keeps : J w
def KOb (o : Oper) : Prop := o.guard = none ∧ ∀ (a : Act) (w : World), J w → (∀ t, known ops base o t = true → a.tmps.getD t undef = val t) →
  (∃ d w', o.dst = some d ∧ (execOp a.eval o).run Tryd.prog w = .ok (.value (val d)) w' ∧ J w') ∨ (∃ w', o.dst = none ∧ (execOp a.eval o).run Tryd.prog w = .ok .skip w' ∧ J w')
end
theorem KInv.step {ops : Array Oper} {val : Nat → Value} {base : List Nat} {N : Nat} {J : World → Prop} {Q : Exit → Act → World → Prop} (hok : formOk ops base N = true) {a0 : Act} {listed : Array Bool} {a : Act} {w : World} (h : KInv ops val base N J a0 listed a w) (hs : listed.size = ops.size) {i : Nat} {o : Oper} (ho : ops[i]? = some o)
    (hob : KOb ops val base J o) (he : ∀ e ∈ o.after, Region.binds .any e = true → listed.getD e.on false = true) (K : Act → World → Prop) (hK : ∀ a' w', KInv ops val base N J a0 (listed.setIfInBounds i true) a' w' → K a' w') :
    (if Region.wanted o (yielded ops a.tmps) = true then Oper.wp Tryd.prog o a w K Q else K (a.put o.dst undef) w) := by
  obtain ⟨hg, hrun⟩ := hob
  obtain ⟨_, hd⟩ := formOk_at hok ho
  have hlt : i < listed.size := by rw [hs]; exact (Array.getElem?_eq_some_iff.1 ho).1
  rw [if_pos (by simp [Region.wanted, hg])]
  have hk : ∀ t, known ops base o t = true → a.tmps.getD t undef = val t := fun t hkt => by
    unfold known at hkt
    rw [Bool.or_eq_true] at hkt
    rcases hkt with hkt | hkt
    · exact h.base t (List.contains_iff_mem.1 hkt)
    · obtain ⟨e, hem, h1⟩ := Array.any_eq_true'.1 hkt
      simp only [Bool.and_eq_true, beq_iff_eq] at h1
      exact h.done e.on t (he e hem h1.1) h1.2
  rcases hrun a w h.keeps hk with ⟨d, w', hdd, hr, hJ⟩ | ⟨w', hdd, hr, hJ⟩
  · unfold Oper.wp
    rw [hr]
    refine hK (a.put o.dst (val d)) w' ⟨?_, ?_, fun t ht => ?_, fun j t hj hjt => ?_, fun t ht => ?_, hJ⟩
    · cases o.dst <;> simpa [Act.put] using h.tsize
    · cases o.dst <;> simpa [Act.put] using h.defers
    · rw [getD_put_other (fun e => (hd t e).2.1 ht)]
      exact h.base t ht
    · by_cases hji : j = i
      · subst hji
        rw [ho] at hjt
        have hjt' : o.dst = some t := hjt
        have hdt : d = t := by rw [hdd] at hjt'; injection hjt'
        subst hdt
        rw [hjt', getD_put_same (by rw [h.tsize]; exact (hd d hjt').1)]
      · rw [getD_put_other (fun e => (hd t e).2.2 j hji hjt)]
        exact h.done j t (((set_listed hlt).1 hj).resolve_left hji) hjt
    · rw [getD_put_other (fun e => ht i (by rw [ho]; exact e))]
      exact h.other t ht
  · have hput : a.put o.dst undef = a := by rw [hdd]; rfl
    unfold Oper.wp
    rw [hr]
    show K (a.put o.dst undef) _
    rw [hput]
    refine hK a w' ⟨h.tsize, h.defers, h.base, fun j t hj hjt => ?_, h.other, hJ⟩
    refine h.done j t (((set_listed hlt).1 hj).resolve_left ?_) hjt
    rintro rfl
    rw [ho] at hjt
    have h5 : o.dst = some t := hjt
    rw [hdd] at h5
    cases h5
def Ints (G : Nat) (w : World) (A : Option Addr) (n : Nat) : Prop := ∃ zs : List Nat, zs.length = n ∧ Fr G w A zs
theorem Ints.set {G : Nat} {w : World} {A : Option Addr} {n : Nat} (h : Ints G w A n) {p : Addr} {z : Int} (x : Nat) (hc : w.cell? p = some (.int .u32 z)) : Ints G (w.setCell p (.int .u32 (x : Int))) A n := by
  obtain ⟨zs, rfl, hf⟩ := h
  rcases hf with rfl | ⟨g, off, hA, hg, ho⟩
  · exact ⟨[], rfl, .inl rfl⟩
  · refine ⟨(List.range zs.length).map fun i => if p = ⟨g, off + i, none⟩ then x else zs.getD i 0, by simp, .inr ⟨g, off, hA, hg, fun i hi => ?_, fun i hi => by rw [World.frozen?_setCell]; exact ho.2 i (by simpa using hi)⟩⟩
    have hi' : i < zs.length := by simpa using hi
    by_cases hp : p = ⟨g, off + i, none⟩
    · subst hp
      rw [World.cell?_setCell_same (u := _) _ _ _ hc]
      simp
    · rw [World.cell?_setCell_other _ _ _ _ (by first | exact fun e => hp e.symm | exact hp), ho.1 i hi']
      simp [hp, hi']
structure Vc (w : World) (b : Nat) (A : Option Addr) (n c : Nat) : Prop where
  lt : b < w.heap.size
  cell : w.cell? ⟨b, 0, none⟩ = some (.slice A n c)
theorem Vc.set {w : World} {b n c : Nat} {A : Option Addr} (h : Vc w b A n c) {p : Addr} {z : Int} {u : Value} (hc : w.cell? p = some (.int .u32 z)) : Vc (w.setCell p u) b A n c := by
  refine ⟨by simpa using h.lt, ?_⟩
  rw [World.cell?_setCell_other]
  · exact h.cell
  · rintro rfl
    rw [h.cell] at hc
    cases hc
structure Ent where
  b : Nat
  A : Option Addr
  c : Nat
def KJ (G n : Nat) (wv : World) (es : List Ent) (w : World) : Prop := Below G wv w ∧ ∀ e ∈ es, Vc w e.b e.A n e.c ∧ Ints G w e.A n
theorem KJ.drew {G n : Nat} {wv w : World} {es : List Ent} (h : KJ G n wv es w) : KJ G n wv es w.drew := ⟨h.1.drew, fun e he => ⟨⟨(h.2 e he).1.lt, (h.2 e he).1.cell⟩, (h.2 e he).2⟩⟩
theorem KJ.set {G n : Nat} {wv w : World} {es : List Ent} (h : KJ G n wv es w) {g o : Nat} {z : Int} (x : Nat) (hg : G ≤ g) (hc : w.cell? ⟨g, o, none⟩ = some (.int .u32 z)) : KJ G n wv es (w.setCell ⟨g, o, none⟩ (.int .u32 (x : Int))) :=
  ⟨h.1.setCell hg _, fun e he => ⟨(h.2 e he).1.set hc, (h.2 e he).2.set x hc⟩⟩
section
variable {ops : Array Oper} {val : Nat → Value} {base : List Nat} {G n : Nat} {wv : World} {es : List Ent} {o : Oper}
end
end Go.Proofs.YtjfehdkfogdpgaaDoor
namespace Go.Proofs.YtjfehdkfogdpgaaDoor
open Go.RowKit
theorem num_nil (w : World) : Num w none 0 0 [] := ⟨.inl rfl, rfl, Nat.le_refl _, Nm.Dig.nil, by decide⟩
section
variable {ops : Array Oper} {Q : Exit → Act → World → Prop} {F : Nat → Fact} {base : List Nat} {N : Nat} {o : Oper}
end
end Go.Proofs.YtjfehdkfogdpgaaDoor
namespace Go.Proofs.YtjfehdkfogdpgaaDoor
open Go.RowKit
theorem info26 : (Tryd.prog.info? 28).map (·.size) = some 3 := by kernel_rfl
theorem info24 : (Tryd.prog.info? 24).map (·.size) = some 1 := by kernel_rfl
theorem row26 : ∃ dd, Tryd.prog.underlying 28 = some dd ∧ dd.isRow = true := ⟨_, Tryd.underlying28, rfl⟩
theorem row24 : ∃ dd, Tryd.prog.underlying 24 = some dd ∧ dd.isRow = true := ⟨_, Tryd.underlying24, rfl⟩
theorem field26_0 (w : World) (b o : Nat) : (Instr.fieldAt 28 (.pointer (some ⟨b, o, none⟩)) 0).run Tryd.prog w = .ok (.pointer (some ⟨b, o + 0, none⟩)) w := by go_simp
theorem field26_1 (w : World) (b o : Nat) : (Instr.fieldAt 28 (.pointer (some ⟨b, o, none⟩)) 1).run Tryd.prog w = .ok (.pointer (some ⟨b, o + 1, none⟩)) w := by go_simp
theorem field26_2 (w : World) (b o : Nat) : (Instr.fieldAt 28 (.pointer (some ⟨b, o, none⟩)) 2).run Tryd.prog w = .ok (.pointer (some ⟨b, o + 2, none⟩)) w := by go_simp
theorem load4 (u : Bool) (w : World) (b o : Nat) (h : w.cell? ⟨b, o, none⟩ = some (.bool u)) : (Instr.loadAt 4 (.pointer (some ⟨b, o, none⟩))).run Tryd.prog w = .ok (.bool u) w := by go_simp
theorem alloc26 (w : World) : (Instr.alloc 28 true (.tuple #[])).run Tryd.prog w = .ok (.pointer (some ⟨w.heap.size, 0, none⟩)) (w.alloc (Obj.cells #[.bool false, .slice none 0 0, .slice none 0 0] 28)) := by go_simp
theorem alloc24 (w : World) : (Instr.alloc 24 true (.tuple #[])).run Tryd.prog w = .ok (.pointer (some ⟨w.heap.size, 0, none⟩)) (w.alloc (Obj.cells #[.slice none 0 0] 24)) := by go_simp
theorem build26 (w : World) (s : Bool) (A B : Option Addr) (n m c d : Nat) : (Instr.build 28 #[(0, .bool s), (1, nt A n c), (2, nt B m d)]).run Tryd.prog w = .ok (.agg #[.bool s, .slice A n c, .slice B m d]) w := by go_simp
theorem build26_zero (w : World) : (Instr.build 28 #[]).run Tryd.prog w = .ok (.agg #[.bool false, .slice none 0 0, .slice none 0 0]) w := by go_simp
theorem build48 (w : World) (s z : Bool) : (Instr.build 59 #[(0, .bool s), (1, .bool z)]).run Tryd.prog w = .ok (.agg #[.bool s, .bool z]) w := by go_simp
theorem buildNats2 (w : World) (A B : Option Addr) (n m c d : Nat) : (Instr.buildSlice 82 2 #[(0, nt A n c), (1, nt B m d)]).run Tryd.prog w = .ok (.slice (some ⟨w.heap.size, 0, none⟩) 2 2) (w.alloc (Obj.cells #[.slice A n c, .slice B m d] 24)) := by go_simp
theorem nn_val (n : Nat) : Nm.val (Nm.nat n) = n := Nm.val_nat n
theorem Fact.ret_nn {k n : Nat} {w w' : World} {e : Ending} (h : Ret (Fact.num (Nm.nat n)) w e w') (hz : Nm.Sz k n) : Ret (Fact.nn k n) w e w' := by
  obtain ⟨u, he, hb, hr⟩ := h
  exact ⟨u, he, hb, Fact.num_nn hr hz⟩
theorem n_mul (k l p q : Nat) (h : k + l ≤ 400) : ∀ v u w, (Fact.nn k p).holds v w → (Fact.nn l q).holds u w → Calls Tryd.prog 64 #[v, u] w (Ret (Fact.nn (k + l) (p * q)) w) := by
  intro v u w hv hu
  obtain ⟨hv, zv⟩ := Fact.nn_num hv
  obtain ⟨hu, zu⟩ := Fact.nn_num hu
  exact (c_mul _ _ (Nm.nat (p * q)) (by rw [nn_val, nn_val]) ((zv.mul zu).len h) v u w hv hu).mono fun _ _ h => Fact.ret_nn h (zv.mul zu)
theorem n_addr (k l r p q : Nat) (hk : k ≤ r) (hl : l ≤ r) (h : r + 1 ≤ 400) : ∀ v u w, (Fact.nn k p).holds v w → (Fact.nn l q).holds u w → Calls Tryd.prog 44 #[v, u] w (Ret (Fact.nn (r + 1) (p + q)) w) := by
  intro v u w hv hu
  obtain ⟨hv, zv⟩ := Fact.nn_num hv
  obtain ⟨hu, zu⟩ := Fact.nn_num hu
  have z : Nm.Sz (r + 1) (p + q) := (zv.up hk).add (zu.up hl) (Nat.le_refl _)
  exact (c_add _ _ (Nm.nat (p + q)) (by rw [nn_val, nn_val]) (z.len (by omega)) v u w hv hu).mono fun _ _ h => Fact.ret_nn h z
theorem n_sub (k l p q : Nat) (h : k ≤ 400) : ∀ v u w, (Fact.nn k p).holds v w → (Fact.nn l q).holds u w → Calls Tryd.prog 45 #[v, u] w (Ret (Fact.two (Fact.nn k (p - q)) (Fact.eq (.bool (decide (q ≤ p))))) w) := by
  intro v u w hv hu
  obtain ⟨⟨A, c, rfl, hx⟩, zv⟩ := Fact.nn_num hv
  obtain ⟨⟨B, d, rfl, hy⟩, zu⟩ := Fact.nn_num hu
  have z : Nm.Sz k (p - q) := zv.mono (Nat.sub_le _ _)
  refine (sub_n hx hy (Nm.nat (p - q)) (decide (q ≤ p)) (by rw [nn_val, nn_val]) (by rw [nn_val, nn_val])).mono fun e w' ⟨A', c', he, hc, hf, hb⟩ => ⟨_, he, hb, _, _, rfl, ?_, rfl⟩
  exact Fact.num_nn (num_of_fr hf hc (Nm.dig_nat _) (z.len h)) z
theorem gcd_sz_right {l p q : Nat} (hq : Nm.Sz l q) (h0 : q ≠ 0) : Nm.Sz l (Nat.gcd p q) := hq.mono (Nat.gcd_le_right _ (by omega))
theorem tlen_sz {k n : Nat} (h : Nm.Sz k n) (hk : k ≤ 400) : Nm.tlen (Nm.nat n) ≤ 400 := by
  rw [Nm.tlen_nat]; exact h.len hk
theorem n_gcd (k l p q : Nat) (h0 : q ≠ 0) (h : l ≤ 400) : ∀ v u w, (Fact.nn k p).holds v w → (Fact.nn l q).holds u w → Calls Tryd.prog 39 #[v, u] w (Ret (Fact.nn l (Nat.gcd p q)) w) := by
  intro v u w hv hu
  obtain ⟨hv, zv⟩ := Fact.nn_num hv
  obtain ⟨hu, zu⟩ := Fact.nn_num hu
  have z := gcd_sz_right (p := p) zu h0
  exact (c_gcd 900 divOk_all _ _ (Nm.nat (Nat.gcd p q)) (by have := tlen_sz zu h; omega) (by rw [nn_val, nn_val]) (z.len h) v u w hv hu).mono fun _ _ h => Fact.ret_nn h z
theorem tlen_pos {n : Nat} (h : n ≠ 0) : 0 < Nm.tlen (Nm.nat n) := by
  rw [Nm.tlen_nat]
  rcases Nat.eq_zero_or_pos (Nm.nat n).length with h1 | h1
  · exact absurd ((Nm.nat_nil_iff n).1 (List.eq_nil_of_length_eq_zero h1)) h
  · exact h1
theorem n_divMod (k l p q : Nat) (h0 : q ≠ 0) (hk : k ≤ 400) (h : l ≤ 400) : ∀ v u w, (Fact.nn k p).holds v w → (Fact.nn l q).holds u w → Calls Tryd.prog 51 #[v, u] w (Ret (Fact.three (Fact.nn k (p / q)) (Fact.nn l (p % q)) (Fact.eq (.int .i64 0))) w) := by
  intro v u w hv hu
  obtain ⟨⟨A, c, rfl, hx⟩, zv⟩ := Fact.nn_num hv
  obtain ⟨⟨B, d, rfl, hy⟩, zu⟩ := Fact.nn_num hu
  have z1 : Nm.Sz k (p / q) := zv.mono (Nat.div_le_self _ _)
  have z2 : Nm.Sz l (p % q) := zu.mono (Nat.le_of_lt (Nat.mod_lt _ (by omega)))
  refine (divMod_n 900 divOk_all hx hy (tlen_pos h0) (by have := tlen_sz zu h; omega) (Nm.nat (p / q)) (Nm.nat (p % q)) (by rw [nn_val, nn_val]) (by rw [nn_val, nn_val])).mono fun e w' ⟨A1, c1, A2, c2, he, hc1, hc2, hf1, hf2, hb⟩ => ⟨_, he, hb, _, _, _, rfl, ?_, ?_, rfl⟩
  · exact Fact.num_nn (num_of_fr hf1 hc1 (Nm.dig_nat _) (z1.len hk)) z1
  · exact Fact.num_nn (num_of_fr hf2 hc2 (Nm.dig_nat _) (z2.len h)) z2
theorem n_bits (k p : Nat) (z : Int) (hz : (Nm.blen p : Int) = z) : ∀ v w, (Fact.nn k p).holds v w → Calls Tryd.prog 55 #[v] w (Ret (Fact.eq (.int .i64 z)) w) := by
  intro v w hv
  exact c_bits _ _ z (by rw [nn_val]) hz v w (Fact.nn_num hv).1
theorem of_sz {n : Nat} (h : n < 18446744073709551616) : Nm.Sz 2 n := by unfold Nm.Sz; omega
theorem n_of (k n : Nat) (h : n < 18446744073709551616) (hz : Nm.Sz k n) (hk : k ≤ 400) : ∀ w, Calls Tryd.prog 27 #[.int .u64 n] w (Ret (Fact.nn k n) w) := fun _ =>
  (of_n n (Nm.nat n) h rfl).mono fun _ _ ⟨_, _, he, hc, hf, hb⟩ => ⟨_, he, hb, Fact.num_nn (num_of_fr hf hc (Nm.dig_nat _) (hz.len hk)) hz⟩
end Go.Proofs.YtjfehdkfogdpgaaDoor
namespace Go.Proofs.YtjfehdkfogdpgaaDoor
open Go.RowKit
def Con.sgn (s z : Bool) : Con := (Con.bool s).app (Con.bool z)
theorem info48 : (Tryd.prog.info? 59).map (·.size) = some 2 := by kernel_rfl
theorem row48 : ∃ dd, Tryd.prog.underlying 59 = some dd ∧ dd.isRow = true := ⟨_, Tryd.underlying59, rfl⟩
theorem alloc48 (w : World) : (Instr.alloc 59 true (.tuple #[])).run Tryd.prog w = .ok (.pointer (some ⟨w.heap.size, 0, none⟩)) (w.alloc (Obj.cells #[.bool false, .bool false] 59)) := by go_simp
theorem field24_0 (w : World) (b o : Nat) : (Instr.fieldAt 24 (.pointer (some ⟨b, o, none⟩)) 0).run Tryd.prog w = .ok (.pointer (some ⟨b, o + 0, none⟩)) w := by go_simp
section
variable {ops : Array Oper} {Q : Exit → Act → World → Prop} {F : Nat → Fact} {base : List Nat} {N : Nat} {o : Oper}
theorem ob_readb (t d : Nat) (e b : Bool) (heb : e = b) (ho : o.op = .load 4 (.tmp t)) (hd : o.dst = some d) (hg : GuardOk ops F base N o) (hk : known ops base o t = true) (hv : Points (F t) (Con.bool e)) (hF : F d = Fact.eq (.bool b)) : Ob ops Q F base N o := by
  subst heb
  exact ob_read1 4 t d (.bool e) ⟨rfl, rfl⟩ ho hd hg hk hv hF (load4 e)
theorem ob_eqc (t d : Nat) (k : IntKind) (ty ty' : TypeId) (z n : Int) (b : Bool) (hb : (z == n) = b) (ho : o.op = .binOp .eql ty (.tmp t) (.const (.int k n)) ty') (hd : o.dst = some d) (hg : GuardOk ops F base N o) (hk : known ops base o t = true) (hv : F t = Fact.eq (.int k z)) (hF : F d = Fact.eq (.bool b)) : Ob ops Q F base N o :=
  ob_one t d _ _ hd hg hk hv hF fun a w h1 => by
    have h3 : a.eval (.const (.int k n)) = .int k n := rfl
    subst hb
    simp [execOp, ho, h1, h3, eqGuard_at_int, binOp_eql]
theorem go_lss (k : IntKind) (b c : Int) (a : Act) (w : World) (x : Operand) (ty ty' : TypeId) (o : Oper) (t : Nat) (ho : o.op = .binOp .lss ty (.tmp t) x ty') (h1 : a.eval (.tmp t) = .int k b) (h2 : a.eval x = .int k c) :
    (execOp a.eval o).run Tryd.prog w = .ok (.value (.bool (decide (b < c)))) w := by
  simp [execOp, ho, h1, h2]
  go_simp
theorem ob_ltc (t d : Nat) (k : IntKind) (ty ty' : TypeId) (z n : Int) (b : Bool) (hb : decide (z < n) = b) (ho : o.op = .binOp .lss ty (.tmp t) (.const (.int k n)) ty') (hd : o.dst = some d) (hg : GuardOk ops F base N o) (hk : known ops base o t = true) (hv : F t = Fact.eq (.int k z)) (hF : F d = Fact.eq (.bool b)) : Ob ops Q F base N o :=
  ob_one t d _ _ hd hg hk hv hF fun a w h1 => by
    subst hb
    exact go_lss k z n a w _ ty ty' o t ho h1 rfl
theorem go_leq (k : IntKind) (b c : Int) (a : Act) (w : World) (x : Operand) (ty ty' : TypeId) (o : Oper) (t : Nat) (ho : o.op = .binOp .leq ty (.tmp t) x ty') (h1 : a.eval (.tmp t) = .int k b) (h2 : a.eval x = .int k c) :
    (execOp a.eval o).run Tryd.prog w = .ok (.value (.bool (decide (b ≤ c)))) w := by
  simp [execOp, ho, h1, h2]
  go_simp
theorem ob_lec (t d : Nat) (k : IntKind) (ty ty' : TypeId) (z n : Int) (b : Bool) (hb : decide (z ≤ n) = b) (ho : o.op = .binOp .leq ty (.tmp t) (.const (.int k n)) ty') (hd : o.dst = some d) (hg : GuardOk ops F base N o) (hk : known ops base o t = true) (hv : F t = Fact.eq (.int k z)) (hF : F d = Fact.eq (.bool b)) : Ob ops Q F base N o :=
  ob_one t d _ _ hd hg hk hv hF fun a w h1 => by
    subst hb
    exact go_leq k z n a w _ ty ty' o t ho h1 rfl
theorem go_gtr (k : IntKind) (b c : Int) (a : Act) (w : World) (x : Operand) (ty ty' : TypeId) (o : Oper) (t : Nat) (ho : o.op = .binOp .gtr ty (.tmp t) x ty') (h1 : a.eval (.tmp t) = .int k b) (h2 : a.eval x = .int k c) :
    (execOp a.eval o).run Tryd.prog w = .ok (.value (.bool (decide (b > c)))) w := by
  simp [execOp, ho, h1, h2]
  go_simp
theorem ob_gtc (t d : Nat) (k : IntKind) (ty ty' : TypeId) (z n : Int) (b : Bool) (hb : decide (z > n) = b) (ho : o.op = .binOp .gtr ty (.tmp t) (.const (.int k n)) ty') (hd : o.dst = some d) (hg : GuardOk ops F base N o) (hk : known ops base o t = true) (hv : F t = Fact.eq (.int k z)) (hF : F d = Fact.eq (.bool b)) : Ob ops Q F base N o :=
  ob_one t d _ _ hd hg hk hv hF fun a w h1 => by
    subst hb
    exact go_gtr k z n a w _ ty ty' o t ho h1 rfl
theorem ob_eqb (t s d : Nat) (x y b : Bool) (hb : (x == y) = b) (ho : o.op = .binOp .eql 4 (.tmp t) (.tmp s) 4) (hd : o.dst = some d) (hg : GuardOk ops F base N o) (hk : known ops base o t = true) (hk2 : known ops base o s = true) (hv : F t = Fact.eq (.bool x)) (hv2 : F s = Fact.eq (.bool y)) (hF : F d = Fact.eq (.bool b)) : Ob ops Q F base N o :=
  ob_two t s d _ _ _ hd hg hk hk2 hv hv2 hF fun a w h1 h2 => by
    subst hb
    exact go_eql_bool x y a w t s o ho h1 h2
theorem go_neq_bool (b c : Bool) (a : Act) (w : World) (t s : Nat) (o : Oper) (ho : o.op = .binOp .neq 4 (.tmp t) (.tmp s) 4) (h1 : a.eval (.tmp t) = .bool b) (h2 : a.eval (.tmp s) = .bool c) :
    (execOp a.eval o).run Tryd.prog w = .ok (.value (.bool (b != c))) w := by
  simp [execOp, ho, h1, h2]
  go_simp
  cases b <;> cases c <;> rfl
theorem ob_neb (t s d : Nat) (x y b : Bool) (hb : (x != y) = b) (ho : o.op = .binOp .neq 4 (.tmp t) (.tmp s) 4) (hd : o.dst = some d) (hg : GuardOk ops F base N o) (hk : known ops base o t = true) (hk2 : known ops base o s = true) (hv : F t = Fact.eq (.bool x)) (hv2 : F s = Fact.eq (.bool y)) (hF : F d = Fact.eq (.bool b)) : Ob ops Q F base N o :=
  ob_two t s d _ _ _ hd hg hk hk2 hv hv2 hF fun a w h1 h2 => by
    subst hb
    exact go_neq_bool x y a w t s o ho h1 h2
theorem ob_eqi (t s d : Nat) (k : IntKind) (ty ty' : TypeId) (x y : Int) (b : Bool) (hb : (x == y) = b) (ho : o.op = .binOp .eql ty (.tmp t) (.tmp s) ty') (hd : o.dst = some d) (hg : GuardOk ops F base N o) (hk : known ops base o t = true) (hk2 : known ops base o s = true) (hv : F t = Fact.eq (.int k x)) (hv2 : F s = Fact.eq (.int k y)) (hF : F d = Fact.eq (.bool b)) : Ob ops Q F base N o :=
  ob_two t s d _ _ _ hd hg hk hk2 hv hv2 hF fun a w h1 h2 => by
    subst hb
    exact go_eql_int x y a w t s k ty ty' o ho h1 h2
theorem go_neq_int (b c : Int) (a : Act) (w : World) (x : Operand) (t : Nat) (k : IntKind) (ty ty' : TypeId) (o : Oper) (ho : o.op = .binOp .neq ty (.tmp t) x ty') (h1 : a.eval (.tmp t) = .int k b) (h2 : a.eval x = .int k c) :
    (execOp a.eval o).run Tryd.prog w = .ok (.value (.bool (b != c))) w := by
  simp [execOp, ho, h1, h2, eqGuard_at_int, binOp_neq]
theorem ob_nei (t s d : Nat) (k : IntKind) (ty ty' : TypeId) (x y : Int) (b : Bool) (hb : (x != y) = b) (ho : o.op = .binOp .neq ty (.tmp t) (.tmp s) ty') (hd : o.dst = some d) (hg : GuardOk ops F base N o) (hk : known ops base o t = true) (hk2 : known ops base o s = true) (hv : F t = Fact.eq (.int k x)) (hv2 : F s = Fact.eq (.int k y)) (hF : F d = Fact.eq (.bool b)) : Ob ops Q F base N o :=
  ob_two t s d _ _ _ hd hg hk hk2 hv hv2 hF fun a w h1 h2 => by
    subst hb
    exact go_neq_int x y a w _ t k ty ty' o ho h1 h2
theorem ob_nec (t d : Nat) (k : IntKind) (ty ty' : TypeId) (z n : Int) (b : Bool) (hb : (z != n) = b) (ho : o.op = .binOp .neq ty (.tmp t) (.const (.int k n)) ty') (hd : o.dst = some d) (hg : GuardOk ops F base N o) (hk : known ops base o t = true) (hv : F t = Fact.eq (.int k z)) (hF : F d = Fact.eq (.bool b)) : Ob ops Q F base N o :=
  ob_one t d _ _ hd hg hk hv hF fun a w h1 => by
    subst hb
    exact go_neq_int z n a w _ t k ty ty' o ho h1 rfl
theorem ob_not (t d : Nat) (x b : Bool) (hb : (!x) = b) (ho : o.op = .unOp .not 4 (.tmp t)) (hd : o.dst = some d) (hg : GuardOk ops F base N o) (hk : known ops base o t = true) (hv : F t = Fact.eq (.bool x)) (hF : F d = Fact.eq (.bool b)) : Ob ops Q F base N o :=
  ob_one t d _ _ hd hg hk hv hF fun a w h1 => by
    subst hb
    exact go_not x a w t o ho h1
theorem agg_two {v : Value} {w : World} {s z : Bool} (h : (Fact.agg (Con.sgn s z)).holds v w) : v = .agg #[.bool s, .bool z] := by
  obtain ⟨cs, rfl, a, b, rfl, h1, h2⟩ := h
  have h1' : a = [.bool s] := h1
  have h2' : b = [.bool z] := h2
  rw [h1', h2']; rfl
theorem run_eql_sgn (s z s' z' : Bool) (w : World) : (binOp .eql 59 (.agg #[.bool s, .bool z]) (.agg #[.bool s', .bool z'])).run Tryd.prog w = .ok (.bool (s == s' && z == z')) w := by
  cases s <;> cases z <;> cases s' <;> cases z' <;> go_simp
theorem guard_sgn (op : BinOp) (x y : Operand) (s z s' z' : Bool) (w : World) : (eqGuard op 59 x y (.agg #[.bool s, .bool z]) (.agg #[.bool s', .bool z'])).run Tryd.prog w = .ok () w := by
  cases op <;> go_simp
theorem ob_eqs (t u d : Nat) (ty' : TypeId) (s z s' z' b : Bool) (hb : (s == s' && z == z') = b) (ho : o.op = .binOp .eql 59 (.tmp t) (.tmp u) ty') (hd : o.dst = some d) (hg : GuardOk ops F base N o) (hk : known ops base o t = true) (hk2 : known ops base o u = true) (hv : F t = Fact.agg (Con.sgn s z)) (hv2 : F u = Fact.agg (Con.sgn s' z')) (hF : F d = Fact.eq (.bool b)) : Ob ops Q F base N o :=
  ob_val hg fun a w hf => by
    have h1 := hf t hk
    have h2 := hf u hk2
    rw [hv] at h1
    rw [hv2] at h2
    have h1' : a.eval (.tmp t) = _ := agg_two h1
    have h2' : a.eval (.tmp u) = _ := agg_two h2
    subst hb
    refine ⟨_, w, ?_, Below.refl _ _, fun x hx => by rw [hd] at hx; injection hx with hx; subst hx; rw [hF]; rfl⟩
    simp [execOp, ho, h1', h2', guard_sgn, run_eql_sgn]
theorem ob_buildsgn (t u d : Nat) (s z : Bool) (ho : o.op = .build 59 #[(0, .tmp t), (1, .tmp u)]) (hd : o.dst = some d) (hg : GuardOk ops F base N o) (hk : known ops base o t = true) (hk2 : known ops base o u = true) (hv : F t = Fact.eq (.bool s)) (hv2 : F u = Fact.eq (.bool z)) (hF : F d = Fact.agg (Con.sgn s z)) : Ob ops Q F base N o :=
  ob_val hg fun a w hf => by
    have h1 := hf t hk
    have h2 := hf u hk2
    rw [hv] at h1
    rw [hv2] at h2
    have h1' : a.eval (.tmp t) = .bool s := h1
    have h2' : a.eval (.tmp u) = .bool z := h2
    refine ⟨.agg #[.bool s, .bool z], w, ?_, Below.refl _ _, fun x hx => ?_⟩
    · simp [execOp, ho, h1', h2', build48]
    · rw [hd] at hx; injection hx with hx; subst hx; rw [hF]
      exact ⟨[.bool s, .bool z], rfl, [.bool s], [.bool z], rfl, rfl, rfl⟩
theorem ob_buildtri (t u v d k l p q : Nat) (s : Bool) (ho : o.op = .build 28 #[(0, .tmp t), (1, .tmp u), (2, .tmp v)]) (hd : o.dst = some d) (hg : GuardOk ops F base N o) (hk : known ops base o t = true) (hk2 : known ops base o u = true) (hk3 : known ops base o v = true)
    (hv : F t = Fact.eq (.bool s)) (hv2 : F u = Fact.agg (Con.nn k p)) (hv3 : F v = Fact.agg (Con.nn l q)) (hF : F d = Fact.agg (Con.tri k l s p q)) : Ob ops Q F base N o :=
  ob_val hg fun a w hf => by
    have h1 := hf t hk
    have h2 := hf u hk2
    have h3 := hf v hk3
    rw [hv] at h1
    rw [hv2] at h2
    rw [hv3] at h3
    have h1' : a.eval (.tmp t) = .bool s := h1
    obtain ⟨cs, h4, A, c, rfl, h5, h6⟩ := h2
    obtain ⟨ds, h7, B, e, rfl, h8, h9⟩ := h3
    have h4' : a.eval (.tmp u) = nt A (Nm.nat p).length c := h4
    have h7' : a.eval (.tmp v) = nt B (Nm.nat q).length e := h7
    refine ⟨.agg #[.bool s, .slice A (Nm.nat p).length c, .slice B (Nm.nat q).length e], w, ?_, Below.refl _ _, fun x hx => ?_⟩
    · simp [execOp, ho, h1', h4', h7', build26]
    · rw [hd] at hx; injection hx with hx; subst hx; rw [hF]
      exact ⟨[.bool s, .slice A (Nm.nat p).length c, .slice B (Nm.nat q).length e], rfl, [.bool s], _, rfl, rfl, [_], [_], rfl, ⟨A, c, rfl, h5, h6⟩, ⟨B, e, rfl, h8, h9⟩⟩
theorem sz_zero (k : Nat) : Nm.Sz k 0 := Nat.pow_pos (by decide)
theorem ob_buildzero (d : Nat) (ho : o.op = .build 28 #[]) (hd : o.dst = some d) (hg : GuardOk ops F base N o) (hF : F d = Fact.agg (Con.tri 1 1 false 0 0)) : Ob ops Q F base N o :=
  ob_val hg fun a w _ => by
    refine ⟨.agg #[.bool false, .slice none 0 0, .slice none 0 0], w, ?_, Below.refl _ _, fun x hx => ?_⟩
    · simp [execOp, ho, build26_zero]
    · rw [hd] at hx; injection hx with hx; subst hx; rw [hF]
      have hz : (Con.nn 1 0).is w [.slice none 0 0] := ⟨none, 0, by rw [Nm.nat_zero]; rfl, by rw [Nm.nat_zero]; exact num_nil w, sz_zero 1⟩
      exact ⟨[.bool false, .slice none 0 0, .slice none 0 0], rfl, [.bool false], _, rfl, rfl, [_], [_], rfl, hz, hz⟩
theorem ob_nats2 (t u d k l m p q : Nat) (hkm : k ≤ m) (hlm : l ≤ m) (ho : o.op = .buildSlice 82 2 #[(0, .tmp t), (1, .tmp u)]) (hd : o.dst = some d) (hg : GuardOk ops F base N o) (hk : known ops base o t = true) (hk2 : known ops base o u = true)
    (hv : F t = Fact.agg (Con.nn k p)) (hv2 : F u = Fact.agg (Con.nn l q)) (hF : F d = Fact.nats m [p, q]) : Ob ops Q F base N o :=
  ob_val hg fun a w hf => by
    have h1 := hf t hk
    have h2 := hf u hk2
    rw [hv] at h1
    rw [hv2] at h2
    obtain ⟨cs, h4, A, c, rfl, h5, h6⟩ := Fact.nn_up (k := k) h1 hkm
    obtain ⟨ds, h7, B, e, rfl, h8, h9⟩ := Fact.nn_up (k := l) h2 hlm
    have h4' : a.eval (.tmp t) = nt A (Nm.nat p).length c := h4
    have h7' : a.eval (.tmp u) = nt B (Nm.nat q).length e := h7
    refine ⟨.slice (some ⟨w.heap.size, 0, none⟩) 2 2, _, by simp [execOp, ho, h4', h7', buildNats2]; rfl, one _ _, fun x hx => ?_⟩
    rw [hd] at hx; injection hx with hx; subst hx; rw [hF]
    refine ⟨w.heap.size, 2, rfl, fun i n hn => ?_⟩
    match i, hn with
    | 0, hn =>
      obtain rfl : p = n := by simpa using hn
      exact ⟨by simp, [_], fun j v hv => by
        match j, hv with
        | 0, hv => simpa using hv, A, c, rfl, h5.below (one _ _), h6⟩
    | 1, hn =>
      obtain rfl : q = n := by simpa using hn
      exact ⟨by simp, [_], fun j v hv => by
        match j, hv with
        | 0, hv => simpa using hv, B, e, rfl, h8.below (one _ _), h9⟩
theorem ob_3a (t d : Nat) (R S T : Fact) (ho : o.op = .extract (.tmp t) 0) (hd : o.dst = some d) (hg : GuardOk ops F base N o) (hk : known ops base o t = true) (hv : F t = Fact.three R S T) (hF : F d = R) : Ob ops Q F base N o :=
  ob_val hg fun a w hf => by
    have h1 := hf t hk
    rw [hv] at h1
    obtain ⟨x, y, z, h2, h3, h4, h5⟩ := h1
    have h3' : a.eval (.tmp t) = .tuple #[x, y, z] := h2
    exact ⟨x, w, by simp [execOp, ho, h3', Instr.extract], Below.refl _ _, fun s hs => by rw [hd] at hs; injection hs with hs; subst hs; rw [hF]; exact h3⟩
theorem ob_3b (t d : Nat) (R S T : Fact) (ho : o.op = .extract (.tmp t) 1) (hd : o.dst = some d) (hg : GuardOk ops F base N o) (hk : known ops base o t = true) (hv : F t = Fact.three R S T) (hF : F d = S) : Ob ops Q F base N o :=
  ob_val hg fun a w hf => by
    have h1 := hf t hk
    rw [hv] at h1
    obtain ⟨x, y, z, h2, h3, h4, h5⟩ := h1
    have h3' : a.eval (.tmp t) = .tuple #[x, y, z] := h2
    exact ⟨y, w, by simp [execOp, ho, h3', Instr.extract], Below.refl _ _, fun s hs => by rw [hd] at hs; injection hs with hs; subst hs; rw [hF]; exact h4⟩
theorem ob_3c (t d : Nat) (R S T : Fact) (ho : o.op = .extract (.tmp t) 2) (hd : o.dst = some d) (hg : GuardOk ops F base N o) (hk : known ops base o t = true) (hv : F t = Fact.three R S T) (hF : F d = T) : Ob ops Q F base N o :=
  ob_val hg fun a w hf => by
    have h1 := hf t hk
    rw [hv] at h1
    obtain ⟨x, y, z, h2, h3, h4, h5⟩ := h1
    have h3' : a.eval (.tmp t) = .tuple #[x, y, z] := h2
    exact ⟨z, w, by simp [execOp, ho, h3', Instr.extract], Below.refl _ _, fun s hs => by rw [hd] at hs; injection hs with hs; subst hs; rw [hF]; exact h5⟩
theorem ob_pick_or (c t d : Nat) (u : Value) (ho : o.op = .pick (.tmp c) (.const u) (.tmp t)) (hd : o.dst = some d) (hg : GuardOk ops F base N o) (hkc : known ops base o c = true) (hc : F c = Fact.eq (.bool true)) (hF : F d = Fact.eq u) : Ob ops Q F base N o :=
  ob_val hg fun a w hf => ⟨u, w, by
    have h1 := hf c hkc
    rw [hc] at h1
    have h2 : a.tmps[c]?.getD undef = .bool true := by rw [← Array.getD_eq_getD_getElem?]; exact h1
    simp [execOp, ho, Act.eval, h2, asBool], Below.refl _ _, fun s hs => by
    rw [hd] at hs; injection hs with hs; subst hs; rw [hF]; rfl⟩
theorem ob_pick_else (c t d : Nat) (u : Value) (ho : o.op = .pick (.tmp c) (.const u) (.tmp t)) (hd : o.dst = some d) (hg : GuardOk ops F base N o) (hkc : known ops base o c = true) (hk : known ops base o t = true) (hc : F c = Fact.eq (.bool false)) (hF : F d = F t) : Ob ops Q F base N o :=
  ob_val hg fun a w hf => ⟨a.tmps.getD t undef, w, by
    have h1 := hf c hkc
    rw [hc] at h1
    have h2 : a.tmps[c]?.getD undef = .bool false := by rw [← Array.getD_eq_getD_getElem?]; exact h1
    simp [execOp, ho, Act.eval, h2, asBool], Below.refl _ _, fun s hs => by
    rw [hd] at hs; injection hs with hs; subst hs; rw [hF]; exact hf t hk⟩
end
end Go.Proofs.YtjfehdkfogdpgaaDoor
namespace Go.Proofs.YtjfehdkfogdpgaaDoor
open Go.RowKit
namespace Rt
theorem add_mixed_ge {x y : Rat} (h : (ng x == ng y && decide (tp x = 0) == decide (tp y = 0)) = false) (hle : tp y * x.den ≤ tp x * y.den) : x + y = of (ng x) (tp x * y.den - tp y * x.den) (x.den * y.den) := by
  by_cases e : ng x = ng y
  · have h1 : decide (tp x = 0) ≠ decide (tp y = 0) := by simpa [e] using h
    rw [add_same e]
    by_cases hy : tp y = 0
    · rw [hy, Nat.zero_mul, Nat.add_zero, Nat.sub_zero]
    · have hx : tp x = 0 := by
        by_cases hx : tp x = 0
        · exact hx
        · simp [hx, hy] at h1
      exfalso
      rw [hx, Nat.zero_mul] at hle
      have := Nat.mul_pos (Nat.pos_of_ne_zero hy) (den_pos x)
      omega
  · exact add_ge e hle
theorem add_mixed_lt {x y : Rat} (h : (ng x == ng y && decide (tp x = 0) == decide (tp y = 0)) = false) (hlt : ¬ tp y * x.den ≤ tp x * y.den) : x + y = of (ng y) (tp y * x.den - tp x * y.den) (x.den * y.den) := by
  by_cases e : ng x = ng y
  · have h1 : decide (tp x = 0) ≠ decide (tp y = 0) := by simpa [e] using h
    rw [add_same e, e]
    by_cases hx : tp x = 0
    · rw [hx, Nat.zero_mul, Nat.zero_add, Nat.sub_zero]
    · have hy : tp y = 0 := by
        by_cases hy : tp y = 0
        · exact hy
        · simp [hx, hy] at h1
      exfalso
      rw [hy, Nat.zero_mul] at hlt
      exact hlt (Nat.zero_le _)
  · exact add_lt e (by omega)
theorem same_ng {x y : Rat} (h : (ng x == ng y && decide (tp x = 0) == decide (tp y = 0)) = true) : ng x = ng y := by
  rw [Bool.and_eq_true] at h
  exact eq_of_beq h.1
def Sz (k : Nat) (x : Rat) : Prop := Nm.Sz k (tp x) ∧ Nm.Sz k x.den
theorem Sz.up {k l : Nat} {x : Rat} (h : Sz k x) (hl : k ≤ l) : Sz l x := ⟨h.1.up hl, h.2.up hl⟩
theorem Sz.of {k : Nat} {s : Bool} {p q : Nat} (hq : q ≠ 0) (h1 : Nm.Sz k p) (h2 : Nm.Sz k q) : Sz k (of s p q) :=
  ⟨by rw [tp_of hq]; exact h1.mono (Nat.div_le_self _ _), by rw [den_of hq]; exact h2.mono (Nat.div_le_self _ _)⟩
theorem Sz.neg {k : Nat} {x : Rat} (h : Sz k x) : Sz k (-x) := ⟨by rw [neg_tp]; exact h.1, h.2⟩
theorem Sz.mul {k l : Nat} {x y : Rat} (h : Sz k x) (h' : Sz l y) : Sz (k + l) (x * y) := by
  rw [mul_eq]
  exact Sz.of (den_mul_ne x y) (h.1.mul h'.1) (h.2.mul h'.2)
theorem Sz.add {k l : Nat} {x y : Rat} (h : Sz k x) (h' : Sz l y) : Sz (k + l + 1) (x + y) := by
  have h1 : Nm.Sz (k + l) (tp x * y.den) := h.1.mul h'.2
  have h2 : Nm.Sz (k + l) (tp y * x.den) := by rw [Nat.mul_comm, Nat.add_comm k l, Nat.add_comm l k]; exact h.2.mul h'.1
  have h3 : Nm.Sz (k + l + 1) (x.den * y.den) := (h.2.mul h'.2).up (Nat.le_succ _)
  have h4 := h1.add h2 (Nat.le_refl _)
  by_cases e : ng x = ng y
  · rw [add_same e]
    exact Sz.of (den_mul_ne x y) h4 h3
  · by_cases hle : tp y * x.den ≤ tp x * y.den
    · rw [add_ge e hle]
      exact Sz.of (den_mul_ne x y) (h4.mono (by omega)) h3
    · rw [add_lt e (by omega)]
      exact Sz.of (den_mul_ne x y) (h4.mono (by omega)) h3
end Rt
theorem Con.fr_of {k l m : Nat} {s s' : Bool} {p q p' q' : Nat} (hq : q ≠ 0) (hs : s' = (s && !decide (p = 0))) (hp : p' = p / Nat.gcd p q) (hq' : q' = q / Nat.gcd p q) (hk : k ≤ m) (hl : l ≤ m) {w : World} {cs : List Value} (h : (Con.tri k l s' p' q').is w cs) : (Con.fr m (Rt.of s p q)).is w cs := by
  unfold Con.fr
  rw [Rt.ng_of hq, Rt.tp_of hq, Rt.den_of hq, ← hs, ← hp, ← hq']
  obtain ⟨a, b, h1, h2, c, d, h3, ⟨A, e, h4, h5, h6⟩, ⟨B, f, h7, h8, h9⟩⟩ := h
  exact ⟨a, b, h1, h2, c, d, h3, ⟨A, e, h4, h5, h6.up hk⟩, ⟨B, f, h7, h8, h9.up hl⟩⟩
theorem Con.fr_sz {k : Nat} {x : Rat} {w : World} {cs : List Value} (h : (Con.fr k x).is w cs) : Rt.Sz k x := by
  obtain ⟨a, b, _, _, c, d, _, ⟨_, _, _, _, h6⟩, ⟨_, _, _, _, h9⟩⟩ := h
  exact ⟨h6, h9⟩
theorem Con.fr_is {k l : Nat} {x : Rat} {w : World} {cs : List Value} (h : (Con.fr k x).is w cs) (hz : Rt.Sz l x) : (Con.fr l x).is w cs := by
  obtain ⟨a, b, h1, h2, c, d, h3, ⟨A, e, h4, h5, _⟩, ⟨B, f, h7, h8, _⟩⟩ := h
  exact ⟨a, b, h1, h2, c, d, h3, ⟨A, e, h4, h5, hz.1⟩, ⟨B, f, h7, h8, hz.2⟩⟩
theorem Fact.fr_sz {k : Nat} {x : Rat} {v : Value} {w : World} (h : (Fact.fr k x).holds v w) : Rt.Sz k x := by
  obtain ⟨cs, _, h⟩ := h
  exact Con.fr_sz h
theorem Fact.fr_is {k l : Nat} {x : Rat} {v : Value} {w : World} (h : (Fact.fr k x).holds v w) (hz : Rt.Sz l x) : (Fact.fr l x).holds v w := by
  obtain ⟨cs, h1, h⟩ := h
  exact ⟨cs, h1, Con.fr_is h hz⟩
theorem Fact.fr_up {k l : Nat} {x : Rat} {v : Value} {w : World} (h : (Fact.fr k x).holds v w) (hl : k ≤ l) : (Fact.fr l x).holds v w := Fact.fr_is h ((Fact.fr_sz h).up hl)
theorem Fact.tri_fr {k l m : Nat} {s s' : Bool} {p q p' q' : Nat} {x : Rat} {v : Value} {w : World} (h : (Fact.agg (Con.tri k l s' p' q')).holds v w) (hq : q ≠ 0) (hs : s' = (s && !decide (p = 0))) (hp : p' = p / Nat.gcd p q) (hq' : q' = q / Nat.gcd p q) (hx : x = Rt.of s p q) (hk : k ≤ m) (hl : l ≤ m) : (Fact.fr m x).holds v w := by
  subst hx
  obtain ⟨cs, h1, h2⟩ := h
  exact ⟨cs, h1, Con.fr_of hq hs hp hq' hk hl h2⟩
theorem Fact.tri_eq {k : Nat} {s : Bool} {p q : Nat} {x : Rat} {v : Value} {w : World} (h : (Fact.agg (Con.tri k k s p q)).holds v w) (hs : s = Rt.ng x) (hp : p = Rt.tp x) (hq : q = x.den) : (Fact.fr k x).holds v w := by
  subst hs hp hq
  exact h
theorem Ret.to {R S : Fact} {w w' : World} {e : Ending} (h : Ret R w e w') (hRS : ∀ v, R.holds v w' → S.holds v w') : Ret S w e w' := by
  obtain ⟨u, he, hb, hr⟩ := h
  exact ⟨u, he, hb, hRS u hr⟩
theorem blen_zero (n : Nat) : ((Nm.blen n : Int) == 0) = decide (n = 0) := by
  by_cases h : n = 0
  · subst h; rfl
  · have : Nm.blen n ≠ 0 := by unfold Nm.blen; rw [if_neg h]; omega
    rw [decide_eq_false h, beq_eq_false_iff_ne]; omega
theorem blen_one (n : Nat) : ((Nm.blen n : Int) == 1) = decide (n = 1) := by
  by_cases h : n = 0
  · subst h; rfl
  · by_cases h1 : n = 1
    · subst h1; decide
    · have h2 : Nm.blen n = Nat.log2 n + 1 := by unfold Nm.blen; rw [if_neg h]
      have h3 : 1 ≤ Nat.log2 n := (Nat.le_log2 h).2 (by omega)
      rw [decide_eq_false h1, beq_eq_false_iff_ne]; omega
end Go.Proofs.YtjfehdkfogdpgaaDoor
namespace Go.Proofs.YtjfehdkfogdpgaaDoor
open Go.RowKit
set_option maxRecDepth 100000 in
theorem q_isZero (k p : Nat) (b : Bool) (hbd : decide (p = 0) = b) : ∀ v0 w, (Fact.agg (Con.nn k p)).holds v0 w → Calls Tryd.prog 32 #[v0] w (Ret (Fact.eq (.bool b)) w) := by
  intro v0 w hv0
  refine sym_calls 6 [(0, Fact.agg (Con.nn k p))] Tryd.func32 rfl rfl (Nat.le_of_ble_eq_true rfl) (fcs ⟨⟨Nat.le_of_ble_eq_true rfl, hv0⟩, fnl⟩) fun a st => ?_
  have hb := Below.refl w.heap.size w
  refine wp_seq ?_
  refine sym_region st [(1, Fact.var' (Con.nn k p)), (2, Fact.eq (.bool false))] [1] 2 (by kernel_rfl) (by kernel_rfl) (by kernel_rfl) (Nat.le_of_ble_eq_true rfl) (by kernel_rfl) rfl rfl ?_ ?_
  · refine fcs ⟨obn_box 24 0 1 _ (Con.nn k p) rfl rfl rfl (by kernel_rfl) rfl rfl, ?_⟩
    refine fcs ⟨Ob.new_ (ob_const (.bool false) 2 (.inr rfl) rfl (.inl rfl) rfl) (by kernel_rfl), ?_⟩
    exact fnl
  intro a1 w1 st1 hbr1 hfr
  have hs1 := hbr1.size
  have hb := up hb hbr1
  obtain ⟨b1, c1⟩ := (show (Fact.var' (Con.nn k p)).holds _ _ from st1.at_ 1)
  have g1 := hfr.ge (s := 1) rfl c1.1
  have st : St 6 [(1, Fact.cell b1 (Con.nn k p)), (2, Fact.eq (.bool false))] a1 w1 := st1.to (fcs ⟨c1, fcs ⟨st1.at_ 2, fnl⟩⟩)
  clear st1 hbr1 hfr c1
  refine wpList_nil ?_
  refine then_normal ?_
  refine wp_seq ?_
  have st := st.to (ks' := [(1, Fact.cell b1 (Con.nn k p))]) (fcs ⟨st.at_ 1, fnl⟩)
  refine sym_region st [(3, Fact.agg (Con.nn k p)), (4, Fact.eq (.int .i64 (Nm.blen p : Int))), (5, Fact.eq (.bool b)), (2, Fact.eq (.bool b))] [] 4 (by kernel_rfl) (by kernel_rfl) (by kernel_rfl) (Nat.le_of_ble_eq_true rfl) (by kernel_rfl) rfl rfl ?_ ?_
  · refine fcs ⟨Ob.new_ (ob_read 24 1 3 (Con.nn k p) rfl rfl (.inl rfl) (by kernel_rfl) points_cell rfl row24 info24) (by kernel_rfl), ?_⟩
    refine fcs ⟨Ob.new_ (ob_call1 55 3 4 _ rfl rfl (.inl rfl) (by kernel_rfl) (by kernel_rfl) (n_bits k p _ rfl)) (by kernel_rfl), ?_⟩
    refine fcs ⟨Ob.new_ (ob_eqc 4 5 .i64 3 _ (Nm.blen p : Int) 0 b ((blen_zero p).trans hbd) rfl rfl (.inl rfl) (by kernel_rfl) rfl rfl) (by kernel_rfl), ?_⟩
    refine fcs ⟨Ob.new_ (ob_copy 5 2 (.inr rfl) rfl (.inl rfl) (by kernel_rfl) rfl) (by kernel_rfl), ?_⟩
    exact fnl
  intro a2 w2 st2 hbr2 hfr
  have hs2 := hbr2.size
  have hb := up hb hbr2
  have st : St 6 [(2, Fact.eq (.bool b))] a2 w2 := st2.to (fcs ⟨st2.at_ 2, fnl⟩)
  clear st2 hbr2 hfr
  refine wpList_nil ?_
  refine then_normal ?_
  refine wp_ret ?_
  exact sym_ret1 rfl st.defers (resAt_tmp st 2) hb (fun _ h => h)
set_option maxRecDepth 100000 in
theorem q_isOne (k p : Nat) (b : Bool) (hbd : decide (p = 1) = b) : ∀ v0 w, (Fact.agg (Con.nn k p)).holds v0 w → Calls Tryd.prog 38 #[v0] w (Ret (Fact.eq (.bool b)) w) := by
  intro v0 w hv0
  refine sym_calls 6 [(0, Fact.agg (Con.nn k p))] Tryd.func38 rfl rfl (Nat.le_of_ble_eq_true rfl) (fcs ⟨⟨Nat.le_of_ble_eq_true rfl, hv0⟩, fnl⟩) fun a st => ?_
  have hb := Below.refl w.heap.size w
  refine wp_seq ?_
  refine sym_region st [(1, Fact.var' (Con.nn k p)), (2, Fact.eq (.bool false))] [1] 2 (by kernel_rfl) (by kernel_rfl) (by kernel_rfl) (Nat.le_of_ble_eq_true rfl) (by kernel_rfl) rfl rfl ?_ ?_
  · refine fcs ⟨obn_box 24 0 1 _ (Con.nn k p) rfl rfl rfl (by kernel_rfl) rfl rfl, ?_⟩
    refine fcs ⟨Ob.new_ (ob_const (.bool false) 2 (.inr rfl) rfl (.inl rfl) rfl) (by kernel_rfl), ?_⟩
    exact fnl
  intro a1 w1 st1 hbr1 hfr
  have hs1 := hbr1.size
  have hb := up hb hbr1
  obtain ⟨b1, c1⟩ := (show (Fact.var' (Con.nn k p)).holds _ _ from st1.at_ 1)
  have g1 := hfr.ge (s := 1) rfl c1.1
  have st : St 6 [(1, Fact.cell b1 (Con.nn k p)), (2, Fact.eq (.bool false))] a1 w1 := st1.to (fcs ⟨c1, fcs ⟨st1.at_ 2, fnl⟩⟩)
  clear st1 hbr1 hfr c1
  refine wpList_nil ?_
  refine then_normal ?_
  refine wp_seq ?_
  have st := st.to (ks' := [(1, Fact.cell b1 (Con.nn k p))]) (fcs ⟨st.at_ 1, fnl⟩)
  refine sym_region st [(3, Fact.agg (Con.nn k p)), (4, Fact.eq (.int .i64 (Nm.blen p : Int))), (5, Fact.eq (.bool b)), (2, Fact.eq (.bool b))] [] 4 (by kernel_rfl) (by kernel_rfl) (by kernel_rfl) (Nat.le_of_ble_eq_true rfl) (by kernel_rfl) rfl rfl ?_ ?_
  · refine fcs ⟨Ob.new_ (ob_read 24 1 3 (Con.nn k p) rfl rfl (.inl rfl) (by kernel_rfl) points_cell rfl row24 info24) (by kernel_rfl), ?_⟩
    refine fcs ⟨Ob.new_ (ob_call1 55 3 4 _ rfl rfl (.inl rfl) (by kernel_rfl) (by kernel_rfl) (n_bits k p _ rfl)) (by kernel_rfl), ?_⟩
    refine fcs ⟨Ob.new_ (ob_eqc 4 5 .i64 3 _ (Nm.blen p : Int) 1 b ((blen_one p).trans hbd) rfl rfl (.inl rfl) (by kernel_rfl) rfl rfl) (by kernel_rfl), ?_⟩
    refine fcs ⟨Ob.new_ (ob_copy 5 2 (.inr rfl) rfl (.inl rfl) (by kernel_rfl) rfl) (by kernel_rfl), ?_⟩
    exact fnl
  intro a2 w2 st2 hbr2 hfr
  have hs2 := hbr2.size
  have hb := up hb hbr2
  have st : St 6 [(2, Fact.eq (.bool b))] a2 w2 := st2.to (fcs ⟨st2.at_ 2, fnl⟩)
  clear st2 hbr2 hfr
  refine wpList_nil ?_
  refine then_normal ?_
  refine wp_ret ?_
  exact sym_ret1 rfl st.defers (resAt_tmp st 2) hb (fun _ h => h)
set_option maxRecDepth 100000 in
theorem q_signOf (k : Nat) (x : Rat) : ∀ v0 w, (Fact.agg (Con.fr k x)).holds v0 w → Calls Tryd.prog 40 #[v0] w (Ret (Fact.agg (Con.sgn (Rt.ng x) (decide (Rt.tp x = 0)))) w) := by
  intro v0 w hv0
  refine sym_calls 9 [(0, Fact.agg (Con.fr k x))] Tryd.func40 rfl rfl (Nat.le_of_ble_eq_true rfl) (fcs ⟨⟨Nat.le_of_ble_eq_true rfl, hv0⟩, fnl⟩) fun a st => ?_
  have hb := Below.refl w.heap.size w
  refine wp_seq ?_
  refine sym_region st [(1, Fact.var' (Con.fr k x)), (2, Fact.var' (Con.raw 2))] [1, 2] 2 (by kernel_rfl) (by kernel_rfl) (by kernel_rfl) (Nat.le_of_ble_eq_true rfl) (by kernel_rfl) rfl rfl ?_ ?_
  · refine fcs ⟨obn_box 28 0 1 _ (Con.fr k x) rfl rfl rfl (by kernel_rfl) rfl rfl, ?_⟩
    refine fcs ⟨obn_new 59 2 _ [.bool false, .bool false] rfl rfl rfl rfl rfl alloc48, ?_⟩
    exact fnl
  intro a1 w1 st1 hbr1 hfr
  have hs1 := hbr1.size
  have hb := up hb hbr1
  obtain ⟨b1, c1⟩ := (show (Fact.var' (Con.fr k x)).holds _ _ from st1.at_ 1)
  have g1 := hfr.ge (s := 1) rfl c1.1
  obtain ⟨b2, c2⟩ := (show (Fact.var' (Con.raw 2)).holds _ _ from st1.at_ 2)
  have g2 := hfr.ge (s := 2) rfl c2.1
  have ne1_2 := hfr.apart (s := 1) (t := 2) rfl rfl (by decide) c1.1 c2.1
  have st : St 9 [(1, Fact.cell b1 (Con.fr k x)), (2, Fact.cell b2 (Con.raw 2))] a1 w1 := st1.to (fcs ⟨c1, fcs ⟨c2, fnl⟩⟩)
  clear st1 hbr1 hfr c1 c2
  refine wpList_nil ?_
  refine then_normal ?_
  refine wp_seq ?_
  refine sym_region st [(3, Fact.ptr (Con.bool (Rt.ng x))), (4, Fact.eq (.bool (Rt.ng x))), (5, Fact.ptr (Con.nn k (Rt.tp x))), (6, Fact.agg (Con.nn k (Rt.tp x))), (7, Fact.eq (.bool (decide (Rt.tp x = 0)))), (8, Fact.agg (Con.sgn (Rt.ng x) (decide (Rt.tp x = 0))))] [] 6 (by kernel_rfl) (by kernel_rfl) (by kernel_rfl) (Nat.le_of_ble_eq_true rfl) (by kernel_rfl) rfl rfl ?_ ?_
  · refine fcs ⟨Ob.new_ (ob_addr 28 0 1 3 0 (Con.fr k x) (Con.bool (Rt.ng x)) rfl rfl (.inl rfl) (by kernel_rfl) points_cell rfl (Con.fr_ng k x) field26_0) (by kernel_rfl), ?_⟩
    refine fcs ⟨Ob.new_ (ob_readb 3 4 (Rt.ng x) (Rt.ng x) rfl rfl rfl (.inl rfl) (by kernel_rfl) points_ptr rfl) (by kernel_rfl), ?_⟩
    refine fcs ⟨Ob.new_ (ob_addr 28 1 1 5 1 (Con.fr k x) (Con.nn k (Rt.tp x)) rfl rfl (.inl rfl) (by kernel_rfl) points_cell rfl (Con.fr_tp k x) field26_1) (by kernel_rfl), ?_⟩
    refine fcs ⟨Ob.new_ (ob_read 24 5 6 (Con.nn k (Rt.tp x)) rfl rfl (.inl rfl) (by kernel_rfl) points_ptr rfl row24 info24) (by kernel_rfl), ?_⟩
    refine fcs ⟨Ob.new_ (ob_call1 32 6 7 _ rfl rfl (.inl rfl) (by kernel_rfl) (by kernel_rfl) (q_isZero k (Rt.tp x) (decide (Rt.tp x = 0)) rfl)) (by kernel_rfl), ?_⟩
    refine fcs ⟨Ob.new_ (ob_buildsgn 4 7 8 (Rt.ng x) (decide (Rt.tp x = 0)) rfl rfl (.inl rfl) (by kernel_rfl) (by kernel_rfl) rfl rfl rfl) (by kernel_rfl), ?_⟩
    exact fnl
  intro a2 w2 st2 hbr2 hfr
  have hs2 := hbr2.size
  have hb := up hb hbr2
  have st : St 9 [(2, Fact.cell b2 (Con.raw 2)), (8, Fact.agg (Con.sgn (Rt.ng x) (decide (Rt.tp x = 0))))] a2 w2 := st2.to (fcs ⟨st2.at_ 2, fcs ⟨st2.at_ 8, fnl⟩⟩)
  clear st2 hbr2 hfr
  refine sym_store st 59 2 8 b2 (Con.raw 2) (Con.sgn (Rt.ng x) (decide (Rt.tp x = 0))) [(2, Fact.cell b2 (Con.sgn (Rt.ng x) (decide (Rt.tp x = 0))))] rfl rfl rfl rfl rfl rfl info48 ?_ ?_
  · exact fcs ⟨.inl rfl, fnl⟩
  clear st; intro w3 hB hsz3 st
  have hb := hB _ _ hb (by omega) (by omega)
  clear hB
  refine wpList_nil ?_
  refine then_normal ?_
  refine wp_ret ?_
  exact sym_ret1 rfl st.defers (resAt_cell st 2 b2 59 (Con.sgn (Rt.ng x) (decide (Rt.tp x = 0))) rfl row48 info48) hb (fun _ h => h)
set_option maxRecDepth 100000 in
theorem q_reduced (k l r : Nat) (s : Bool) (p q : Nat) (hq : q ≠ 0) (hkr : k ≤ r) (hlr : l ≤ r) (hr : r ≤ 400) : ∀ v0 v1 v2 w, (Fact.eq (.bool s)).holds v0 w → (Fact.agg (Con.nn k p)).holds v1 w → (Fact.agg (Con.nn l q)).holds v2 w → Calls Tryd.prog 33 #[v0, v1, v2] w (Ret (Fact.fr r (Rt.of s p q)) w) := by
  intro v0 v1 v2 w hv0 hv1 hv2
  cases s with
  | false =>
    refine sym_calls 34 [(0, Fact.eq (.bool false)), (1, Fact.agg (Con.nn k p)), (2, Fact.agg (Con.nn l q))] Tryd.func33 rfl rfl (Nat.le_of_ble_eq_true rfl) (fcs ⟨⟨Nat.le_of_ble_eq_true rfl, hv0⟩, fcs ⟨⟨Nat.le_of_ble_eq_true rfl, hv1⟩, fcs ⟨⟨Nat.le_of_ble_eq_true rfl, hv2⟩, fnl⟩⟩⟩) fun a st => ?_
    have hb := Below.refl w.heap.size w
    refine wp_seq ?_
    refine sym_region st [(4, Fact.var' (Con.nn k p)), (5, Fact.var' (Con.nn l q)), (6, Fact.var' (Con.raw 3))] [4, 5, 6] 3 (by kernel_rfl) (by kernel_rfl) (by kernel_rfl) (Nat.le_of_ble_eq_true rfl) (by kernel_rfl) rfl rfl ?_ ?_
    · refine fcs ⟨obn_box 24 1 4 _ (Con.nn k p) rfl rfl rfl (by kernel_rfl) rfl rfl, ?_⟩
      refine fcs ⟨obn_box 24 2 5 _ (Con.nn l q) rfl rfl rfl (by kernel_rfl) rfl rfl, ?_⟩
      refine fcs ⟨obn_new 28 6 _ [.bool false, .slice none 0 0, .slice none 0 0] rfl rfl rfl rfl rfl alloc26, ?_⟩
      exact fnl
    intro a1 w1 st1 hbr1 hfr
    have hs1 := hbr1.size
    have hb := up hb hbr1
    obtain ⟨b4, c4⟩ := (show (Fact.var' (Con.nn k p)).holds _ _ from st1.at_ 4)
    have g4 := hfr.ge (s := 4) rfl c4.1
    obtain ⟨b5, c5⟩ := (show (Fact.var' (Con.nn l q)).holds _ _ from st1.at_ 5)
    have g5 := hfr.ge (s := 5) rfl c5.1
    obtain ⟨b6, c6⟩ := (show (Fact.var' (Con.raw 3)).holds _ _ from st1.at_ 6)
    have g6 := hfr.ge (s := 6) rfl c6.1
    have ne4_5 := hfr.apart (s := 4) (t := 5) rfl rfl (by decide) c4.1 c5.1
    have ne4_6 := hfr.apart (s := 4) (t := 6) rfl rfl (by decide) c4.1 c6.1
    have ne5_6 := hfr.apart (s := 5) (t := 6) rfl rfl (by decide) c5.1 c6.1
    have st : St 34 [(0, Fact.eq (.bool false)), (4, Fact.cell b4 (Con.nn k p)), (5, Fact.cell b5 (Con.nn l q)), (6, Fact.cell b6 (Con.raw 3))] a1 w1 := st1.to (fcs ⟨st1.at_ 0, fcs ⟨c4, fcs ⟨c5, fcs ⟨c6, fnl⟩⟩⟩⟩)
    clear st1 hbr1 hfr c4 c5 c6
    refine wpList_nil ?_
    refine then_normal ?_
    refine wp_seq ?_
    refine sym_region st [(8, Fact.agg (Con.nn k p)), (9, Fact.agg (Con.nn l q)), (10, Fact.agg (Con.nn l (Nat.gcd p q))), (7, Fact.var' (Con.raw 1))] [7] 4 (by kernel_rfl) (by kernel_rfl) (by kernel_rfl) (Nat.le_of_ble_eq_true rfl) (by kernel_rfl) rfl rfl ?_ ?_
    · refine fcs ⟨Ob.new_ (ob_read 24 4 8 (Con.nn k p) rfl rfl (.inl rfl) (by kernel_rfl) points_cell rfl row24 info24) (by kernel_rfl), ?_⟩
      refine fcs ⟨Ob.new_ (ob_read 24 5 9 (Con.nn l q) rfl rfl (.inl rfl) (by kernel_rfl) points_cell rfl row24 info24) (by kernel_rfl), ?_⟩
      refine fcs ⟨Ob.new_ (ob_call2 39 8 9 10 _ rfl rfl (.inl rfl) (by kernel_rfl) (by kernel_rfl) (by kernel_rfl) (n_gcd k l p q hq (by omega))) (by kernel_rfl), ?_⟩
      refine fcs ⟨obn_new 24 7 _ [.slice none 0 0] rfl rfl rfl rfl rfl alloc24, ?_⟩
      exact fnl
    intro a2 w2 st2 hbr2 hfr
    have hs2 := hbr2.size
    have hb := up hb hbr2
    obtain ⟨b7, c7⟩ := (show (Fact.var' (Con.raw 1)).holds _ _ from st2.at_ 7)
    have g7 := hfr.ge (s := 7) rfl c7.1
    have st : St 34 [(0, Fact.eq (.bool false)), (4, Fact.cell b4 (Con.nn k p)), (5, Fact.cell b5 (Con.nn l q)), (6, Fact.cell b6 (Con.raw 3)), (10, Fact.agg (Con.nn l (Nat.gcd p q))), (7, Fact.cell b7 (Con.raw 1))] a2 w2 := st2.to (fcs ⟨st2.at_ 0, fcs ⟨st2.at_ 4, fcs ⟨st2.at_ 5, fcs ⟨st2.at_ 6, fcs ⟨st2.at_ 10, fcs ⟨c7, fnl⟩⟩⟩⟩⟩⟩)
    clear st2 hbr2 hfr c7
    refine sym_store st 24 7 10 b7 (Con.raw 1) (Con.nn l (Nat.gcd p q)) [(0, Fact.eq (.bool false)), (4, Fact.cell b4 (Con.nn k p)), (5, Fact.cell b5 (Con.nn l q)), (6, Fact.cell b6 (Con.raw 3)), (7, Fact.cell b7 (Con.nn l (Nat.gcd p q)))] rfl rfl rfl rfl rfl rfl info24 ?_ ?_
    · exact fcs ⟨.inr ⟨rfl, safe_eq _ _⟩, fcs ⟨.inr ⟨rfl, safe_cell _ (by omega)⟩, fcs ⟨.inr ⟨rfl, safe_cell _ (by omega)⟩, fcs ⟨.inr ⟨rfl, safe_cell _ (by omega)⟩, fcs ⟨.inl rfl, fnl⟩⟩⟩⟩⟩
    clear st; intro w3 hB hsz3 st
    have hb := hB _ _ hb (by omega) (by omega)
    clear hB
    refine wpList_nil ?_
    refine then_normal ?_
    refine wp_seq ?_
    refine sym_region st [(12, Fact.agg (Con.nn k p)), (13, Fact.agg (Con.nn l (Nat.gcd p q))), (14, Fact.three (Fact.agg (Con.nn k (p / (Nat.gcd p q)))) (Fact.agg (Con.nn l (p % (Nat.gcd p q)))) (Fact.eq (.int .i64 0))), (11, Fact.three (Fact.agg (Con.nn k (p / (Nat.gcd p q)))) (Fact.agg (Con.nn l (p % (Nat.gcd p q)))) (Fact.eq (.int .i64 0))), (15, Fact.agg (Con.nn k (p / (Nat.gcd p q)))), (16, Fact.agg (Con.nn l (p % (Nat.gcd p q)))), (17, Fact.eq (.int .i64 0))] [] 7 (by kernel_rfl) (by kernel_rfl) (by kernel_rfl) (Nat.le_of_ble_eq_true rfl) (by kernel_rfl) rfl rfl ?_ ?_
    · refine fcs ⟨Ob.new_ (ob_read 24 4 12 (Con.nn k p) rfl rfl (.inl rfl) (by kernel_rfl) points_cell rfl row24 info24) (by kernel_rfl), ?_⟩
      refine fcs ⟨Ob.new_ (ob_read 24 7 13 (Con.nn l (Nat.gcd p q)) rfl rfl (.inl rfl) (by kernel_rfl) points_cell rfl row24 info24) (by kernel_rfl), ?_⟩
      refine fcs ⟨Ob.new_ (ob_call2 51 12 13 14 _ rfl rfl (.inl rfl) (by kernel_rfl) (by kernel_rfl) (by kernel_rfl) (n_divMod k l p (Nat.gcd p q) (Nat.ne_of_gt (Rt.gcd_pos hq)) (by omega) (by omega))) (by kernel_rfl), ?_⟩
      refine fcs ⟨Ob.new_ (ob_copy 14 11 (.inl rfl) rfl (.inl rfl) (by kernel_rfl) rfl) (by kernel_rfl), ?_⟩
      refine fcs ⟨Ob.new_ (ob_3a 11 15 (Fact.agg (Con.nn k (p / (Nat.gcd p q)))) (Fact.agg (Con.nn l (p % (Nat.gcd p q)))) (Fact.eq (.int .i64 0)) rfl rfl (.inl rfl) (by kernel_rfl) rfl rfl) (by kernel_rfl), ?_⟩
      refine fcs ⟨Ob.new_ (ob_3b 11 16 (Fact.agg (Con.nn k (p / (Nat.gcd p q)))) (Fact.agg (Con.nn l (p % (Nat.gcd p q)))) (Fact.eq (.int .i64 0)) rfl rfl (.inl rfl) (by kernel_rfl) rfl rfl) (by kernel_rfl), ?_⟩
      refine fcs ⟨Ob.new_ (ob_3c 11 17 (Fact.agg (Con.nn k (p / (Nat.gcd p q)))) (Fact.agg (Con.nn l (p % (Nat.gcd p q)))) (Fact.eq (.int .i64 0)) rfl rfl (.inl rfl) (by kernel_rfl) rfl rfl) (by kernel_rfl), ?_⟩
      exact fnl
    intro a4 w4 st4 hbr4 hfr
    have hs4 := hbr4.size
    have hb := up hb hbr4
    have st : St 34 [(0, Fact.eq (.bool false)), (4, Fact.cell b4 (Con.nn k p)), (5, Fact.cell b5 (Con.nn l q)), (6, Fact.cell b6 (Con.raw 3)), (7, Fact.cell b7 (Con.nn l (Nat.gcd p q))), (15, Fact.agg (Con.nn k (p / (Nat.gcd p q))))] a4 w4 := st4.to (fcs ⟨st4.at_ 0, fcs ⟨st4.at_ 4, fcs ⟨st4.at_ 5, fcs ⟨st4.at_ 6, fcs ⟨st4.at_ 7, fcs ⟨st4.at_ 15, fnl⟩⟩⟩⟩⟩⟩)
    clear st4 hbr4 hfr
    refine sym_store st 24 4 15 b4 (Con.nn k p) (Con.nn k (p / (Nat.gcd p q))) [(0, Fact.eq (.bool false)), (4, Fact.cell b4 (Con.nn k (p / (Nat.gcd p q)))), (5, Fact.cell b5 (Con.nn l q)), (6, Fact.cell b6 (Con.raw 3)), (7, Fact.cell b7 (Con.nn l (Nat.gcd p q)))] rfl rfl rfl rfl rfl rfl info24 ?_ ?_
    · exact fcs ⟨.inr ⟨rfl, safe_eq _ _⟩, fcs ⟨.inl rfl, fcs ⟨.inr ⟨rfl, safe_cell _ (by omega)⟩, fcs ⟨.inr ⟨rfl, safe_cell _ (by omega)⟩, fcs ⟨.inr ⟨rfl, safe_cell _ (by omega)⟩, fnl⟩⟩⟩⟩⟩
    clear st; intro w5 hB hsz5 st
    have hb := hB _ _ hb (by omega) (by omega)
    clear hB
    refine wpList_nil ?_
    refine then_normal ?_
    refine wp_seq ?_
    refine sym_region st [(19, Fact.agg (Con.nn l q)), (20, Fact.agg (Con.nn l (Nat.gcd p q))), (21, Fact.three (Fact.agg (Con.nn l (q / (Nat.gcd p q)))) (Fact.agg (Con.nn l (q % (Nat.gcd p q)))) (Fact.eq (.int .i64 0))), (18, Fact.three (Fact.agg (Con.nn l (q / (Nat.gcd p q)))) (Fact.agg (Con.nn l (q % (Nat.gcd p q)))) (Fact.eq (.int .i64 0))), (22, Fact.agg (Con.nn l (q / (Nat.gcd p q)))), (23, Fact.agg (Con.nn l (q % (Nat.gcd p q)))), (24, Fact.eq (.int .i64 0))] [] 7 (by kernel_rfl) (by kernel_rfl) (by kernel_rfl) (Nat.le_of_ble_eq_true rfl) (by kernel_rfl) rfl rfl ?_ ?_
    · refine fcs ⟨Ob.new_ (ob_read 24 5 19 (Con.nn l q) rfl rfl (.inl rfl) (by kernel_rfl) points_cell rfl row24 info24) (by kernel_rfl), ?_⟩
      refine fcs ⟨Ob.new_ (ob_read 24 7 20 (Con.nn l (Nat.gcd p q)) rfl rfl (.inl rfl) (by kernel_rfl) points_cell rfl row24 info24) (by kernel_rfl), ?_⟩
      refine fcs ⟨Ob.new_ (ob_call2 51 19 20 21 _ rfl rfl (.inl rfl) (by kernel_rfl) (by kernel_rfl) (by kernel_rfl) (n_divMod l l q (Nat.gcd p q) (Nat.ne_of_gt (Rt.gcd_pos hq)) (by omega) (by omega))) (by kernel_rfl), ?_⟩
      refine fcs ⟨Ob.new_ (ob_copy 21 18 (.inl rfl) rfl (.inl rfl) (by kernel_rfl) rfl) (by kernel_rfl), ?_⟩
      refine fcs ⟨Ob.new_ (ob_3a 18 22 (Fact.agg (Con.nn l (q / (Nat.gcd p q)))) (Fact.agg (Con.nn l (q % (Nat.gcd p q)))) (Fact.eq (.int .i64 0)) rfl rfl (.inl rfl) (by kernel_rfl) rfl rfl) (by kernel_rfl), ?_⟩
      refine fcs ⟨Ob.new_ (ob_3b 18 23 (Fact.agg (Con.nn l (q / (Nat.gcd p q)))) (Fact.agg (Con.nn l (q % (Nat.gcd p q)))) (Fact.eq (.int .i64 0)) rfl rfl (.inl rfl) (by kernel_rfl) rfl rfl) (by kernel_rfl), ?_⟩
      refine fcs ⟨Ob.new_ (ob_3c 18 24 (Fact.agg (Con.nn l (q / (Nat.gcd p q)))) (Fact.agg (Con.nn l (q % (Nat.gcd p q)))) (Fact.eq (.int .i64 0)) rfl rfl (.inl rfl) (by kernel_rfl) rfl rfl) (by kernel_rfl), ?_⟩
      exact fnl
    intro a6 w6 st6 hbr6 hfr
    have hs6 := hbr6.size
    have hb := up hb hbr6
    have st : St 34 [(0, Fact.eq (.bool false)), (4, Fact.cell b4 (Con.nn k (p / (Nat.gcd p q)))), (5, Fact.cell b5 (Con.nn l q)), (6, Fact.cell b6 (Con.raw 3)), (22, Fact.agg (Con.nn l (q / (Nat.gcd p q))))] a6 w6 := st6.to (fcs ⟨st6.at_ 0, fcs ⟨st6.at_ 4, fcs ⟨st6.at_ 5, fcs ⟨st6.at_ 6, fcs ⟨st6.at_ 22, fnl⟩⟩⟩⟩⟩)
    clear st6 hbr6 hfr
    refine sym_store st 24 5 22 b5 (Con.nn l q) (Con.nn l (q / (Nat.gcd p q))) [(0, Fact.eq (.bool false)), (4, Fact.cell b4 (Con.nn k (p / (Nat.gcd p q)))), (5, Fact.cell b5 (Con.nn l (q / (Nat.gcd p q)))), (6, Fact.cell b6 (Con.raw 3))] rfl rfl rfl rfl rfl rfl info24 ?_ ?_
    · exact fcs ⟨.inr ⟨rfl, safe_eq _ _⟩, fcs ⟨.inr ⟨rfl, safe_cell _ (by omega)⟩, fcs ⟨.inl rfl, fcs ⟨.inr ⟨rfl, safe_cell _ (by omega)⟩, fnl⟩⟩⟩⟩
    clear st; intro w7 hB hsz7 st
    have hb := hB _ _ hb (by omega) (by omega)
    clear hB
    refine wpList_nil ?_
    refine then_normal ?_
    refine wp_seq ?_
    refine sym_region st [(25, Fact.eq (.bool false)), (26, Fact.eq (.bool false)), (27, Fact.eq undef), (28, Fact.eq undef), (29, Fact.eq undef), (30, Fact.eq (.bool false)), (31, Fact.agg (Con.nn k (p / (Nat.gcd p q)))), (32, Fact.agg (Con.nn l (q / (Nat.gcd p q)))), (33, Fact.agg (Con.tri k l false (p / (Nat.gcd p q)) (q / (Nat.gcd p q))))] [] 9 (by kernel_rfl) (by kernel_rfl) (by kernel_rfl) (Nat.le_of_ble_eq_true rfl) (by kernel_rfl) rfl rfl ?_ ?_
    · refine fcs ⟨Ob.new_ (ob_copy 0 25 (.inl rfl) rfl (.inl rfl) (by kernel_rfl) rfl) (by kernel_rfl), ?_⟩
      refine fcs ⟨Ob.new_ (ob_copy 25 26 (.inl rfl) rfl (.inl rfl) (by kernel_rfl) rfl) (by kernel_rfl), ?_⟩
      refine fcs ⟨Ob.new_ (ob_skip 1 26 27 true rfl rfl (by kernel_rfl) (by decide) rfl rfl rfl) (by kernel_rfl), ?_⟩
      refine fcs ⟨Ob.new_ (ob_skip 1 26 28 true rfl rfl (by kernel_rfl) (by decide) rfl rfl rfl) (by kernel_rfl), ?_⟩
      refine fcs ⟨Ob.new_ (ob_skip 1 26 29 true rfl rfl (by kernel_rfl) (by decide) rfl rfl rfl) (by kernel_rfl), ?_⟩
      refine fcs ⟨Ob.new_ (ob_pick_no 26 29 30 (.bool false) rfl rfl (.inl rfl) (by kernel_rfl) rfl rfl) (by kernel_rfl), ?_⟩
      refine fcs ⟨Ob.new_ (ob_read 24 4 31 (Con.nn k (p / (Nat.gcd p q))) rfl rfl (.inl rfl) (by kernel_rfl) points_cell rfl row24 info24) (by kernel_rfl), ?_⟩
      refine fcs ⟨Ob.new_ (ob_read 24 5 32 (Con.nn l (q / (Nat.gcd p q))) rfl rfl (.inl rfl) (by kernel_rfl) points_cell rfl row24 info24) (by kernel_rfl), ?_⟩
      refine fcs ⟨Ob.new_ (ob_buildtri 30 31 32 33 k l (p / (Nat.gcd p q)) (q / (Nat.gcd p q)) false rfl rfl (.inl rfl) (by kernel_rfl) (by kernel_rfl) (by kernel_rfl) rfl rfl rfl rfl) (by kernel_rfl), ?_⟩
      exact fnl
    intro a8 w8 st8 hbr8 hfr
    have hs8 := hbr8.size
    have hb := up hb hbr8
    have st : St 34 [(6, Fact.cell b6 (Con.raw 3)), (33, Fact.agg (Con.tri k l false (p / (Nat.gcd p q)) (q / (Nat.gcd p q))))] a8 w8 := st8.to (fcs ⟨st8.at_ 6, fcs ⟨st8.at_ 33, fnl⟩⟩)
    clear st8 hbr8 hfr
    refine sym_store st 28 6 33 b6 (Con.raw 3) (Con.tri k l false (p / (Nat.gcd p q)) (q / (Nat.gcd p q))) [(6, Fact.cell b6 (Con.tri k l false (p / (Nat.gcd p q)) (q / (Nat.gcd p q))))] rfl rfl rfl rfl rfl rfl info26 ?_ ?_
    · exact fcs ⟨.inl rfl, fnl⟩
    clear st; intro w9 hB hsz9 st
    have hb := hB _ _ hb (by omega) (by omega)
    clear hB
    refine wpList_nil ?_
    refine then_normal ?_
    refine wp_ret ?_
    exact sym_ret1 rfl st.defers (resAt_cell st 6 b6 28 (Con.tri k l false (p / (Nat.gcd p q)) (q / (Nat.gcd p q))) rfl row26 info26) hb (fun _ h => Fact.tri_fr h hq (rfl) rfl rfl rfl hkr hlr)
  | true =>
    refine sym_calls 34 [(0, Fact.eq (.bool true)), (1, Fact.agg (Con.nn k p)), (2, Fact.agg (Con.nn l q))] Tryd.func33 rfl rfl (Nat.le_of_ble_eq_true rfl) (fcs ⟨⟨Nat.le_of_ble_eq_true rfl, hv0⟩, fcs ⟨⟨Nat.le_of_ble_eq_true rfl, hv1⟩, fcs ⟨⟨Nat.le_of_ble_eq_true rfl, hv2⟩, fnl⟩⟩⟩) fun a st => ?_
    have hb := Below.refl w.heap.size w
    refine wp_seq ?_
    refine sym_region st [(4, Fact.var' (Con.nn k p)), (5, Fact.var' (Con.nn l q)), (6, Fact.var' (Con.raw 3))] [4, 5, 6] 3 (by kernel_rfl) (by kernel_rfl) (by kernel_rfl) (Nat.le_of_ble_eq_true rfl) (by kernel_rfl) rfl rfl ?_ ?_
    · refine fcs ⟨obn_box 24 1 4 _ (Con.nn k p) rfl rfl rfl (by kernel_rfl) rfl rfl, ?_⟩
      refine fcs ⟨obn_box 24 2 5 _ (Con.nn l q) rfl rfl rfl (by kernel_rfl) rfl rfl, ?_⟩
      refine fcs ⟨obn_new 28 6 _ [.bool false, .slice none 0 0, .slice none 0 0] rfl rfl rfl rfl rfl alloc26, ?_⟩
      exact fnl
    intro a1 w1 st1 hbr1 hfr
    have hs1 := hbr1.size
    have hb := up hb hbr1
    obtain ⟨b4, c4⟩ := (show (Fact.var' (Con.nn k p)).holds _ _ from st1.at_ 4)
    have g4 := hfr.ge (s := 4) rfl c4.1
    obtain ⟨b5, c5⟩ := (show (Fact.var' (Con.nn l q)).holds _ _ from st1.at_ 5)
    have g5 := hfr.ge (s := 5) rfl c5.1
    obtain ⟨b6, c6⟩ := (show (Fact.var' (Con.raw 3)).holds _ _ from st1.at_ 6)
    have g6 := hfr.ge (s := 6) rfl c6.1
    have ne4_5 := hfr.apart (s := 4) (t := 5) rfl rfl (by decide) c4.1 c5.1
    have ne4_6 := hfr.apart (s := 4) (t := 6) rfl rfl (by decide) c4.1 c6.1
    have ne5_6 := hfr.apart (s := 5) (t := 6) rfl rfl (by decide) c5.1 c6.1
    have st : St 34 [(0, Fact.eq (.bool true)), (4, Fact.cell b4 (Con.nn k p)), (5, Fact.cell b5 (Con.nn l q)), (6, Fact.cell b6 (Con.raw 3))] a1 w1 := st1.to (fcs ⟨st1.at_ 0, fcs ⟨c4, fcs ⟨c5, fcs ⟨c6, fnl⟩⟩⟩⟩)
    clear st1 hbr1 hfr c4 c5 c6
    refine wpList_nil ?_
    refine then_normal ?_
    refine wp_seq ?_
    refine sym_region st [(8, Fact.agg (Con.nn k p)), (9, Fact.agg (Con.nn l q)), (10, Fact.agg (Con.nn l (Nat.gcd p q))), (7, Fact.var' (Con.raw 1))] [7] 4 (by kernel_rfl) (by kernel_rfl) (by kernel_rfl) (Nat.le_of_ble_eq_true rfl) (by kernel_rfl) rfl rfl ?_ ?_
    · refine fcs ⟨Ob.new_ (ob_read 24 4 8 (Con.nn k p) rfl rfl (.inl rfl) (by kernel_rfl) points_cell rfl row24 info24) (by kernel_rfl), ?_⟩
      refine fcs ⟨Ob.new_ (ob_read 24 5 9 (Con.nn l q) rfl rfl (.inl rfl) (by kernel_rfl) points_cell rfl row24 info24) (by kernel_rfl), ?_⟩
      refine fcs ⟨Ob.new_ (ob_call2 39 8 9 10 _ rfl rfl (.inl rfl) (by kernel_rfl) (by kernel_rfl) (by kernel_rfl) (n_gcd k l p q hq (by omega))) (by kernel_rfl), ?_⟩
      refine fcs ⟨obn_new 24 7 _ [.slice none 0 0] rfl rfl rfl rfl rfl alloc24, ?_⟩
      exact fnl
    intro a2 w2 st2 hbr2 hfr
    have hs2 := hbr2.size
    have hb := up hb hbr2
    obtain ⟨b7, c7⟩ := (show (Fact.var' (Con.raw 1)).holds _ _ from st2.at_ 7)
    have g7 := hfr.ge (s := 7) rfl c7.1
    have st : St 34 [(0, Fact.eq (.bool true)), (4, Fact.cell b4 (Con.nn k p)), (5, Fact.cell b5 (Con.nn l q)), (6, Fact.cell b6 (Con.raw 3)), (10, Fact.agg (Con.nn l (Nat.gcd p q))), (7, Fact.cell b7 (Con.raw 1))] a2 w2 := st2.to (fcs ⟨st2.at_ 0, fcs ⟨st2.at_ 4, fcs ⟨st2.at_ 5, fcs ⟨st2.at_ 6, fcs ⟨st2.at_ 10, fcs ⟨c7, fnl⟩⟩⟩⟩⟩⟩)
    clear st2 hbr2 hfr c7
    refine sym_store st 24 7 10 b7 (Con.raw 1) (Con.nn l (Nat.gcd p q)) [(0, Fact.eq (.bool true)), (4, Fact.cell b4 (Con.nn k p)), (5, Fact.cell b5 (Con.nn l q)), (6, Fact.cell b6 (Con.raw 3)), (7, Fact.cell b7 (Con.nn l (Nat.gcd p q)))] rfl rfl rfl rfl rfl rfl info24 ?_ ?_
    · exact fcs ⟨.inr ⟨rfl, safe_eq _ _⟩, fcs ⟨.inr ⟨rfl, safe_cell _ (by omega)⟩, fcs ⟨.inr ⟨rfl, safe_cell _ (by omega)⟩, fcs ⟨.inr ⟨rfl, safe_cell _ (by omega)⟩, fcs ⟨.inl rfl, fnl⟩⟩⟩⟩⟩
    clear st; intro w3 hB hsz3 st
    have hb := hB _ _ hb (by omega) (by omega)
    clear hB
    refine wpList_nil ?_
    refine then_normal ?_
    refine wp_seq ?_
    refine sym_region st [(12, Fact.agg (Con.nn k p)), (13, Fact.agg (Con.nn l (Nat.gcd p q))), (14, Fact.three (Fact.agg (Con.nn k (p / (Nat.gcd p q)))) (Fact.agg (Con.nn l (p % (Nat.gcd p q)))) (Fact.eq (.int .i64 0))), (11, Fact.three (Fact.agg (Con.nn k (p / (Nat.gcd p q)))) (Fact.agg (Con.nn l (p % (Nat.gcd p q)))) (Fact.eq (.int .i64 0))), (15, Fact.agg (Con.nn k (p / (Nat.gcd p q)))), (16, Fact.agg (Con.nn l (p % (Nat.gcd p q)))), (17, Fact.eq (.int .i64 0))] [] 7 (by kernel_rfl) (by kernel_rfl) (by kernel_rfl) (Nat.le_of_ble_eq_true rfl) (by kernel_rfl) rfl rfl ?_ ?_
    · refine fcs ⟨Ob.new_ (ob_read 24 4 12 (Con.nn k p) rfl rfl (.inl rfl) (by kernel_rfl) points_cell rfl row24 info24) (by kernel_rfl), ?_⟩
      refine fcs ⟨Ob.new_ (ob_read 24 7 13 (Con.nn l (Nat.gcd p q)) rfl rfl (.inl rfl) (by kernel_rfl) points_cell rfl row24 info24) (by kernel_rfl), ?_⟩
      refine fcs ⟨Ob.new_ (ob_call2 51 12 13 14 _ rfl rfl (.inl rfl) (by kernel_rfl) (by kernel_rfl) (by kernel_rfl) (n_divMod k l p (Nat.gcd p q) (Nat.ne_of_gt (Rt.gcd_pos hq)) (by omega) (by omega))) (by kernel_rfl), ?_⟩
      refine fcs ⟨Ob.new_ (ob_copy 14 11 (.inl rfl) rfl (.inl rfl) (by kernel_rfl) rfl) (by kernel_rfl), ?_⟩
      refine fcs ⟨Ob.new_ (ob_3a 11 15 (Fact.agg (Con.nn k (p / (Nat.gcd p q)))) (Fact.agg (Con.nn l (p % (Nat.gcd p q)))) (Fact.eq (.int .i64 0)) rfl rfl (.inl rfl) (by kernel_rfl) rfl rfl) (by kernel_rfl), ?_⟩
      refine fcs ⟨Ob.new_ (ob_3b 11 16 (Fact.agg (Con.nn k (p / (Nat.gcd p q)))) (Fact.agg (Con.nn l (p % (Nat.gcd p q)))) (Fact.eq (.int .i64 0)) rfl rfl (.inl rfl) (by kernel_rfl) rfl rfl) (by kernel_rfl), ?_⟩
      refine fcs ⟨Ob.new_ (ob_3c 11 17 (Fact.agg (Con.nn k (p / (Nat.gcd p q)))) (Fact.agg (Con.nn l (p % (Nat.gcd p q)))) (Fact.eq (.int .i64 0)) rfl rfl (.inl rfl) (by kernel_rfl) rfl rfl) (by kernel_rfl), ?_⟩
      exact fnl
    intro a4 w4 st4 hbr4 hfr
    have hs4 := hbr4.size
    have hb := up hb hbr4
    have st : St 34 [(0, Fact.eq (.bool true)), (4, Fact.cell b4 (Con.nn k p)), (5, Fact.cell b5 (Con.nn l q)), (6, Fact.cell b6 (Con.raw 3)), (7, Fact.cell b7 (Con.nn l (Nat.gcd p q))), (15, Fact.agg (Con.nn k (p / (Nat.gcd p q))))] a4 w4 := st4.to (fcs ⟨st4.at_ 0, fcs ⟨st4.at_ 4, fcs ⟨st4.at_ 5, fcs ⟨st4.at_ 6, fcs ⟨st4.at_ 7, fcs ⟨st4.at_ 15, fnl⟩⟩⟩⟩⟩⟩)
    clear st4 hbr4 hfr
    refine sym_store st 24 4 15 b4 (Con.nn k p) (Con.nn k (p / (Nat.gcd p q))) [(0, Fact.eq (.bool true)), (4, Fact.cell b4 (Con.nn k (p / (Nat.gcd p q)))), (5, Fact.cell b5 (Con.nn l q)), (6, Fact.cell b6 (Con.raw 3)), (7, Fact.cell b7 (Con.nn l (Nat.gcd p q)))] rfl rfl rfl rfl rfl rfl info24 ?_ ?_
    · exact fcs ⟨.inr ⟨rfl, safe_eq _ _⟩, fcs ⟨.inl rfl, fcs ⟨.inr ⟨rfl, safe_cell _ (by omega)⟩, fcs ⟨.inr ⟨rfl, safe_cell _ (by omega)⟩, fcs ⟨.inr ⟨rfl, safe_cell _ (by omega)⟩, fnl⟩⟩⟩⟩⟩
    clear st; intro w5 hB hsz5 st
    have hb := hB _ _ hb (by omega) (by omega)
    clear hB
    refine wpList_nil ?_
    refine then_normal ?_
    refine wp_seq ?_
    refine sym_region st [(19, Fact.agg (Con.nn l q)), (20, Fact.agg (Con.nn l (Nat.gcd p q))), (21, Fact.three (Fact.agg (Con.nn l (q / (Nat.gcd p q)))) (Fact.agg (Con.nn l (q % (Nat.gcd p q)))) (Fact.eq (.int .i64 0))), (18, Fact.three (Fact.agg (Con.nn l (q / (Nat.gcd p q)))) (Fact.agg (Con.nn l (q % (Nat.gcd p q)))) (Fact.eq (.int .i64 0))), (22, Fact.agg (Con.nn l (q / (Nat.gcd p q)))), (23, Fact.agg (Con.nn l (q % (Nat.gcd p q)))), (24, Fact.eq (.int .i64 0))] [] 7 (by kernel_rfl) (by kernel_rfl) (by kernel_rfl) (Nat.le_of_ble_eq_true rfl) (by kernel_rfl) rfl rfl ?_ ?_
    · refine fcs ⟨Ob.new_ (ob_read 24 5 19 (Con.nn l q) rfl rfl (.inl rfl) (by kernel_rfl) points_cell rfl row24 info24) (by kernel_rfl), ?_⟩
      refine fcs ⟨Ob.new_ (ob_read 24 7 20 (Con.nn l (Nat.gcd p q)) rfl rfl (.inl rfl) (by kernel_rfl) points_cell rfl row24 info24) (by kernel_rfl), ?_⟩
      refine fcs ⟨Ob.new_ (ob_call2 51 19 20 21 _ rfl rfl (.inl rfl) (by kernel_rfl) (by kernel_rfl) (by kernel_rfl) (n_divMod l l q (Nat.gcd p q) (Nat.ne_of_gt (Rt.gcd_pos hq)) (by omega) (by omega))) (by kernel_rfl), ?_⟩
      refine fcs ⟨Ob.new_ (ob_copy 21 18 (.inl rfl) rfl (.inl rfl) (by kernel_rfl) rfl) (by kernel_rfl), ?_⟩
      refine fcs ⟨Ob.new_ (ob_3a 18 22 (Fact.agg (Con.nn l (q / (Nat.gcd p q)))) (Fact.agg (Con.nn l (q % (Nat.gcd p q)))) (Fact.eq (.int .i64 0)) rfl rfl (.inl rfl) (by kernel_rfl) rfl rfl) (by kernel_rfl), ?_⟩
      refine fcs ⟨Ob.new_ (ob_3b 18 23 (Fact.agg (Con.nn l (q / (Nat.gcd p q)))) (Fact.agg (Con.nn l (q % (Nat.gcd p q)))) (Fact.eq (.int .i64 0)) rfl rfl (.inl rfl) (by kernel_rfl) rfl rfl) (by kernel_rfl), ?_⟩
      refine fcs ⟨Ob.new_ (ob_3c 18 24 (Fact.agg (Con.nn l (q / (Nat.gcd p q)))) (Fact.agg (Con.nn l (q % (Nat.gcd p q)))) (Fact.eq (.int .i64 0)) rfl rfl (.inl rfl) (by kernel_rfl) rfl rfl) (by kernel_rfl), ?_⟩
      exact fnl
    intro a6 w6 st6 hbr6 hfr
    have hs6 := hbr6.size
    have hb := up hb hbr6
    have st : St 34 [(0, Fact.eq (.bool true)), (4, Fact.cell b4 (Con.nn k (p / (Nat.gcd p q)))), (5, Fact.cell b5 (Con.nn l q)), (6, Fact.cell b6 (Con.raw 3)), (22, Fact.agg (Con.nn l (q / (Nat.gcd p q))))] a6 w6 := st6.to (fcs ⟨st6.at_ 0, fcs ⟨st6.at_ 4, fcs ⟨st6.at_ 5, fcs ⟨st6.at_ 6, fcs ⟨st6.at_ 22, fnl⟩⟩⟩⟩⟩)
    clear st6 hbr6 hfr
    refine sym_store st 24 5 22 b5 (Con.nn l q) (Con.nn l (q / (Nat.gcd p q))) [(0, Fact.eq (.bool true)), (4, Fact.cell b4 (Con.nn k (p / (Nat.gcd p q)))), (5, Fact.cell b5 (Con.nn l (q / (Nat.gcd p q)))), (6, Fact.cell b6 (Con.raw 3))] rfl rfl rfl rfl rfl rfl info24 ?_ ?_
    · exact fcs ⟨.inr ⟨rfl, safe_eq _ _⟩, fcs ⟨.inr ⟨rfl, safe_cell _ (by omega)⟩, fcs ⟨.inl rfl, fcs ⟨.inr ⟨rfl, safe_cell _ (by omega)⟩, fnl⟩⟩⟩⟩
    clear st; intro w7 hB hsz7 st
    have hb := hB _ _ hb (by omega) (by omega)
    clear hB
    refine wpList_nil ?_
    refine then_normal ?_
    refine wp_seq ?_
    refine sym_region st [(25, Fact.eq (.bool true)), (26, Fact.eq (.bool true)), (27, Fact.agg (Con.nn k (p / (Nat.gcd p q)))), (28, Fact.eq (.bool (decide (p / (Nat.gcd p q) = 0)))), (29, Fact.eq (.bool (!(decide (p / (Nat.gcd p q) = 0))))), (30, Fact.eq (.bool (!(decide (p / (Nat.gcd p q) = 0))))), (31, Fact.agg (Con.nn k (p / (Nat.gcd p q)))), (32, Fact.agg (Con.nn l (q / (Nat.gcd p q)))), (33, Fact.agg (Con.tri k l (!(decide (p / (Nat.gcd p q) = 0))) (p / (Nat.gcd p q)) (q / (Nat.gcd p q))))] [] 9 (by kernel_rfl) (by kernel_rfl) (by kernel_rfl) (Nat.le_of_ble_eq_true rfl) (by kernel_rfl) rfl rfl ?_ ?_
    · refine fcs ⟨Ob.new_ (ob_copy 0 25 (.inl rfl) rfl (.inl rfl) (by kernel_rfl) rfl) (by kernel_rfl), ?_⟩
      refine fcs ⟨Ob.new_ (ob_copy 25 26 (.inl rfl) rfl (.inl rfl) (by kernel_rfl) rfl) (by kernel_rfl), ?_⟩
      refine fcs ⟨Ob.new_ (ob_read 24 4 27 (Con.nn k (p / (Nat.gcd p q))) rfl rfl (.inr ⟨_, _, _, rfl, rfl, by kernel_rfl, by decide, rfl⟩) (by kernel_rfl) points_cell rfl row24 info24) (by kernel_rfl), ?_⟩
      refine fcs ⟨Ob.new_ (ob_call1 32 27 28 _ rfl rfl (.inr ⟨_, _, _, rfl, rfl, by kernel_rfl, by decide, rfl⟩) (by kernel_rfl) (by kernel_rfl) (q_isZero k (p / (Nat.gcd p q)) (decide (p / (Nat.gcd p q) = 0)) rfl)) (by kernel_rfl), ?_⟩
      refine fcs ⟨Ob.new_ (ob_not 28 29 (decide (p / (Nat.gcd p q) = 0)) (!(decide (p / (Nat.gcd p q) = 0))) rfl rfl rfl (.inr ⟨_, _, _, rfl, rfl, by kernel_rfl, by decide, rfl⟩) (by kernel_rfl) rfl rfl) (by kernel_rfl), ?_⟩
      refine fcs ⟨Ob.new_ (ob_pick 26 29 30 _ rfl rfl (.inl rfl) (by kernel_rfl) (by kernel_rfl) rfl rfl) (by kernel_rfl), ?_⟩
      refine fcs ⟨Ob.new_ (ob_read 24 4 31 (Con.nn k (p / (Nat.gcd p q))) rfl rfl (.inl rfl) (by kernel_rfl) points_cell rfl row24 info24) (by kernel_rfl), ?_⟩
      refine fcs ⟨Ob.new_ (ob_read 24 5 32 (Con.nn l (q / (Nat.gcd p q))) rfl rfl (.inl rfl) (by kernel_rfl) points_cell rfl row24 info24) (by kernel_rfl), ?_⟩
      refine fcs ⟨Ob.new_ (ob_buildtri 30 31 32 33 k l (p / (Nat.gcd p q)) (q / (Nat.gcd p q)) (!(decide (p / (Nat.gcd p q) = 0))) rfl rfl (.inl rfl) (by kernel_rfl) (by kernel_rfl) (by kernel_rfl) rfl rfl rfl rfl) (by kernel_rfl), ?_⟩
      exact fnl
    intro a8 w8 st8 hbr8 hfr
    have hs8 := hbr8.size
    have hb := up hb hbr8
    have st : St 34 [(6, Fact.cell b6 (Con.raw 3)), (33, Fact.agg (Con.tri k l (!(decide (p / (Nat.gcd p q) = 0))) (p / (Nat.gcd p q)) (q / (Nat.gcd p q))))] a8 w8 := st8.to (fcs ⟨st8.at_ 6, fcs ⟨st8.at_ 33, fnl⟩⟩)
    clear st8 hbr8 hfr
    refine sym_store st 28 6 33 b6 (Con.raw 3) (Con.tri k l (!(decide (p / (Nat.gcd p q) = 0))) (p / (Nat.gcd p q)) (q / (Nat.gcd p q))) [(6, Fact.cell b6 (Con.tri k l (!(decide (p / (Nat.gcd p q) = 0))) (p / (Nat.gcd p q)) (q / (Nat.gcd p q))))] rfl rfl rfl rfl rfl rfl info26 ?_ ?_
    · exact fcs ⟨.inl rfl, fnl⟩
    clear st; intro w9 hB hsz9 st
    have hb := hB _ _ hb (by omega) (by omega)
    clear hB
    refine wpList_nil ?_
    refine then_normal ?_
    refine wp_ret ?_
    exact sym_ret1 rfl st.defers (resAt_cell st 6 b6 28 (Con.tri k l (!(decide (p / (Nat.gcd p q) = 0))) (p / (Nat.gcd p q)) (q / (Nat.gcd p q))) rfl row26 info26) hb (fun _ h => Fact.tri_fr h hq (by simp [Rt.div_gcd_zero hq]) rfl rfl rfl hkr hlr)
end Go.Proofs.YtjfehdkfogdpgaaDoor
namespace Go.Proofs.YtjfehdkfogdpgaaDoor
open Go.RowKit
def Fact.natsAt (g k : Nat) (ns : List Nat) : Fact := ⟨fun v w => ∃ c, v = .slice (some ⟨g, 0, none⟩) ns.length c ∧ ∀ i n, ns[i]? = some n → Lies w g i (Con.nn k n), fun _ _ _ ⟨c, h, hl⟩ hb => ⟨c, h, fun i n hn => (hl i n hn).below hb⟩⟩
theorem safe_natsAt {b g k : Nat} {ns : List Nat} (hne : g ≠ b) : Safe b (Fact.natsAt g k ns) := fun _ _ vs hr ⟨c, h, hl⟩ => ⟨c, h, fun i n hn => (hl i n hn).other (hr.soft vs rfl) hne⟩
def prods (ns : List Nat) : Nat := ns.foldl (· * ·) 1
theorem prods_take (ns : List Nat) (j : Nat) (h : j < ns.length) : prods (ns.take (j + 1)) = prods (ns.take j) * ns[j] := by
  unfold prods
  rw [List.take_succ_eq_append_getElem h, List.foldl_append]; rfl
theorem index77 (w : World) (g n c j : Nat) (h : j < n) : (Instr.indexAt 82 (.slice (some ⟨g, 0, none⟩) n c) (.int .i64 (j : Int))).run Tryd.prog w = .ok (.pointer (some ⟨g, j, none⟩)) w := by
  go_simp
section
variable {ops : Array Oper} {Q : Exit → Act → World → Prop} {F : Nat → Fact} {base : List Nat} {N : Nat} {o : Oper}
theorem ob_len (t d n : Nat) (ty : TypeId) (ho : o.op = .call { callee := .builtin .len, args := #[.tmp t], argTypes := #[ty] }) (hsl : Tryd.prog.underlying ty = some (.slice (Tryd.prog.elem ty))) (hd : o.dst = some d) (hg : GuardOk ops F base N o) (hk : known ops base o t = true) (hv : ∀ v w, (F t).holds v w → ∃ A c, v = .slice A n c) (hF : F d = Fact.eq (.int .i64 (n : Int))) : Ob ops Q F base N o :=
  ob_val hg fun a w hf => by
    obtain ⟨A, c, h2⟩ := hv _ _ (hf t hk)
    have h3 : a.eval (.tmp t) = .slice A n c := h2
    refine ⟨.int .i64 (n : Int), w, ?_, Below.refl _ _, fun x hx => by rw [hd] at hx; injection hx with hx; subst hx; rw [hF]; rfl⟩
    have hlen := run_len_slice w ty o.type A n c hsl
    simp [execOp, ho, resolve, h3, invoke, builtin, hlen]
    rfl
theorem len_natsAt {g k : Nat} {ns : List Nat} : ∀ v w, (Fact.natsAt g k ns).holds v w → ∃ A c, v = .slice A ns.length c := fun _ _ ⟨c, h, _⟩ => ⟨_, c, h⟩
theorem ob_indexNats (t u d g k j : Nat) (ns : List Nat) (hj : j < ns.length) (ho : o.op = .indexAddr 82 (.tmp t) (.tmp u)) (hd : o.dst = some d) (hg : GuardOk ops F base N o) (hk : known ops base o t = true) (hk2 : known ops base o u = true) (hv : F t = Fact.natsAt g k ns) (hv2 : F u = Fact.eq (.int .i64 (j : Int))) (hF : F d = Fact.ptr (Con.nn k ns[j])) : Ob ops Q F base N o :=
  ob_val hg fun a w hf => by
    have h1 := hf t hk
    have h2 := hf u hk2
    rw [hv] at h1
    rw [hv2] at h2
    obtain ⟨c, h3, hl⟩ := h1
    have h3' : a.eval (.tmp t) = .slice (some ⟨g, 0, none⟩) ns.length c := h3
    have h2' : a.eval (.tmp u) = .int .i64 (j : Int) := h2
    refine ⟨.pointer (some ⟨g, j, none⟩), w, by simp [execOp, ho, h3', h2', index77 w g ns.length c j hj], Below.refl _ _, fun x hx => ?_⟩
    rw [hd] at hx; injection hx with hx; subst hx; rw [hF]
    exact ⟨g, j, rfl, hl j _ (List.getElem?_eq_getElem hj)⟩
theorem go_lss2 (k : IntKind) (b c : Int) (a : Act) (w : World) (t u : Nat) (ty ty' : TypeId) (o : Oper) (ho : o.op = .binOp .lss ty (.tmp t) (.tmp u) ty') (h1 : a.eval (.tmp t) = .int k b) (h2 : a.eval (.tmp u) = .int k c) :
    (execOp a.eval o).run Tryd.prog w = .ok (.value (.bool (decide (b < c)))) w := go_lss k b c a w (.tmp u) ty ty' o t ho h1 h2
theorem ob_lt2 (t u d : Nat) (k : IntKind) (ty ty' : TypeId) (x y : Int) (b : Bool) (hb : decide (x < y) = b) (ho : o.op = .binOp .lss ty (.tmp t) (.tmp u) ty') (hd : o.dst = some d) (hg : GuardOk ops F base N o) (hk : known ops base o t = true) (hk2 : known ops base o u = true) (hv : F t = Fact.eq (.int k x)) (hv2 : F u = Fact.eq (.int k y)) (hF : F d = Fact.eq (.bool b)) : Ob ops Q F base N o :=
  ob_two t u d _ _ _ hd hg hk hk2 hv hv2 hF fun a w h1 h2 => by
    subst hb
    exact go_lss2 k x y a w t u ty ty' o ho h1 h2
theorem ob_inc (t d : Nat) (ty ty' : TypeId) (j : Nat) (hj : j < 1000000000) (ho : o.op = .binOp .add ty (.tmp t) (.const (.int .i64 1)) ty') (hd : o.dst = some d) (hg : GuardOk ops F base N o) (hk : known ops base o t = true) (hv : F t = Fact.eq (.int .i64 (j : Int))) (hF : F d = Fact.eq (.int .i64 ((j + 1 : Nat) : Int))) : Ob ops Q F base N o :=
  ob_one t d _ _ hd hg hk hv hF fun a w h1 => by
    have h3 : a.eval (.const (.int .i64 1)) = .int .i64 1 := rfl
    have hw : IntKind.i64.wrap ((j : Int) + 1) = ((j + 1 : Nat) : Int) := by
      rw [show ((j + 1 : Nat) : Int) = (j : Int) + 1 from by omega]
      exact IntWalk.i64_in _ (by omega)
    simp [execOp, ho, h1, h3]
    go_simp
end
end Go.Proofs.YtjfehdkfogdpgaaDoor
namespace Go.Proofs.YtjfehdkfogdpgaaDoor
open Go.RowKit
set_option maxRecDepth 100000 in
theorem q_productAt (g k : Nat) (ns : List Nat) (hl : ns.length ≤ 100) (hk : k * ns.length + 1 ≤ 400) : ∀ v0 w, g < w.heap.size → (Fact.natsAt g k ns).holds v0 w → Calls Tryd.prog 42 #[v0] w (Ret (Fact.nn (k * ns.length + 1) (prods ns)) w) := by
  intro v0 w hgw hv0
  refine sym_calls 18 [(0, Fact.natsAt g k ns)] Tryd.func42 rfl rfl (Nat.le_of_ble_eq_true rfl) (fcs ⟨⟨Nat.le_of_ble_eq_true rfl, hv0⟩, fnl⟩) fun a st => ?_
  have hb := Below.refl w.heap.size w
  refine wp_seq ?_
  refine sym_region st [(2, Fact.var' (Con.raw 1))] [2] 1 (by kernel_rfl) (by kernel_rfl) (by kernel_rfl) (Nat.le_of_ble_eq_true rfl) (by kernel_rfl) rfl rfl ?_ ?_
  · refine fcs ⟨obn_new 24 2 _ [.slice none 0 0] rfl rfl rfl rfl rfl alloc24, ?_⟩
    exact fnl
  intro a1 w1 st1 hbr1 hfr
  have hs1 := hbr1.size
  have hb := up hb hbr1
  obtain ⟨b2, c2⟩ := (show (Fact.var' (Con.raw 1)).holds _ _ from st1.at_ 2)
  have g2 := hfr.ge (s := 2) rfl c2.1
  have st : St 18 [(0, Fact.natsAt g k ns), (2, Fact.cell b2 (Con.raw 1))] a1 w1 := st1.to (fcs ⟨st1.at_ 0, fcs ⟨c2, fnl⟩⟩)
  clear st1 hbr1 hfr c2
  refine wpList_nil ?_
  refine then_normal ?_
  refine wp_seq ?_
  refine sym_region st [(6, Fact.agg (Con.nn 1 1)), (3, Fact.var' (Con.raw 1))] [3] 2 (by kernel_rfl) (by kernel_rfl) (by kernel_rfl) (Nat.le_of_ble_eq_true rfl) (by kernel_rfl) rfl rfl ?_ ?_
  · refine fcs ⟨Ob.new_ (ob_callc 27 _ 6 _ rfl rfl (.inl rfl) (by kernel_rfl) (n_of 1 1 (by decide) (by unfold Nm.Sz; decide) (by decide))) (by kernel_rfl), ?_⟩
    refine fcs ⟨obn_new 24 3 _ [.slice none 0 0] rfl rfl rfl rfl rfl alloc24, ?_⟩
    exact fnl
  intro a2 w2 st2 hbr2 hfr
  have hs2 := hbr2.size
  have hb := up hb hbr2
  obtain ⟨b3, c3⟩ := (show (Fact.var' (Con.raw 1)).holds _ _ from st2.at_ 3)
  have g3 := hfr.ge (s := 3) rfl c3.1
  have st : St 18 [(0, Fact.natsAt g k ns), (2, Fact.cell b2 (Con.raw 1)), (6, Fact.agg (Con.nn 1 1)), (3, Fact.cell b3 (Con.raw 1))] a2 w2 := st2.to (fcs ⟨st2.at_ 0, fcs ⟨st2.at_ 2, fcs ⟨st2.at_ 6, fcs ⟨c3, fnl⟩⟩⟩⟩)
  clear st2 hbr2 hfr c3
  refine sym_store st 24 3 6 b3 (Con.raw 1) (Con.nn 1 1) [(0, Fact.natsAt g k ns), (2, Fact.cell b2 (Con.raw 1)), (3, Fact.cell b3 (Con.nn 1 1))] rfl rfl rfl rfl rfl rfl info24 ?_ ?_
  · exact fcs ⟨.inr ⟨rfl, safe_natsAt (by omega)⟩, fcs ⟨.inr ⟨rfl, safe_cell _ (by omega)⟩, fcs ⟨.inl rfl, fnl⟩⟩⟩
  clear st; intro w3 hB hsz3 st
  have hb := hB _ _ hb (by omega) (by omega)
  clear hB
  refine wpList_nil ?_
  refine then_normal ?_
  refine wp_seq ?_
  refine wp_seq ?_
  refine sym_region st [(7, Fact.natsAt g k ns), (8, Fact.eq (.int .i64 (ns.length : Int))), (9, Fact.eq (.int .i64 0))] [] 3 (by kernel_rfl) (by kernel_rfl) (by kernel_rfl) (Nat.le_of_ble_eq_true rfl) (by kernel_rfl) rfl rfl ?_ ?_
  · refine fcs ⟨Ob.new_ (ob_copy 0 7 (.inl rfl) rfl (.inl rfl) (by kernel_rfl) rfl) (by kernel_rfl), ?_⟩
    refine fcs ⟨Ob.new_ (ob_len 7 8 ns.length 82 rfl (by kernel_rfl) rfl (.inl rfl) (by kernel_rfl) len_natsAt rfl) (by kernel_rfl), ?_⟩
    refine fcs ⟨Ob.new_ (ob_const (.int .i64 0) 9 (.inl rfl) rfl (.inl rfl) rfl) (by kernel_rfl), ?_⟩
    exact fnl
  intro a4 w4 st4 hbr4 hfr
  have hs4 := hbr4.size
  have hb := up hb hbr4
  have st : St 18 [(2, Fact.cell b2 (Con.raw 1)), (3, Fact.cell b3 (Con.nn 1 1)), (7, Fact.natsAt g k ns), (8, Fact.eq (.int .i64 (ns.length : Int))), (9, Fact.eq (.int .i64 0))] a4 w4 := st4.to (fcs ⟨st4.at_ 2, fcs ⟨st4.at_ 3, fcs ⟨st4.at_ 7, fcs ⟨st4.at_ 8, fcs ⟨st4.at_ 9, fnl⟩⟩⟩⟩⟩)
  clear st4 hbr4 hfr
  refine wpList_nil ?_
  refine then_normal ?_
  refine wp_block ?_
  refine wp_loop_ghost (fun n a w0 => ∃ (j : Nat), (j ≤ ns.length) ∧ St 18 [(2, Fact.cell b2 (Con.raw 1)), (3, Fact.cell b3 (Con.nn (k * j + 1) (prods (ns.take j)))), (7, Fact.natsAt g k ns), (8, Fact.eq (.int .i64 (ns.length : Int))), (9, Fact.eq (.int .i64 (j : Int)))] a w0 ∧ Below w.heap.size w w0 ∧ ns.length - j = n) (ns.length - 0) ⟨0, Nat.zero_le _, st.to (fcs ⟨st.at_ 2, fcs ⟨st.at_ 3, fcs ⟨st.at_ 7, fcs ⟨st.at_ 8, fcs ⟨st.at_ 9, fnl⟩⟩⟩⟩⟩), hb, rfl⟩ ?_
  clear st hb
  rintro n a w5 ⟨j, hjl, st, hb, rfl⟩
  have hs0 := hb.size
  have l2_5 := (show (Fact.cell b2 (Con.raw 1)).holds _ _ from st.at_ 2).2.1.lt
  have l3_5 := (show (Fact.cell b3 (Con.nn (k * j + 1) (prods (ns.take j)))).holds _ _ from st.at_ 3).2.1.lt
  refine wp_seq ?_
  refine sym_region st [(10, Fact.eq (.bool (decide ((j : Int) < (ns.length : Int)))))] [] 1 (by kernel_rfl) (by kernel_rfl) (by kernel_rfl) (Nat.le_of_ble_eq_true rfl) (by kernel_rfl) rfl rfl ?_ ?_
  · refine fcs ⟨Ob.new_ (ob_lt2 9 8 10 .i64 _ _ (j : Int) (ns.length : Int) (decide ((j : Int) < (ns.length : Int))) rfl rfl rfl (.inl rfl) (by kernel_rfl) (by kernel_rfl) rfl rfl rfl) (by kernel_rfl), ?_⟩
    exact fnl
  intro a6 w6 st6 hbr6 hfr
  have hs6 := hbr6.size
  have hb := up hb hbr6
  have st : St 18 [(2, Fact.cell b2 (Con.raw 1)), (3, Fact.cell b3 (Con.nn (k * j + 1) (prods (ns.take j)))), (7, Fact.natsAt g k ns), (8, Fact.eq (.int .i64 (ns.length : Int))), (9, Fact.eq (.int .i64 (j : Int))), (10, Fact.eq (.bool (decide ((j : Int) < (ns.length : Int)))))] a6 w6 := st6.to (fcs ⟨st6.at_ 2, fcs ⟨st6.at_ 3, fcs ⟨st6.at_ 7, fcs ⟨st6.at_ 8, fcs ⟨st6.at_ 9, fcs ⟨st6.at_ 10, fnl⟩⟩⟩⟩⟩⟩)
  clear st6 hbr6 hfr
  refine wpList_nil ?_
  refine then_normal ?_
  refine wp_seq ?_
  refine wp_cond_split (st.at_ 10) (fun hlt => ?_) (fun hlt => ?_)
  · skip
    have hj : j < ns.length := by have := of_decide_eq_true hlt; omega
    have hm : k * j + k ≤ k * ns.length := by rw [← Nat.mul_succ]; exact Nat.mul_le_mul_left k hj
    refine wp_skip ?_
    refine then_normal ?_
    refine wp_seq ?_
    refine wp_block ?_
    refine wp_seq ?_
    refine sym_region st [(11, Fact.ptr (Con.nn k (ns[j]))), (12, Fact.agg (Con.nn k (ns[j]))), (5, Fact.var' (Con.raw 1))] [5] 3 (by kernel_rfl) (by kernel_rfl) (by kernel_rfl) (Nat.le_of_ble_eq_true rfl) (by kernel_rfl) rfl rfl ?_ ?_
    · refine fcs ⟨Ob.new_ (ob_indexNats 7 9 11 g k j ns hj rfl rfl (.inl rfl) (by kernel_rfl) (by kernel_rfl) rfl rfl rfl) (by kernel_rfl), ?_⟩
      refine fcs ⟨Ob.new_ (ob_read 24 11 12 (Con.nn k (ns[j])) rfl rfl (.inl rfl) (by kernel_rfl) points_ptr rfl row24 info24) (by kernel_rfl), ?_⟩
      refine fcs ⟨obn_new 24 5 _ [.slice none 0 0] rfl rfl rfl rfl rfl alloc24, ?_⟩
      exact fnl
    intro a7 w7 st7 hbr7 hfr
    have hs7 := hbr7.size
    have hb := up hb hbr7
    obtain ⟨b5, c5⟩ := (show (Fact.var' (Con.raw 1)).holds _ _ from st7.at_ 5)
    have g5 := hfr.ge (s := 5) rfl c5.1
    have st : St 18 [(2, Fact.cell b2 (Con.raw 1)), (3, Fact.cell b3 (Con.nn (k * j + 1) (prods (ns.take j)))), (7, Fact.natsAt g k ns), (8, Fact.eq (.int .i64 (ns.length : Int))), (9, Fact.eq (.int .i64 (j : Int))), (12, Fact.agg (Con.nn k (ns[j]))), (5, Fact.cell b5 (Con.raw 1))] a7 w7 := st7.to (fcs ⟨st7.at_ 2, fcs ⟨st7.at_ 3, fcs ⟨st7.at_ 7, fcs ⟨st7.at_ 8, fcs ⟨st7.at_ 9, fcs ⟨st7.at_ 12, fcs ⟨c5, fnl⟩⟩⟩⟩⟩⟩⟩)
    clear st7 hbr7 hfr c5
    refine sym_store st 24 5 12 b5 (Con.raw 1) (Con.nn k (ns[j])) [(2, Fact.cell b2 (Con.raw 1)), (3, Fact.cell b3 (Con.nn (k * j + 1) (prods (ns.take j)))), (7, Fact.natsAt g k ns), (8, Fact.eq (.int .i64 (ns.length : Int))), (9, Fact.eq (.int .i64 (j : Int))), (5, Fact.cell b5 (Con.nn k (ns[j])))] rfl rfl rfl rfl rfl rfl info24 ?_ ?_
    · exact fcs ⟨.inr ⟨rfl, safe_cell _ (by omega)⟩, fcs ⟨.inr ⟨rfl, safe_cell _ (by omega)⟩, fcs ⟨.inr ⟨rfl, safe_natsAt (by omega)⟩, fcs ⟨.inr ⟨rfl, safe_eq _ _⟩, fcs ⟨.inr ⟨rfl, safe_eq _ _⟩, fcs ⟨.inl rfl, fnl⟩⟩⟩⟩⟩⟩
    clear st; intro w8 hB hsz8 st
    have hb := hB _ _ hb (by omega) (by omega)
    clear hB
    refine wpList_nil ?_
    refine then_normal ?_
    refine sym_region st [(13, Fact.agg (Con.nn (k * j + 1) (prods (ns.take j)))), (14, Fact.agg (Con.nn k (ns[j]))), (15, Fact.agg (Con.nn ((k * j + 1) + k) ((prods (ns.take j)) * (ns[j]))))] [] 3 (by kernel_rfl) (by kernel_rfl) (by kernel_rfl) (Nat.le_of_ble_eq_true rfl) (by kernel_rfl) rfl rfl ?_ ?_
    · refine fcs ⟨Ob.new_ (ob_read 24 3 13 (Con.nn (k * j + 1) (prods (ns.take j))) rfl rfl (.inl rfl) (by kernel_rfl) points_cell rfl row24 info24) (by kernel_rfl), ?_⟩
      refine fcs ⟨Ob.new_ (ob_read 24 5 14 (Con.nn k (ns[j])) rfl rfl (.inl rfl) (by kernel_rfl) points_cell rfl row24 info24) (by kernel_rfl), ?_⟩
      refine fcs ⟨Ob.new_ (ob_call2 64 13 14 15 _ rfl rfl (.inl rfl) (by kernel_rfl) (by kernel_rfl) (by kernel_rfl) (n_mul (k * j + 1) k (prods (ns.take j)) (ns[j]) (by omega))) (by kernel_rfl), ?_⟩
      exact fnl
    intro a9 w9 st9 hbr9 hfr
    have hs9 := hbr9.size
    have hb := up hb hbr9
    have st : St 18 [(2, Fact.cell b2 (Con.raw 1)), (3, Fact.cell b3 (Con.nn (k * j + 1) (prods (ns.take j)))), (7, Fact.natsAt g k ns), (8, Fact.eq (.int .i64 (ns.length : Int))), (9, Fact.eq (.int .i64 (j : Int))), (15, Fact.agg (Con.nn ((k * j + 1) + k) ((prods (ns.take j)) * (ns[j]))))] a9 w9 := st9.to (fcs ⟨st9.at_ 2, fcs ⟨st9.at_ 3, fcs ⟨st9.at_ 7, fcs ⟨st9.at_ 8, fcs ⟨st9.at_ 9, fcs ⟨st9.at_ 15, fnl⟩⟩⟩⟩⟩⟩)
    clear st9 hbr9 hfr
    refine sym_store st 24 3 15 b3 (Con.nn (k * j + 1) (prods (ns.take j))) (Con.nn ((k * j + 1) + k) ((prods (ns.take j)) * (ns[j]))) [(2, Fact.cell b2 (Con.raw 1)), (3, Fact.cell b3 (Con.nn ((k * j + 1) + k) ((prods (ns.take j)) * (ns[j])))), (7, Fact.natsAt g k ns), (8, Fact.eq (.int .i64 (ns.length : Int))), (9, Fact.eq (.int .i64 (j : Int)))] rfl rfl rfl rfl rfl rfl info24 ?_ ?_
    · exact fcs ⟨.inr ⟨rfl, safe_cell _ (by omega)⟩, fcs ⟨.inl rfl, fcs ⟨.inr ⟨rfl, safe_natsAt (by omega)⟩, fcs ⟨.inr ⟨rfl, safe_eq _ _⟩, fcs ⟨.inr ⟨rfl, safe_eq _ _⟩, fnl⟩⟩⟩⟩⟩
    clear st; intro w10 hB hsz10 st
    have hb := hB _ _ hb (by omega) (by omega)
    clear hB
    refine wpList_nil ?_
    refine inBlock_normal ?_
    refine then_normal ?_
    refine wp_region_lit ?_
    refine sym_op st 16 (Fact.eq (.int .i64 ((j + 1 : Nat) : Int))) rfl (Nat.le_of_ble_eq_true rfl) rfl rfl (by kernel_rfl) (ob_inc 9 16 _ _ j (by omega) rfl rfl (.inl rfl) (by kernel_rfl) rfl rfl) ?_
    clear st; intro a12 w12 hbr st; have hs12 := hbr.size; have hb := up hb hbr; clear hbr
    have st := st.to (ks' := [(2, Fact.cell b2 (Con.raw 1)), (3, Fact.cell b3 (Con.nn ((k * j + 1) + k) ((prods (ns.take j)) * (ns[j])))), (7, Fact.natsAt g k ns), (8, Fact.eq (.int .i64 (ns.length : Int))), (16, Fact.eq (.int .i64 ((j + 1 : Nat) : Int)))]) (fcs ⟨st.at_ 2, fcs ⟨st.at_ 3, fcs ⟨st.at_ 7, fcs ⟨st.at_ 8, fcs ⟨st.at_ 16, fnl⟩⟩⟩⟩⟩)
    refine sym_op st 9 (Fact.eq (.int .i64 ((j + 1 : Nat) : Int))) rfl (Nat.le_of_ble_eq_true rfl) rfl rfl (by kernel_rfl) (ob_copy 16 9 (.inl rfl) rfl (.inl rfl) (by kernel_rfl) rfl) ?_
    clear st; intro a13 w13 hbr st; have hs13 := hbr.size; have hb := up hb hbr; clear hbr
    refine wpList_nil ?_
    refine then_normal ⟨_, ?_, j + 1, hj, st.to (fcs ⟨st.at_ 2, fcs ⟨(show (Fact.cell b3 (Con.nn (k * (j + 1) + 1) (prods (ns.take (j + 1))))).holds _ _ by rw [prods_take ns j hj, show k * (j + 1) + 1 = k * j + 1 + k from by rw [Nat.mul_add]; omega]; exact st.at_ 3), fcs ⟨st.at_ 7, fcs ⟨st.at_ 8, fcs ⟨st.at_ 9, fnl⟩⟩⟩⟩⟩), hb, rfl⟩
    · omega
  · skip
    have hj : j = ns.length := by have := of_decide_eq_false hlt; omega
    refine wp_exit ?_
    refine then_exit ?_
    refine then_exit ?_
    refine inBlock_exit ?_
    refine then_normal ?_
    refine wp_seq ?_
    refine sym_region st [(17, Fact.agg (Con.nn (k * j + 1) (prods (ns.take j))))] [] 1 (by kernel_rfl) (by kernel_rfl) (by kernel_rfl) (Nat.le_of_ble_eq_true rfl) (by kernel_rfl) rfl rfl ?_ ?_
    · refine fcs ⟨Ob.new_ (ob_read 24 3 17 (Con.nn (k * j + 1) (prods (ns.take j))) rfl rfl (.inl rfl) (by kernel_rfl) points_cell rfl row24 info24) (by kernel_rfl), ?_⟩
      exact fnl
    intro a14 w14 st14 hbr14 hfr
    have hs14 := hbr14.size
    have hb := up hb hbr14
    have st : St 18 [(2, Fact.cell b2 (Con.raw 1)), (17, Fact.agg (Con.nn (k * j + 1) (prods (ns.take j))))] a14 w14 := st14.to (fcs ⟨st14.at_ 2, fcs ⟨st14.at_ 17, fnl⟩⟩)
    clear st14 hbr14 hfr
    refine sym_store st 24 2 17 b2 (Con.raw 1) (Con.nn (k * j + 1) (prods (ns.take j))) [(2, Fact.cell b2 (Con.nn (k * j + 1) (prods (ns.take j))))] rfl rfl rfl rfl rfl rfl info24 ?_ ?_
    · exact fcs ⟨.inl rfl, fnl⟩
    clear st; intro w15 hB hsz15 st
    have hb := hB _ _ hb (by omega) (by omega)
    clear hB
    refine wpList_nil ?_
    refine then_normal ?_
    refine wp_ret ?_
    exact sym_ret1 rfl st.defers (resAt_cell st 2 b2 24 (Con.nn (k * j + 1) (prods (ns.take j))) rfl row24 info24) hb (fun _ h => by rw [hj, List.take_length] at h; exact h)
theorem q_products (k : Nat) (ns : List Nat) (h0 : ns ≠ []) (hl : ns.length ≤ 100) (hk : k * ns.length + 1 ≤ 400) : ∀ v0 w, (Fact.nats k ns).holds v0 w → Calls Tryd.prog 42 #[v0] w (Ret (Fact.nn (k * ns.length + 1) (prods ns)) w) := by
  rintro v0 w ⟨g, c, rfl, h⟩
  have h1 : 0 < ns.length := List.length_pos_iff.2 h0
  exact q_productAt g k ns hl hk _ w (h 0 _ (List.getElem?_eq_getElem h1)).lt ⟨c, rfl, h⟩
theorem q_product (k p q : Nat) (hk : k * 2 + 1 ≤ 400) : ∀ v0 w, (Fact.nats k [p, q]).holds v0 w → Calls Tryd.prog 42 #[v0] w (Ret (Fact.nn (k + k) (p * q)) w) := by
  intro v0 w h
  obtain ⟨g, c, rfl, h'⟩ := h
  have z : Nm.Sz (k + k) (p * q) := by
    obtain ⟨_, _, _, _, _, _, _, zp⟩ := (h' 0 p rfl)
    obtain ⟨_, _, _, _, _, _, _, zq⟩ := (h' 1 q rfl)
    exact zp.mul zq
  refine (q_products k [p, q] (by simp) (by simp) (by simpa using hk) _ w ⟨g, c, rfl, h'⟩).mono fun e w' h => h.to fun v hv => ?_
  have e1 : prods [p, q] = p * q := by simp [prods]
  rw [e1] at hv
  exact Fact.num_nn (Fact.nn_num hv).1 z
end Go.Proofs.YtjfehdkfogdpgaaDoor
namespace Go.Proofs.YtjfehdkfogdpgaaDoor
open Go.RowKit
set_option maxHeartbeats 400000 in
theorem clone_gen (A : Option Addr) (n c : Nat) (zs : List Nat) (w : World) (h : Rd w A zs) (hc : zs.length = n) (hm : zs.length ≤ 1000) (hnc : n ≤ c) :
    Calls Tryd.prog 53 #[.slice A n c] w fun e w' => ∃ A' c', e = .returned (.slice A' n c') ∧ n ≤ c' ∧ Fr w.heap.size w' A' zs ∧ Below w.heap.size w w' := by
  subst hc
  cases A with
  | none =>
    have hz : zs = [] := by
      rcases h with h | ⟨g, off, h, _⟩
      · exact h
      · cases h
    subst hz
    have hnil := Lib.run_eql_slice_nil (P := Tryd.prog) w 22 48 none 0 c 0 0 Tryd.underlying22
    go_enter Tryd.func53, Tryd.ntmps53
    go_wp2
    go_ret
    exact ⟨none, 0, rfl, Nat.le_refl _, Fr.nil _ _ _, Below.refl _ _⟩
  | some a =>
    have hnil := Lib.run_eql_slice_nil (P := Tryd.prog) w 22 48 (some a) zs.length c 0 0 Tryd.underlying22
    go_enter Tryd.func53, Tryd.ntmps53
    go_wp2_with (at_builtin
                 refine wpList_tight rfl (.tmp 5) (.tmp 6) rfl _ (some a) [] zs 0 c rfl rfl (Rd.nil _ _) rfl (h.alloc _) (by simp) (by omega) (.inr rfl) ?_
                 intro A' c' w' hc hf hb)
    go_ret
    exact ⟨A', c', by simp, by omega, (by simpa using hf : Fr _ _ _ zs).mono (by simp), up (one _ _) hb⟩
def Fact.rown (k p : Nat) : Fact := ⟨fun v w => ∃ A c, v = .slice A (Nm.nat p).length c ∧ Num w A (Nm.nat p).length c (Nm.nat p) ∧ Nm.Sz k p, fun _ _ _ ⟨A, c, h, hn, hz⟩ hb => ⟨A, c, h, hn.below hb, hz⟩⟩
theorem q_clone (k p : Nat) : ∀ v w, (Fact.rown k p).holds v w → Calls Tryd.prog 53 #[v] w (Ret (Fact.rown k p) w) := by
  rintro v w ⟨A, c, rfl, hn, hz⟩
  refine (clone_gen A _ c _ w hn.rd rfl (by have := hn.small; omega) hn.cap).mono fun e w' ⟨A', c', he, hc, hf, hb⟩ => ⟨_, he, hb, A', c', rfl, hf.num hc hn.dig hn.small, hz⟩
theorem load22 (w : World) (b o : Nat) (A : Option Addr) (n c : Nat) (h : w.cell? ⟨b, o, none⟩ = some (.slice A n c)) : (Instr.loadAt 22 (.pointer (some ⟨b, o, none⟩))).run Tryd.prog w = .ok (.slice A n c) w := by go_simp
theorem build24 (w : World) (A : Option Addr) (n c : Nat) : (Instr.build 24 #[(0, .slice A n c)]).run Tryd.prog w = .ok (.agg #[.slice A n c]) w := by go_simp
section
variable {ops : Array Oper} {Q : Exit → Act → World → Prop} {F : Nat → Fact} {base : List Nat} {N : Nat} {o : Oper}
theorem ob_loadrow (t d k p : Nat) (ho : o.op = .load 22 (.tmp t)) (hd : o.dst = some d) (hg : GuardOk ops F base N o) (hk : known ops base o t = true) (hv : Points (F t) (Con.nn k p)) (hF : F d = Fact.rown k p) : Ob ops Q F base N o :=
  ob_val hg fun a w hf => by
    obtain ⟨b, off, h2, _, cs, hc, A, c, rfl, hn, hz⟩ := hv _ _ (hf t hk)
    have h3 : a.eval (.tmp t) = .pointer (some ⟨b, off, none⟩) := h2
    have h4 := load22 w b off A _ c (by simpa using hc 0 _ rfl)
    refine ⟨.slice A (Nm.nat p).length c, w, by simp [execOp, ho, h3, h4], Below.refl _ _, fun s hs => ?_⟩
    rw [hd] at hs; injection hs with hs; subst hs; rw [hF]
    exact ⟨A, c, rfl, hn, hz⟩
theorem ob_buildnn (t d k p : Nat) (ho : o.op = .build 24 #[(0, .tmp t)]) (hd : o.dst = some d) (hg : GuardOk ops F base N o) (hk : known ops base o t = true) (hv : F t = Fact.rown k p) (hF : F d = Fact.agg (Con.nn k p)) : Ob ops Q F base N o :=
  ob_val hg fun a w hf => by
    have h1 := hf t hk
    rw [hv] at h1
    obtain ⟨A, c, h2, hn, hz⟩ := h1
    have h3 : a.eval (.tmp t) = .slice A (Nm.nat p).length c := h2
    refine ⟨.agg #[.slice A (Nm.nat p).length c], w, by simp [execOp, ho, h3, build24], Below.refl _ _, fun s hs => ?_⟩
    rw [hd] at hs; injection hs with hs; subst hs; rw [hF]
    exact ⟨[_], rfl, A, c, rfl, hn, hz⟩
end
theorem len_rown {k p : Nat} : ∀ v w, (Fact.rown k p).holds v w → ∃ A c, v = .slice A (Nm.nat p).length c := fun _ _ ⟨A, c, h, _⟩ => ⟨A, c, h⟩
end Go.Proofs.YtjfehdkfogdpgaaDoor
namespace Go.Proofs.YtjfehdkfogdpgaaDoor
open Go.RowKit
set_option maxRecDepth 100000 in
theorem q_make (k l r : Nat) (s : Bool) (p q : Nat) (hq : q ≠ 0) (hkr : k ≤ r) (hlr : l ≤ r) (hr : r ≤ 400) : ∀ v0 v1 v2 w, (Fact.eq (.bool s)).holds v0 w → (Fact.agg (Con.nn k p)).holds v1 w → (Fact.agg (Con.nn l q)).holds v2 w → Calls Tryd.prog 13 #[v0, v1, v2] w (Ret (Fact.two (Fact.fr r (Rt.of s p q)) (Fact.eq (.int .i64 0))) w) := by
  intro v0 v1 v2 w hv0 hv1 hv2
  refine sym_calls 15 [(0, Fact.eq (.bool s)), (1, Fact.agg (Con.nn k p)), (2, Fact.agg (Con.nn l q))] Tryd.func13 rfl rfl (Nat.le_of_ble_eq_true rfl) (fcs ⟨⟨Nat.le_of_ble_eq_true rfl, hv0⟩, fcs ⟨⟨Nat.le_of_ble_eq_true rfl, hv1⟩, fcs ⟨⟨Nat.le_of_ble_eq_true rfl, hv2⟩, fnl⟩⟩⟩) fun a st => ?_
  have hb := Below.refl w.heap.size w
  refine wp_seq ?_
  refine sym_region st [(4, Fact.var' (Con.nn k p)), (5, Fact.var' (Con.nn l q)), (6, Fact.var' (Con.raw 3)), (7, Fact.eq (.int .i64 0))] [4, 5, 6] 4 (by kernel_rfl) (by kernel_rfl) (by kernel_rfl) (Nat.le_of_ble_eq_true rfl) (by kernel_rfl) rfl rfl ?_ ?_
  · refine fcs ⟨obn_box 24 1 4 _ (Con.nn k p) rfl rfl rfl (by kernel_rfl) rfl rfl, ?_⟩
    refine fcs ⟨obn_box 24 2 5 _ (Con.nn l q) rfl rfl rfl (by kernel_rfl) rfl rfl, ?_⟩
    refine fcs ⟨obn_new 28 6 _ [.bool false, .slice none 0 0, .slice none 0 0] rfl rfl rfl rfl rfl alloc26, ?_⟩
    refine fcs ⟨Ob.new_ (ob_const (.int .i64 0) 7 (.inr rfl) rfl (.inl rfl) rfl) (by kernel_rfl), ?_⟩
    exact fnl
  intro a1 w1 st1 hbr1 hfr
  have hs1 := hbr1.size
  have hb := up hb hbr1
  obtain ⟨b4, c4⟩ := (show (Fact.var' (Con.nn k p)).holds _ _ from st1.at_ 4)
  have g4 := hfr.ge (s := 4) rfl c4.1
  obtain ⟨b5, c5⟩ := (show (Fact.var' (Con.nn l q)).holds _ _ from st1.at_ 5)
  have g5 := hfr.ge (s := 5) rfl c5.1
  obtain ⟨b6, c6⟩ := (show (Fact.var' (Con.raw 3)).holds _ _ from st1.at_ 6)
  have g6 := hfr.ge (s := 6) rfl c6.1
  have ne4_5 := hfr.apart (s := 4) (t := 5) rfl rfl (by decide) c4.1 c5.1
  have ne4_6 := hfr.apart (s := 4) (t := 6) rfl rfl (by decide) c4.1 c6.1
  have ne5_6 := hfr.apart (s := 5) (t := 6) rfl rfl (by decide) c5.1 c6.1
  have st : St 15 [(0, Fact.eq (.bool s)), (4, Fact.cell b4 (Con.nn k p)), (5, Fact.cell b5 (Con.nn l q)), (6, Fact.cell b6 (Con.raw 3)), (7, Fact.eq (.int .i64 0))] a1 w1 := st1.to (fcs ⟨st1.at_ 0, fcs ⟨c4, fcs ⟨c5, fcs ⟨c6, fcs ⟨st1.at_ 7, fnl⟩⟩⟩⟩⟩)
  clear st1 hbr1 hfr c4 c5 c6
  refine wpList_nil ?_
  refine then_normal ?_
  refine wp_seq ?_
  refine wp_seq ?_
  refine sym_region st [(8, Fact.agg (Con.nn l q)), (9, Fact.eq (.bool false))] [] 2 (by kernel_rfl) (by kernel_rfl) (by kernel_rfl) (Nat.le_of_ble_eq_true rfl) (by kernel_rfl) rfl rfl ?_ ?_
  · refine fcs ⟨Ob.new_ (ob_read 24 5 8 (Con.nn l q) rfl rfl (.inl rfl) (by kernel_rfl) points_cell rfl row24 info24) (by kernel_rfl), ?_⟩
    refine fcs ⟨Ob.new_ (ob_call1 32 8 9 _ rfl rfl (.inl rfl) (by kernel_rfl) (by kernel_rfl) (q_isZero l q false (decide_eq_false hq))) (by kernel_rfl), ?_⟩
    exact fnl
  intro a2 w2 st2 hbr2 hfr
  have hs2 := hbr2.size
  have hb := up hb hbr2
  have st : St 15 [(0, Fact.eq (.bool s)), (4, Fact.cell b4 (Con.nn k p)), (5, Fact.cell b5 (Con.nn l q)), (6, Fact.cell b6 (Con.raw 3)), (7, Fact.eq (.int .i64 0)), (9, Fact.eq (.bool false))] a2 w2 := st2.to (fcs ⟨st2.at_ 0, fcs ⟨st2.at_ 4, fcs ⟨st2.at_ 5, fcs ⟨st2.at_ 6, fcs ⟨st2.at_ 7, fcs ⟨st2.at_ 9, fnl⟩⟩⟩⟩⟩⟩)
  clear st2 hbr2 hfr
  refine wpList_nil ?_
  refine then_normal ?_
  refine wp_cond_false (st.at_ 9) ?_
  refine wp_skip ?_
  refine then_normal ?_
  refine wp_seq ?_
  have st := st.to (ks' := [(0, Fact.eq (.bool s)), (4, Fact.cell b4 (Con.nn k p)), (5, Fact.cell b5 (Con.nn l q)), (6, Fact.cell b6 (Con.raw 3)), (9, Fact.eq (.bool false))]) (fcs ⟨st.at_ 0, fcs ⟨st.at_ 4, fcs ⟨st.at_ 5, fcs ⟨st.at_ 6, fcs ⟨st.at_ 9, fnl⟩⟩⟩⟩⟩)
  refine sym_region st [(11, Fact.eq (.bool s)), (12, Fact.agg (Con.nn k p)), (13, Fact.agg (Con.nn l q)), (14, Fact.agg (Con.fr (max k l) (Rt.of s p q)))] [] 4 (by kernel_rfl) (by kernel_rfl) (by kernel_rfl) (Nat.le_of_ble_eq_true rfl) (by kernel_rfl) rfl rfl ?_ ?_
  · refine fcs ⟨Ob.new_ (ob_copy 0 11 (.inl rfl) rfl (.inl rfl) (by kernel_rfl) rfl) (by kernel_rfl), ?_⟩
    refine fcs ⟨Ob.new_ (ob_read 24 4 12 (Con.nn k p) rfl rfl (.inl rfl) (by kernel_rfl) points_cell rfl row24 info24) (by kernel_rfl), ?_⟩
    refine fcs ⟨Ob.new_ (ob_read 24 5 13 (Con.nn l q) rfl rfl (.inl rfl) (by kernel_rfl) points_cell rfl row24 info24) (by kernel_rfl), ?_⟩
    refine fcs ⟨Ob.new_ (ob_call3 33 11 12 13 14 _ rfl rfl (.inl rfl) (by kernel_rfl) (by kernel_rfl) (by kernel_rfl) (by kernel_rfl) (q_reduced k l (max k l) s p q hq (by omega) (by omega) (by omega))) (by kernel_rfl), ?_⟩
    exact fnl
  intro a3 w3 st3 hbr3 hfr
  have hs3 := hbr3.size
  have hb := up hb hbr3
  have st : St 15 [(6, Fact.cell b6 (Con.raw 3)), (14, Fact.agg (Con.fr (max k l) (Rt.of s p q)))] a3 w3 := st3.to (fcs ⟨st3.at_ 6, fcs ⟨st3.at_ 14, fnl⟩⟩)
  clear st3 hbr3 hfr
  refine sym_store st 28 6 14 b6 (Con.raw 3) (Con.fr (max k l) (Rt.of s p q)) [(6, Fact.cell b6 (Con.fr (max k l) (Rt.of s p q)))] rfl rfl rfl rfl rfl rfl info26 ?_ ?_
  · exact fcs ⟨.inl rfl, fnl⟩
  clear st; intro w4 hB hsz4 st
  have hb := hB _ _ hb (by omega) (by omega)
  clear hB
  refine sym_op st 7 (Fact.eq (.int .i64 0)) rfl (Nat.le_of_ble_eq_true rfl) rfl rfl (by kernel_rfl) (ob_const (.int .i64 0) 7 (.inr rfl) rfl (.inl rfl) rfl) ?_
  clear st; intro a5 w5 hbr st; have hs5 := hbr.size; have hb := up hb hbr; clear hbr
  refine wpList_nil ?_
  refine then_normal ?_
  refine wp_ret ?_
  exact sym_ret2 rfl st.defers (resAt_cell st 6 b6 28 (Con.fr (max k l) (Rt.of s p q)) rfl row26 info26) (resAt_tmp st 7) hb (fun v u h1 h2 => ⟨v, u, rfl, Fact.fr_up h1 (by omega), h2⟩)
set_option maxRecDepth 100000 in
theorem q_make0 (k l : Nat) (s : Bool) (p q : Nat) (hq : q = 0) : ∀ v0 v1 v2 w, (Fact.eq (.bool s)).holds v0 w → (Fact.agg (Con.nn k p)).holds v1 w → (Fact.agg (Con.nn l q)).holds v2 w → Calls Tryd.prog 13 #[v0, v1, v2] w (Ret (Fact.two (Fact.agg (Con.tri 1 1 false 0 0)) (Fact.eq (.int .i64 8))) w) := by
  intro v0 v1 v2 w hv0 hv1 hv2
  refine sym_calls 15 [(0, Fact.eq (.bool s)), (1, Fact.agg (Con.nn k p)), (2, Fact.agg (Con.nn l q))] Tryd.func13 rfl rfl (Nat.le_of_ble_eq_true rfl) (fcs ⟨⟨Nat.le_of_ble_eq_true rfl, hv0⟩, fcs ⟨⟨Nat.le_of_ble_eq_true rfl, hv1⟩, fcs ⟨⟨Nat.le_of_ble_eq_true rfl, hv2⟩, fnl⟩⟩⟩) fun a st => ?_
  have hb := Below.refl w.heap.size w
  refine wp_seq ?_
  refine sym_region st [(4, Fact.var' (Con.nn k p)), (5, Fact.var' (Con.nn l q)), (6, Fact.var' (Con.raw 3)), (7, Fact.eq (.int .i64 0))] [4, 5, 6] 4 (by kernel_rfl) (by kernel_rfl) (by kernel_rfl) (Nat.le_of_ble_eq_true rfl) (by kernel_rfl) rfl rfl ?_ ?_
  · refine fcs ⟨obn_box 24 1 4 _ (Con.nn k p) rfl rfl rfl (by kernel_rfl) rfl rfl, ?_⟩
    refine fcs ⟨obn_box 24 2 5 _ (Con.nn l q) rfl rfl rfl (by kernel_rfl) rfl rfl, ?_⟩
    refine fcs ⟨obn_new 28 6 _ [.bool false, .slice none 0 0, .slice none 0 0] rfl rfl rfl rfl rfl alloc26, ?_⟩
    refine fcs ⟨Ob.new_ (ob_const (.int .i64 0) 7 (.inr rfl) rfl (.inl rfl) rfl) (by kernel_rfl), ?_⟩
    exact fnl
  intro a1 w1 st1 hbr1 hfr
  have hs1 := hbr1.size
  have hb := up hb hbr1
  obtain ⟨b4, c4⟩ := (show (Fact.var' (Con.nn k p)).holds _ _ from st1.at_ 4)
  have g4 := hfr.ge (s := 4) rfl c4.1
  obtain ⟨b5, c5⟩ := (show (Fact.var' (Con.nn l q)).holds _ _ from st1.at_ 5)
  have g5 := hfr.ge (s := 5) rfl c5.1
  obtain ⟨b6, c6⟩ := (show (Fact.var' (Con.raw 3)).holds _ _ from st1.at_ 6)
  have g6 := hfr.ge (s := 6) rfl c6.1
  have ne4_5 := hfr.apart (s := 4) (t := 5) rfl rfl (by decide) c4.1 c5.1
  have ne4_6 := hfr.apart (s := 4) (t := 6) rfl rfl (by decide) c4.1 c6.1
  have ne5_6 := hfr.apart (s := 5) (t := 6) rfl rfl (by decide) c5.1 c6.1
  have st : St 15 [(0, Fact.eq (.bool s)), (4, Fact.cell b4 (Con.nn k p)), (5, Fact.cell b5 (Con.nn l q)), (6, Fact.cell b6 (Con.raw 3)), (7, Fact.eq (.int .i64 0))] a1 w1 := st1.to (fcs ⟨st1.at_ 0, fcs ⟨c4, fcs ⟨c5, fcs ⟨c6, fcs ⟨st1.at_ 7, fnl⟩⟩⟩⟩⟩)
  clear st1 hbr1 hfr c4 c5 c6
  refine wpList_nil ?_
  refine then_normal ?_
  refine wp_seq ?_
  refine wp_seq ?_
  refine sym_region st [(8, Fact.agg (Con.nn l q)), (9, Fact.eq (.bool true))] [] 2 (by kernel_rfl) (by kernel_rfl) (by kernel_rfl) (Nat.le_of_ble_eq_true rfl) (by kernel_rfl) rfl rfl ?_ ?_
  · refine fcs ⟨Ob.new_ (ob_read 24 5 8 (Con.nn l q) rfl rfl (.inl rfl) (by kernel_rfl) points_cell rfl row24 info24) (by kernel_rfl), ?_⟩
    refine fcs ⟨Ob.new_ (ob_call1 32 8 9 _ rfl rfl (.inl rfl) (by kernel_rfl) (by kernel_rfl) (q_isZero l q true (decide_eq_true hq))) (by kernel_rfl), ?_⟩
    exact fnl
  intro a2 w2 st2 hbr2 hfr
  have hs2 := hbr2.size
  have hb := up hb hbr2
  have st : St 15 [(0, Fact.eq (.bool s)), (4, Fact.cell b4 (Con.nn k p)), (5, Fact.cell b5 (Con.nn l q)), (6, Fact.cell b6 (Con.raw 3)), (7, Fact.eq (.int .i64 0)), (9, Fact.eq (.bool true))] a2 w2 := st2.to (fcs ⟨st2.at_ 0, fcs ⟨st2.at_ 4, fcs ⟨st2.at_ 5, fcs ⟨st2.at_ 6, fcs ⟨st2.at_ 7, fcs ⟨st2.at_ 9, fnl⟩⟩⟩⟩⟩⟩)
  clear st2 hbr2 hfr
  refine wpList_nil ?_
  refine then_normal ?_
  refine wp_cond_true (st.at_ 9) ?_
  refine wp_seq ?_
  have st := st.to (ks' := [(0, Fact.eq (.bool s)), (4, Fact.cell b4 (Con.nn k p)), (5, Fact.cell b5 (Con.nn l q)), (6, Fact.cell b6 (Con.raw 3)), (9, Fact.eq (.bool true))]) (fcs ⟨st.at_ 0, fcs ⟨st.at_ 4, fcs ⟨st.at_ 5, fcs ⟨st.at_ 6, fcs ⟨st.at_ 9, fnl⟩⟩⟩⟩⟩)
  refine sym_region st [(10, Fact.agg (Con.tri 1 1 false 0 0))] [] 1 (by kernel_rfl) (by kernel_rfl) (by kernel_rfl) (Nat.le_of_ble_eq_true rfl) (by kernel_rfl) rfl rfl ?_ ?_
  · refine fcs ⟨Ob.new_ (ob_buildzero 10 rfl rfl (.inl rfl) rfl) (by kernel_rfl), ?_⟩
    exact fnl
  intro a3 w3 st3 hbr3 hfr
  have hs3 := hbr3.size
  have hb := up hb hbr3
  have st : St 15 [(0, Fact.eq (.bool s)), (4, Fact.cell b4 (Con.nn k p)), (5, Fact.cell b5 (Con.nn l q)), (6, Fact.cell b6 (Con.raw 3)), (10, Fact.agg (Con.tri 1 1 false 0 0))] a3 w3 := st3.to (fcs ⟨st3.at_ 0, fcs ⟨st3.at_ 4, fcs ⟨st3.at_ 5, fcs ⟨st3.at_ 6, fcs ⟨st3.at_ 10, fnl⟩⟩⟩⟩⟩)
  clear st3 hbr3 hfr
  refine sym_store st 28 6 10 b6 (Con.raw 3) (Con.tri 1 1 false 0 0) [(0, Fact.eq (.bool s)), (4, Fact.cell b4 (Con.nn k p)), (5, Fact.cell b5 (Con.nn l q)), (6, Fact.cell b6 (Con.tri 1 1 false 0 0))] rfl rfl rfl rfl rfl rfl info26 ?_ ?_
  · exact fcs ⟨.inr ⟨rfl, safe_eq _ _⟩, fcs ⟨.inr ⟨rfl, safe_cell _ (by omega)⟩, fcs ⟨.inr ⟨rfl, safe_cell _ (by omega)⟩, fcs ⟨.inl rfl, fnl⟩⟩⟩⟩
  clear st; intro w4 hB hsz4 st
  have hb := hB _ _ hb (by omega) (by omega)
  clear hB
  refine sym_op st 7 (Fact.eq (.int .i64 8)) rfl (Nat.le_of_ble_eq_true rfl) rfl rfl (by kernel_rfl) (ob_const (.int .i64 8) 7 (.inr rfl) rfl (.inl rfl) rfl) ?_
  clear st; intro a5 w5 hbr st; have hs5 := hbr.size; have hb := up hb hbr; clear hbr
  refine wpList_nil ?_
  refine then_normal ?_
  refine wp_ret ?_
  exact sym_ret2 rfl st.defers (resAt_cell st 6 b6 28 (Con.tri 1 1 false 0 0) rfl row26 info26) (resAt_tmp st 7) hb (fun v u h1 h2 => ⟨v, u, rfl, h1, h2⟩)
set_option maxRecDepth 100000 in
theorem q_neg (k : Nat) (x : Rat) : ∀ v0 w, (Fact.agg (Con.fr k x)).holds v0 w → Calls Tryd.prog 30 #[v0] w (Ret (Fact.fr k (-x)) w) := by
  intro v0 w hv0
  cases hng : Rt.ng x with
  | false =>
    refine sym_calls 23 [(0, Fact.agg (Con.fr k x))] Tryd.func30 rfl rfl (Nat.le_of_ble_eq_true rfl) (fcs ⟨⟨Nat.le_of_ble_eq_true rfl, hv0⟩, fnl⟩) fun a st => ?_
    have hb := Below.refl w.heap.size w
    refine wp_seq ?_
    refine sym_region st [(1, Fact.var' (Con.fr k x)), (2, Fact.var' (Con.raw 3))] [1, 2] 2 (by kernel_rfl) (by kernel_rfl) (by kernel_rfl) (Nat.le_of_ble_eq_true rfl) (by kernel_rfl) rfl rfl ?_ ?_
    · refine fcs ⟨obn_box 28 0 1 _ (Con.fr k x) rfl rfl rfl (by kernel_rfl) rfl rfl, ?_⟩
      refine fcs ⟨obn_new 28 2 _ [.bool false, .slice none 0 0, .slice none 0 0] rfl rfl rfl rfl rfl alloc26, ?_⟩
      exact fnl
    intro a1 w1 st1 hbr1 hfr
    have hs1 := hbr1.size
    have hb := up hb hbr1
    obtain ⟨b1, c1⟩ := (show (Fact.var' (Con.fr k x)).holds _ _ from st1.at_ 1)
    have g1 := hfr.ge (s := 1) rfl c1.1
    obtain ⟨b2, c2⟩ := (show (Fact.var' (Con.raw 3)).holds _ _ from st1.at_ 2)
    have g2 := hfr.ge (s := 2) rfl c2.1
    have ne1_2 := hfr.apart (s := 1) (t := 2) rfl rfl (by decide) c1.1 c2.1
    have st : St 23 [(1, Fact.cell b1 (Con.fr k x)), (2, Fact.cell b2 (Con.raw 3))] a1 w1 := st1.to (fcs ⟨c1, fcs ⟨c2, fnl⟩⟩)
    clear st1 hbr1 hfr c1 c2
    refine wpList_nil ?_
    refine then_normal ?_
    refine wp_seq ?_
    refine sym_region st [(3, Fact.ptr (Con.bool (Rt.ng x))), (4, Fact.eq (.bool false)), (5, Fact.eq (.bool true)), (6, Fact.eq (.bool true)), (7, Fact.ptr (Con.nn k (Rt.tp x))), (8, Fact.agg (Con.nn k (Rt.tp x))), (9, Fact.eq (.bool (decide (Rt.tp x = 0)))), (10, Fact.eq (.bool (!(decide (Rt.tp x = 0))))), (11, Fact.eq (.bool (!(decide (Rt.tp x = 0))))), (12, Fact.ptr (Con.nn k (Rt.tp x))), (13, Fact.ptr (Con.nn k (Rt.tp x))), (14, Fact.rown k (Rt.tp x)), (15, Fact.rown k (Rt.tp x)), (16, Fact.agg (Con.nn k (Rt.tp x))), (17, Fact.ptr (Con.nn k (Rat.den x))), (18, Fact.ptr (Con.nn k (Rat.den x))), (19, Fact.rown k (Rat.den x)), (20, Fact.rown k (Rat.den x)), (21, Fact.agg (Con.nn k (Rat.den x))), (22, Fact.agg (Con.tri k k (!(decide (Rt.tp x = 0))) (Rt.tp x) (Rat.den x)))] [] 20 (by kernel_rfl) (by kernel_rfl) (by kernel_rfl) (Nat.le_of_ble_eq_true rfl) (by kernel_rfl) rfl rfl ?_ ?_
    · refine fcs ⟨Ob.new_ (ob_addr 28 0 1 3 0 (Con.fr k x) (Con.bool (Rt.ng x)) rfl rfl (.inl rfl) (by kernel_rfl) points_cell rfl (Con.fr_ng k x) field26_0) (by kernel_rfl), ?_⟩
      refine fcs ⟨Ob.new_ (ob_readb 3 4 (Rt.ng x) false hng rfl rfl (.inl rfl) (by kernel_rfl) points_ptr rfl) (by kernel_rfl), ?_⟩
      refine fcs ⟨Ob.new_ (ob_not 4 5 false true rfl rfl rfl (.inl rfl) (by kernel_rfl) rfl rfl) (by kernel_rfl), ?_⟩
      refine fcs ⟨Ob.new_ (ob_copy 5 6 (.inl rfl) rfl (.inl rfl) (by kernel_rfl) rfl) (by kernel_rfl), ?_⟩
      refine fcs ⟨Ob.new_ (ob_addr 28 1 1 7 1 (Con.fr k x) (Con.nn k (Rt.tp x)) rfl rfl (.inr ⟨_, _, _, rfl, rfl, by kernel_rfl, by decide, rfl⟩) (by kernel_rfl) points_cell rfl (Con.fr_tp k x) field26_1) (by kernel_rfl), ?_⟩
      refine fcs ⟨Ob.new_ (ob_read 24 7 8 (Con.nn k (Rt.tp x)) rfl rfl (.inr ⟨_, _, _, rfl, rfl, by kernel_rfl, by decide, rfl⟩) (by kernel_rfl) points_ptr rfl row24 info24) (by kernel_rfl), ?_⟩
      refine fcs ⟨Ob.new_ (ob_call1 32 8 9 _ rfl rfl (.inr ⟨_, _, _, rfl, rfl, by kernel_rfl, by decide, rfl⟩) (by kernel_rfl) (by kernel_rfl) (q_isZero k (Rt.tp x) (decide (Rt.tp x = 0)) rfl)) (by kernel_rfl), ?_⟩
      refine fcs ⟨Ob.new_ (ob_not 9 10 (decide (Rt.tp x = 0)) (!(decide (Rt.tp x = 0))) rfl rfl rfl (.inr ⟨_, _, _, rfl, rfl, by kernel_rfl, by decide, rfl⟩) (by kernel_rfl) rfl rfl) (by kernel_rfl), ?_⟩
      refine fcs ⟨Ob.new_ (ob_pick 6 10 11 _ rfl rfl (.inl rfl) (by kernel_rfl) (by kernel_rfl) rfl rfl) (by kernel_rfl), ?_⟩
      refine fcs ⟨Ob.new_ (ob_addr 28 1 1 12 1 (Con.fr k x) (Con.nn k (Rt.tp x)) rfl rfl (.inl rfl) (by kernel_rfl) points_cell rfl (Con.fr_tp k x) field26_1) (by kernel_rfl), ?_⟩
      refine fcs ⟨Ob.new_ (ob_addr 24 0 12 13 0 (Con.nn k (Rt.tp x)) (Con.nn k (Rt.tp x)) rfl rfl (.inl rfl) (by kernel_rfl) points_ptr rfl (Con.Sub.refl _) field24_0) (by kernel_rfl), ?_⟩
      refine fcs ⟨Ob.new_ (ob_loadrow 13 14 k (Rt.tp x) rfl rfl (.inl rfl) (by kernel_rfl) points_ptr rfl) (by kernel_rfl), ?_⟩
      refine fcs ⟨Ob.new_ (ob_call1 53 14 15 _ rfl rfl (.inl rfl) (by kernel_rfl) (by kernel_rfl) (q_clone k (Rt.tp x))) (by kernel_rfl), ?_⟩
      refine fcs ⟨Ob.new_ (ob_buildnn 15 16 k (Rt.tp x) rfl rfl (.inl rfl) (by kernel_rfl) rfl rfl) (by kernel_rfl), ?_⟩
      refine fcs ⟨Ob.new_ (ob_addr 28 2 1 17 2 (Con.fr k x) (Con.nn k (Rat.den x)) rfl rfl (.inl rfl) (by kernel_rfl) points_cell rfl (Con.fr_den k x) field26_2) (by kernel_rfl), ?_⟩
      refine fcs ⟨Ob.new_ (ob_addr 24 0 17 18 0 (Con.nn k (Rat.den x)) (Con.nn k (Rat.den x)) rfl rfl (.inl rfl) (by kernel_rfl) points_ptr rfl (Con.Sub.refl _) field24_0) (by kernel_rfl), ?_⟩
      refine fcs ⟨Ob.new_ (ob_loadrow 18 19 k (Rat.den x) rfl rfl (.inl rfl) (by kernel_rfl) points_ptr rfl) (by kernel_rfl), ?_⟩
      refine fcs ⟨Ob.new_ (ob_call1 53 19 20 _ rfl rfl (.inl rfl) (by kernel_rfl) (by kernel_rfl) (q_clone k (Rat.den x))) (by kernel_rfl), ?_⟩
      refine fcs ⟨Ob.new_ (ob_buildnn 20 21 k (Rat.den x) rfl rfl (.inl rfl) (by kernel_rfl) rfl rfl) (by kernel_rfl), ?_⟩
      refine fcs ⟨Ob.new_ (ob_buildtri 11 16 21 22 k k (Rt.tp x) (Rat.den x) (!(decide (Rt.tp x = 0))) rfl rfl (.inl rfl) (by kernel_rfl) (by kernel_rfl) (by kernel_rfl) rfl rfl rfl rfl) (by kernel_rfl), ?_⟩
      exact fnl
    intro a2 w2 st2 hbr2 hfr
    have hs2 := hbr2.size
    have hb := up hb hbr2
    have st : St 23 [(2, Fact.cell b2 (Con.raw 3)), (22, Fact.agg (Con.tri k k (!(decide (Rt.tp x = 0))) (Rt.tp x) (Rat.den x)))] a2 w2 := st2.to (fcs ⟨st2.at_ 2, fcs ⟨st2.at_ 22, fnl⟩⟩)
    clear st2 hbr2 hfr
    refine sym_store st 28 2 22 b2 (Con.raw 3) (Con.tri k k (!(decide (Rt.tp x = 0))) (Rt.tp x) (Rat.den x)) [(2, Fact.cell b2 (Con.tri k k (!(decide (Rt.tp x = 0))) (Rt.tp x) (Rat.den x)))] rfl rfl rfl rfl rfl rfl info26 ?_ ?_
    · exact fcs ⟨.inl rfl, fnl⟩
    clear st; intro w3 hB hsz3 st
    have hb := hB _ _ hb (by omega) (by omega)
    clear hB
    refine wpList_nil ?_
    refine then_normal ?_
    refine wp_ret ?_
    exact sym_ret1 rfl st.defers (resAt_cell st 2 b2 28 (Con.tri k k (!(decide (Rt.tp x = 0))) (Rt.tp x) (Rat.den x)) rfl row26 info26) hb (fun _ h => Fact.tri_eq (x := -x) h ((by rw [Rt.neg_ng, hng]; rfl)) (Rt.neg_tp x).symm rfl)
  | true =>
    refine sym_calls 23 [(0, Fact.agg (Con.fr k x))] Tryd.func30 rfl rfl (Nat.le_of_ble_eq_true rfl) (fcs ⟨⟨Nat.le_of_ble_eq_true rfl, hv0⟩, fnl⟩) fun a st => ?_
    have hb := Below.refl w.heap.size w
    refine wp_seq ?_
    refine sym_region st [(1, Fact.var' (Con.fr k x)), (2, Fact.var' (Con.raw 3))] [1, 2] 2 (by kernel_rfl) (by kernel_rfl) (by kernel_rfl) (Nat.le_of_ble_eq_true rfl) (by kernel_rfl) rfl rfl ?_ ?_
    · refine fcs ⟨obn_box 28 0 1 _ (Con.fr k x) rfl rfl rfl (by kernel_rfl) rfl rfl, ?_⟩
      refine fcs ⟨obn_new 28 2 _ [.bool false, .slice none 0 0, .slice none 0 0] rfl rfl rfl rfl rfl alloc26, ?_⟩
      exact fnl
    intro a1 w1 st1 hbr1 hfr
    have hs1 := hbr1.size
    have hb := up hb hbr1
    obtain ⟨b1, c1⟩ := (show (Fact.var' (Con.fr k x)).holds _ _ from st1.at_ 1)
    have g1 := hfr.ge (s := 1) rfl c1.1
    obtain ⟨b2, c2⟩ := (show (Fact.var' (Con.raw 3)).holds _ _ from st1.at_ 2)
    have g2 := hfr.ge (s := 2) rfl c2.1
    have ne1_2 := hfr.apart (s := 1) (t := 2) rfl rfl (by decide) c1.1 c2.1
    have st : St 23 [(1, Fact.cell b1 (Con.fr k x)), (2, Fact.cell b2 (Con.raw 3))] a1 w1 := st1.to (fcs ⟨c1, fcs ⟨c2, fnl⟩⟩)
    clear st1 hbr1 hfr c1 c2
    refine wpList_nil ?_
    refine then_normal ?_
    refine wp_seq ?_
    refine sym_region st [(3, Fact.ptr (Con.bool (Rt.ng x))), (4, Fact.eq (.bool true)), (5, Fact.eq (.bool false)), (6, Fact.eq (.bool false)), (7, Fact.eq undef), (8, Fact.eq undef), (9, Fact.eq undef), (10, Fact.eq undef), (11, Fact.eq (.bool false)), (12, Fact.ptr (Con.nn k (Rt.tp x))), (13, Fact.ptr (Con.nn k (Rt.tp x))), (14, Fact.rown k (Rt.tp x)), (15, Fact.rown k (Rt.tp x)), (16, Fact.agg (Con.nn k (Rt.tp x))), (17, Fact.ptr (Con.nn k (Rat.den x))), (18, Fact.ptr (Con.nn k (Rat.den x))), (19, Fact.rown k (Rat.den x)), (20, Fact.rown k (Rat.den x)), (21, Fact.agg (Con.nn k (Rat.den x))), (22, Fact.agg (Con.tri k k false (Rt.tp x) (Rat.den x)))] [] 20 (by kernel_rfl) (by kernel_rfl) (by kernel_rfl) (Nat.le_of_ble_eq_true rfl) (by kernel_rfl) rfl rfl ?_ ?_
    · refine fcs ⟨Ob.new_ (ob_addr 28 0 1 3 0 (Con.fr k x) (Con.bool (Rt.ng x)) rfl rfl (.inl rfl) (by kernel_rfl) points_cell rfl (Con.fr_ng k x) field26_0) (by kernel_rfl), ?_⟩
      refine fcs ⟨Ob.new_ (ob_readb 3 4 (Rt.ng x) true hng rfl rfl (.inl rfl) (by kernel_rfl) points_ptr rfl) (by kernel_rfl), ?_⟩
      refine fcs ⟨Ob.new_ (ob_not 4 5 true false rfl rfl rfl (.inl rfl) (by kernel_rfl) rfl rfl) (by kernel_rfl), ?_⟩
      refine fcs ⟨Ob.new_ (ob_copy 5 6 (.inl rfl) rfl (.inl rfl) (by kernel_rfl) rfl) (by kernel_rfl), ?_⟩
      refine fcs ⟨Ob.new_ (ob_skip 3 6 7 true rfl rfl (by kernel_rfl) (by decide) rfl rfl rfl) (by kernel_rfl), ?_⟩
      refine fcs ⟨Ob.new_ (ob_skip 3 6 8 true rfl rfl (by kernel_rfl) (by decide) rfl rfl rfl) (by kernel_rfl), ?_⟩
      refine fcs ⟨Ob.new_ (ob_skip 3 6 9 true rfl rfl (by kernel_rfl) (by decide) rfl rfl rfl) (by kernel_rfl), ?_⟩
      refine fcs ⟨Ob.new_ (ob_skip 3 6 10 true rfl rfl (by kernel_rfl) (by decide) rfl rfl rfl) (by kernel_rfl), ?_⟩
      refine fcs ⟨Ob.new_ (ob_pick_no 6 10 11 (.bool false) rfl rfl (.inl rfl) (by kernel_rfl) rfl rfl) (by kernel_rfl), ?_⟩
      refine fcs ⟨Ob.new_ (ob_addr 28 1 1 12 1 (Con.fr k x) (Con.nn k (Rt.tp x)) rfl rfl (.inl rfl) (by kernel_rfl) points_cell rfl (Con.fr_tp k x) field26_1) (by kernel_rfl), ?_⟩
      refine fcs ⟨Ob.new_ (ob_addr 24 0 12 13 0 (Con.nn k (Rt.tp x)) (Con.nn k (Rt.tp x)) rfl rfl (.inl rfl) (by kernel_rfl) points_ptr rfl (Con.Sub.refl _) field24_0) (by kernel_rfl), ?_⟩
      refine fcs ⟨Ob.new_ (ob_loadrow 13 14 k (Rt.tp x) rfl rfl (.inl rfl) (by kernel_rfl) points_ptr rfl) (by kernel_rfl), ?_⟩
      refine fcs ⟨Ob.new_ (ob_call1 53 14 15 _ rfl rfl (.inl rfl) (by kernel_rfl) (by kernel_rfl) (q_clone k (Rt.tp x))) (by kernel_rfl), ?_⟩
      refine fcs ⟨Ob.new_ (ob_buildnn 15 16 k (Rt.tp x) rfl rfl (.inl rfl) (by kernel_rfl) rfl rfl) (by kernel_rfl), ?_⟩
      refine fcs ⟨Ob.new_ (ob_addr 28 2 1 17 2 (Con.fr k x) (Con.nn k (Rat.den x)) rfl rfl (.inl rfl) (by kernel_rfl) points_cell rfl (Con.fr_den k x) field26_2) (by kernel_rfl), ?_⟩
      refine fcs ⟨Ob.new_ (ob_addr 24 0 17 18 0 (Con.nn k (Rat.den x)) (Con.nn k (Rat.den x)) rfl rfl (.inl rfl) (by kernel_rfl) points_ptr rfl (Con.Sub.refl _) field24_0) (by kernel_rfl), ?_⟩
      refine fcs ⟨Ob.new_ (ob_loadrow 18 19 k (Rat.den x) rfl rfl (.inl rfl) (by kernel_rfl) points_ptr rfl) (by kernel_rfl), ?_⟩
      refine fcs ⟨Ob.new_ (ob_call1 53 19 20 _ rfl rfl (.inl rfl) (by kernel_rfl) (by kernel_rfl) (q_clone k (Rat.den x))) (by kernel_rfl), ?_⟩
      refine fcs ⟨Ob.new_ (ob_buildnn 20 21 k (Rat.den x) rfl rfl (.inl rfl) (by kernel_rfl) rfl rfl) (by kernel_rfl), ?_⟩
      refine fcs ⟨Ob.new_ (ob_buildtri 11 16 21 22 k k (Rt.tp x) (Rat.den x) false rfl rfl (.inl rfl) (by kernel_rfl) (by kernel_rfl) (by kernel_rfl) rfl rfl rfl rfl) (by kernel_rfl), ?_⟩
      exact fnl
    intro a2 w2 st2 hbr2 hfr
    have hs2 := hbr2.size
    have hb := up hb hbr2
    have st : St 23 [(2, Fact.cell b2 (Con.raw 3)), (22, Fact.agg (Con.tri k k false (Rt.tp x) (Rat.den x)))] a2 w2 := st2.to (fcs ⟨st2.at_ 2, fcs ⟨st2.at_ 22, fnl⟩⟩)
    clear st2 hbr2 hfr
    refine sym_store st 28 2 22 b2 (Con.raw 3) (Con.tri k k false (Rt.tp x) (Rat.den x)) [(2, Fact.cell b2 (Con.tri k k false (Rt.tp x) (Rat.den x)))] rfl rfl rfl rfl rfl rfl info26 ?_ ?_
    · exact fcs ⟨.inl rfl, fnl⟩
    clear st; intro w3 hB hsz3 st
    have hb := hB _ _ hb (by omega) (by omega)
    clear hB
    refine wpList_nil ?_
    refine then_normal ?_
    refine wp_ret ?_
    exact sym_ret1 rfl st.defers (resAt_cell st 2 b2 28 (Con.tri k k false (Rt.tp x) (Rat.den x)) rfl row26 info26) hb (fun _ h => Fact.tri_eq (x := -x) h ((by rw [Rt.neg_ng, hng]; rfl)) (Rt.neg_tp x).symm rfl)
set_option maxRecDepth 100000 in
theorem q_addm (m : Nat) (x y : Rat) (hm : 2 * m + 1 ≤ 400) : ∀ v0 v1 w, (Fact.agg (Con.fr m x)).holds v0 w → (Fact.agg (Con.fr m y)).holds v1 w → Calls Tryd.prog 21 #[v0, v1] w (Ret (Fact.fr (m + m + 1) (x + y)) w) := by
  intro v0 v1 w hv0 hv1
  refine sym_calls 65 [(0, Fact.agg (Con.fr m x)), (1, Fact.agg (Con.fr m y))] Tryd.func21 rfl rfl (Nat.le_of_ble_eq_true rfl) (fcs ⟨⟨Nat.le_of_ble_eq_true rfl, hv0⟩, fcs ⟨⟨Nat.le_of_ble_eq_true rfl, hv1⟩, fnl⟩⟩) fun a st => ?_
  have hb := Below.refl w.heap.size w
  refine wp_seq ?_
  refine sym_region st [(2, Fact.var' (Con.fr m x)), (3, Fact.var' (Con.fr m y)), (4, Fact.var' (Con.raw 3))] [2, 3, 4] 3 (by kernel_rfl) (by kernel_rfl) (by kernel_rfl) (Nat.le_of_ble_eq_true rfl) (by kernel_rfl) rfl rfl ?_ ?_
  · refine fcs ⟨obn_box 28 0 2 _ (Con.fr m x) rfl rfl rfl (by kernel_rfl) rfl rfl, ?_⟩
    refine fcs ⟨obn_box 28 1 3 _ (Con.fr m y) rfl rfl rfl (by kernel_rfl) rfl rfl, ?_⟩
    refine fcs ⟨obn_new 28 4 _ [.bool false, .slice none 0 0, .slice none 0 0] rfl rfl rfl rfl rfl alloc26, ?_⟩
    exact fnl
  intro a1 w1 st1 hbr1 hfr
  have hs1 := hbr1.size
  have hb := up hb hbr1
  obtain ⟨b2, c2⟩ := (show (Fact.var' (Con.fr m x)).holds _ _ from st1.at_ 2)
  have g2 := hfr.ge (s := 2) rfl c2.1
  obtain ⟨b3, c3⟩ := (show (Fact.var' (Con.fr m y)).holds _ _ from st1.at_ 3)
  have g3 := hfr.ge (s := 3) rfl c3.1
  obtain ⟨b4, c4⟩ := (show (Fact.var' (Con.raw 3)).holds _ _ from st1.at_ 4)
  have g4 := hfr.ge (s := 4) rfl c4.1
  have ne2_3 := hfr.apart (s := 2) (t := 3) rfl rfl (by decide) c2.1 c3.1
  have ne2_4 := hfr.apart (s := 2) (t := 4) rfl rfl (by decide) c2.1 c4.1
  have ne3_4 := hfr.apart (s := 3) (t := 4) rfl rfl (by decide) c3.1 c4.1
  have st : St 65 [(2, Fact.cell b2 (Con.fr m x)), (3, Fact.cell b3 (Con.fr m y)), (4, Fact.cell b4 (Con.raw 3))] a1 w1 := st1.to (fcs ⟨c2, fcs ⟨c3, fcs ⟨c4, fnl⟩⟩⟩)
  clear st1 hbr1 hfr c2 c3 c4
  refine wpList_nil ?_
  refine then_normal ?_
  refine wp_seq ?_
  refine sym_region st [(12, Fact.ptr (Con.nn m (Rt.tp x))), (13, Fact.agg (Con.nn m (Rt.tp x))), (14, Fact.ptr (Con.nn m (Rat.den y))), (15, Fact.agg (Con.nn m (Rat.den y))), (16, Fact.nats m [Rt.tp x, Rat.den y]), (17, Fact.agg (Con.nn (m + m) ((Rt.tp x) * (Rat.den y)))), (18, Fact.ptr (Con.nn m (Rt.tp y))), (19, Fact.agg (Con.nn m (Rt.tp y))), (20, Fact.ptr (Con.nn m (Rat.den x))), (21, Fact.agg (Con.nn m (Rat.den x))), (22, Fact.nats m [Rt.tp y, Rat.den x]), (23, Fact.agg (Con.nn (m + m) ((Rt.tp y) * (Rat.den x)))), (5, Fact.var' (Con.raw 1)), (6, Fact.var' (Con.raw 1))] [5, 6] 14 (by kernel_rfl) (by kernel_rfl) (by kernel_rfl) (Nat.le_of_ble_eq_true rfl) (by kernel_rfl) rfl rfl ?_ ?_
  · refine fcs ⟨Ob.new_ (ob_addr 28 1 2 12 1 (Con.fr m x) (Con.nn m (Rt.tp x)) rfl rfl (.inl rfl) (by kernel_rfl) points_cell rfl (Con.fr_tp m x) field26_1) (by kernel_rfl), ?_⟩
    refine fcs ⟨Ob.new_ (ob_read 24 12 13 (Con.nn m (Rt.tp x)) rfl rfl (.inl rfl) (by kernel_rfl) points_ptr rfl row24 info24) (by kernel_rfl), ?_⟩
    refine fcs ⟨Ob.new_ (ob_addr 28 2 3 14 2 (Con.fr m y) (Con.nn m (Rat.den y)) rfl rfl (.inl rfl) (by kernel_rfl) points_cell rfl (Con.fr_den m y) field26_2) (by kernel_rfl), ?_⟩
    refine fcs ⟨Ob.new_ (ob_read 24 14 15 (Con.nn m (Rat.den y)) rfl rfl (.inl rfl) (by kernel_rfl) points_ptr rfl row24 info24) (by kernel_rfl), ?_⟩
    refine fcs ⟨Ob.new_ (ob_nats2 13 15 16 m m m (Rt.tp x) (Rat.den y) (by omega) (by omega) rfl rfl (.inl rfl) (by kernel_rfl) (by kernel_rfl) rfl rfl rfl) (by kernel_rfl), ?_⟩
    refine fcs ⟨Ob.new_ (ob_call1 42 16 17 _ rfl rfl (.inl rfl) (by kernel_rfl) (by kernel_rfl) (q_product m (Rt.tp x) (Rat.den y) (by omega))) (by kernel_rfl), ?_⟩
    refine fcs ⟨Ob.new_ (ob_addr 28 1 3 18 1 (Con.fr m y) (Con.nn m (Rt.tp y)) rfl rfl (.inl rfl) (by kernel_rfl) points_cell rfl (Con.fr_tp m y) field26_1) (by kernel_rfl), ?_⟩
    refine fcs ⟨Ob.new_ (ob_read 24 18 19 (Con.nn m (Rt.tp y)) rfl rfl (.inl rfl) (by kernel_rfl) points_ptr rfl row24 info24) (by kernel_rfl), ?_⟩
    refine fcs ⟨Ob.new_ (ob_addr 28 2 2 20 2 (Con.fr m x) (Con.nn m (Rat.den x)) rfl rfl (.inl rfl) (by kernel_rfl) points_cell rfl (Con.fr_den m x) field26_2) (by kernel_rfl), ?_⟩
    refine fcs ⟨Ob.new_ (ob_read 24 20 21 (Con.nn m (Rat.den x)) rfl rfl (.inl rfl) (by kernel_rfl) points_ptr rfl row24 info24) (by kernel_rfl), ?_⟩
    refine fcs ⟨Ob.new_ (ob_nats2 19 21 22 m m m (Rt.tp y) (Rat.den x) (by omega) (by omega) rfl rfl (.inl rfl) (by kernel_rfl) (by kernel_rfl) rfl rfl rfl) (by kernel_rfl), ?_⟩
    refine fcs ⟨Ob.new_ (ob_call1 42 22 23 _ rfl rfl (.inl rfl) (by kernel_rfl) (by kernel_rfl) (q_product m (Rt.tp y) (Rat.den x) (by omega))) (by kernel_rfl), ?_⟩
    refine fcs ⟨obn_new 24 5 _ [.slice none 0 0] rfl rfl rfl rfl rfl alloc24, ?_⟩
    refine fcs ⟨obn_new 24 6 _ [.slice none 0 0] rfl rfl rfl rfl rfl alloc24, ?_⟩
    exact fnl
  intro a2 w2 st2 hbr2 hfr
  have hs2 := hbr2.size
  have hb := up hb hbr2
  obtain ⟨b5, c5⟩ := (show (Fact.var' (Con.raw 1)).holds _ _ from st2.at_ 5)
  have g5 := hfr.ge (s := 5) rfl c5.1
  obtain ⟨b6, c6⟩ := (show (Fact.var' (Con.raw 1)).holds _ _ from st2.at_ 6)
  have g6 := hfr.ge (s := 6) rfl c6.1
  have ne5_6 := hfr.apart (s := 5) (t := 6) rfl rfl (by decide) c5.1 c6.1
  have st : St 65 [(2, Fact.cell b2 (Con.fr m x)), (3, Fact.cell b3 (Con.fr m y)), (4, Fact.cell b4 (Con.raw 3)), (17, Fact.agg (Con.nn (m + m) ((Rt.tp x) * (Rat.den y)))), (23, Fact.agg (Con.nn (m + m) ((Rt.tp y) * (Rat.den x)))), (5, Fact.cell b5 (Con.raw 1)), (6, Fact.cell b6 (Con.raw 1))] a2 w2 := st2.to (fcs ⟨st2.at_ 2, fcs ⟨st2.at_ 3, fcs ⟨st2.at_ 4, fcs ⟨st2.at_ 17, fcs ⟨st2.at_ 23, fcs ⟨c5, fcs ⟨c6, fnl⟩⟩⟩⟩⟩⟩⟩)
  clear st2 hbr2 hfr c5 c6
  refine sym_store st 24 5 17 b5 (Con.raw 1) (Con.nn (m + m) ((Rt.tp x) * (Rat.den y))) [(2, Fact.cell b2 (Con.fr m x)), (3, Fact.cell b3 (Con.fr m y)), (4, Fact.cell b4 (Con.raw 3)), (23, Fact.agg (Con.nn (m + m) ((Rt.tp y) * (Rat.den x)))), (5, Fact.cell b5 (Con.nn (m + m) ((Rt.tp x) * (Rat.den y)))), (6, Fact.cell b6 (Con.raw 1))] rfl rfl rfl rfl rfl rfl info24 ?_ ?_
  · exact fcs ⟨.inr ⟨rfl, safe_cell _ (by omega)⟩, fcs ⟨.inr ⟨rfl, safe_cell _ (by omega)⟩, fcs ⟨.inr ⟨rfl, safe_cell _ (by omega)⟩, fcs ⟨.inr ⟨rfl, safe_agg _ _⟩, fcs ⟨.inl rfl, fcs ⟨.inr ⟨rfl, safe_cell _ (by omega)⟩, fnl⟩⟩⟩⟩⟩⟩
  clear st; intro w3 hB hsz3 st
  have hb := hB _ _ hb (by omega) (by omega)
  clear hB
  refine sym_store st 24 6 23 b6 (Con.raw 1) (Con.nn (m + m) ((Rt.tp y) * (Rat.den x))) [(2, Fact.cell b2 (Con.fr m x)), (3, Fact.cell b3 (Con.fr m y)), (4, Fact.cell b4 (Con.raw 3)), (5, Fact.cell b5 (Con.nn (m + m) ((Rt.tp x) * (Rat.den y)))), (6, Fact.cell b6 (Con.nn (m + m) ((Rt.tp y) * (Rat.den x))))] rfl rfl rfl rfl rfl rfl info24 ?_ ?_
  · exact fcs ⟨.inr ⟨rfl, safe_cell _ (by omega)⟩, fcs ⟨.inr ⟨rfl, safe_cell _ (by omega)⟩, fcs ⟨.inr ⟨rfl, safe_cell _ (by omega)⟩, fcs ⟨.inr ⟨rfl, safe_cell _ (by omega)⟩, fcs ⟨.inl rfl, fnl⟩⟩⟩⟩⟩
  clear st; intro w4 hB hsz4 st
  have hb := hB _ _ hb (by omega) (by omega)
  clear hB
  refine wpList_nil ?_
  refine then_normal ?_
  refine wp_seq ?_
  refine sym_region st [(24, Fact.ptr (Con.nn m (Rat.den x))), (25, Fact.agg (Con.nn m (Rat.den x))), (26, Fact.ptr (Con.nn m (Rat.den y))), (27, Fact.agg (Con.nn m (Rat.den y))), (28, Fact.nats m [Rat.den x, Rat.den y]), (29, Fact.agg (Con.nn (m + m) ((Rat.den x) * (Rat.den y)))), (7, Fact.var' (Con.raw 1))] [7] 7 (by kernel_rfl) (by kernel_rfl) (by kernel_rfl) (Nat.le_of_ble_eq_true rfl) (by kernel_rfl) rfl rfl ?_ ?_
  · refine fcs ⟨Ob.new_ (ob_addr 28 2 2 24 2 (Con.fr m x) (Con.nn m (Rat.den x)) rfl rfl (.inl rfl) (by kernel_rfl) points_cell rfl (Con.fr_den m x) field26_2) (by kernel_rfl), ?_⟩
    refine fcs ⟨Ob.new_ (ob_read 24 24 25 (Con.nn m (Rat.den x)) rfl rfl (.inl rfl) (by kernel_rfl) points_ptr rfl row24 info24) (by kernel_rfl), ?_⟩
    refine fcs ⟨Ob.new_ (ob_addr 28 2 3 26 2 (Con.fr m y) (Con.nn m (Rat.den y)) rfl rfl (.inl rfl) (by kernel_rfl) points_cell rfl (Con.fr_den m y) field26_2) (by kernel_rfl), ?_⟩
    refine fcs ⟨Ob.new_ (ob_read 24 26 27 (Con.nn m (Rat.den y)) rfl rfl (.inl rfl) (by kernel_rfl) points_ptr rfl row24 info24) (by kernel_rfl), ?_⟩
    refine fcs ⟨Ob.new_ (ob_nats2 25 27 28 m m m (Rat.den x) (Rat.den y) (by omega) (by omega) rfl rfl (.inl rfl) (by kernel_rfl) (by kernel_rfl) rfl rfl rfl) (by kernel_rfl), ?_⟩
    refine fcs ⟨Ob.new_ (ob_call1 42 28 29 _ rfl rfl (.inl rfl) (by kernel_rfl) (by kernel_rfl) (q_product m (Rat.den x) (Rat.den y) (by omega))) (by kernel_rfl), ?_⟩
    refine fcs ⟨obn_new 24 7 _ [.slice none 0 0] rfl rfl rfl rfl rfl alloc24, ?_⟩
    exact fnl
  intro a5 w5 st5 hbr5 hfr
  have hs5 := hbr5.size
  have hb := up hb hbr5
  obtain ⟨b7, c7⟩ := (show (Fact.var' (Con.raw 1)).holds _ _ from st5.at_ 7)
  have g7 := hfr.ge (s := 7) rfl c7.1
  have st : St 65 [(2, Fact.cell b2 (Con.fr m x)), (3, Fact.cell b3 (Con.fr m y)), (4, Fact.cell b4 (Con.raw 3)), (5, Fact.cell b5 (Con.nn (m + m) ((Rt.tp x) * (Rat.den y)))), (6, Fact.cell b6 (Con.nn (m + m) ((Rt.tp y) * (Rat.den x)))), (29, Fact.agg (Con.nn (m + m) ((Rat.den x) * (Rat.den y)))), (7, Fact.cell b7 (Con.raw 1))] a5 w5 := st5.to (fcs ⟨st5.at_ 2, fcs ⟨st5.at_ 3, fcs ⟨st5.at_ 4, fcs ⟨st5.at_ 5, fcs ⟨st5.at_ 6, fcs ⟨st5.at_ 29, fcs ⟨c7, fnl⟩⟩⟩⟩⟩⟩⟩)
  clear st5 hbr5 hfr c7
  refine sym_store st 24 7 29 b7 (Con.raw 1) (Con.nn (m + m) ((Rat.den x) * (Rat.den y))) [(2, Fact.cell b2 (Con.fr m x)), (3, Fact.cell b3 (Con.fr m y)), (4, Fact.cell b4 (Con.raw 3)), (5, Fact.cell b5 (Con.nn (m + m) ((Rt.tp x) * (Rat.den y)))), (6, Fact.cell b6 (Con.nn (m + m) ((Rt.tp y) * (Rat.den x)))), (7, Fact.cell b7 (Con.nn (m + m) ((Rat.den x) * (Rat.den y))))] rfl rfl rfl rfl rfl rfl info24 ?_ ?_
  · exact fcs ⟨.inr ⟨rfl, safe_cell _ (by omega)⟩, fcs ⟨.inr ⟨rfl, safe_cell _ (by omega)⟩, fcs ⟨.inr ⟨rfl, safe_cell _ (by omega)⟩, fcs ⟨.inr ⟨rfl, safe_cell _ (by omega)⟩, fcs ⟨.inr ⟨rfl, safe_cell _ (by omega)⟩, fcs ⟨.inl rfl, fnl⟩⟩⟩⟩⟩⟩
  clear st; intro w6 hB hsz6 st
  have hb := hB _ _ hb (by omega) (by omega)
  clear hB
  refine wpList_nil ?_
  refine then_normal ?_
  refine wp_seq ?_
  refine wp_seq ?_
  refine sym_region st [(30, Fact.agg (Con.fr m x)), (31, Fact.agg (Con.sgn (Rt.ng x) (decide (Rt.tp x = 0)))), (32, Fact.agg (Con.fr m y)), (33, Fact.agg (Con.sgn (Rt.ng y) (decide (Rt.tp y = 0)))), (34, Fact.eq (.bool ((Rt.ng x) == (Rt.ng y) && (decide (Rt.tp x = 0)) == (decide (Rt.tp y = 0)))))] [] 5 (by kernel_rfl) (by kernel_rfl) (by kernel_rfl) (Nat.le_of_ble_eq_true rfl) (by kernel_rfl) rfl rfl ?_ ?_
  · refine fcs ⟨Ob.new_ (ob_read 28 2 30 (Con.fr m x) rfl rfl (.inl rfl) (by kernel_rfl) points_cell rfl row26 info26) (by kernel_rfl), ?_⟩
    refine fcs ⟨Ob.new_ (ob_call1 40 30 31 _ rfl rfl (.inl rfl) (by kernel_rfl) (by kernel_rfl) (q_signOf m x)) (by kernel_rfl), ?_⟩
    refine fcs ⟨Ob.new_ (ob_read 28 3 32 (Con.fr m y) rfl rfl (.inl rfl) (by kernel_rfl) points_cell rfl row26 info26) (by kernel_rfl), ?_⟩
    refine fcs ⟨Ob.new_ (ob_call1 40 32 33 _ rfl rfl (.inl rfl) (by kernel_rfl) (by kernel_rfl) (q_signOf m y)) (by kernel_rfl), ?_⟩
    refine fcs ⟨Ob.new_ (ob_eqs 31 33 34 _ (Rt.ng x) (decide (Rt.tp x = 0)) (Rt.ng y) (decide (Rt.tp y = 0)) ((Rt.ng x) == (Rt.ng y) && (decide (Rt.tp x = 0)) == (decide (Rt.tp y = 0))) rfl rfl rfl (.inl rfl) (by kernel_rfl) (by kernel_rfl) rfl rfl rfl) (by kernel_rfl), ?_⟩
    exact fnl
  intro a7 w7 st7 hbr7 hfr
  have hs7 := hbr7.size
  have hb := up hb hbr7
  have st : St 65 [(2, Fact.cell b2 (Con.fr m x)), (3, Fact.cell b3 (Con.fr m y)), (4, Fact.cell b4 (Con.raw 3)), (5, Fact.cell b5 (Con.nn (m + m) ((Rt.tp x) * (Rat.den y)))), (6, Fact.cell b6 (Con.nn (m + m) ((Rt.tp y) * (Rat.den x)))), (7, Fact.cell b7 (Con.nn (m + m) ((Rat.den x) * (Rat.den y)))), (34, Fact.eq (.bool ((Rt.ng x) == (Rt.ng y) && (decide (Rt.tp x = 0)) == (decide (Rt.tp y = 0)))))] a7 w7 := st7.to (fcs ⟨st7.at_ 2, fcs ⟨st7.at_ 3, fcs ⟨st7.at_ 4, fcs ⟨st7.at_ 5, fcs ⟨st7.at_ 6, fcs ⟨st7.at_ 7, fcs ⟨st7.at_ 34, fnl⟩⟩⟩⟩⟩⟩⟩)
  clear st7 hbr7 hfr
  refine wpList_nil ?_
  refine then_normal ?_
  refine wp_cond_split (st.at_ 34) (fun h34 => ?_) (fun h34 => ?_)
  · skip
    refine wp_seq ?_
    refine sym_region st [(35, Fact.ptr (Con.bool (Rt.ng x))), (36, Fact.eq (.bool (Rt.ng x))), (37, Fact.agg (Con.nn (m + m) ((Rt.tp x) * (Rat.den y)))), (38, Fact.agg (Con.nn (m + m) ((Rt.tp y) * (Rat.den x)))), (39, Fact.agg (Con.nn ((m + m) + 1) (((Rt.tp x) * (Rat.den y)) + ((Rt.tp y) * (Rat.den x))))), (40, Fact.agg (Con.nn (m + m) ((Rat.den x) * (Rat.den y)))), (41, Fact.agg (Con.fr (max ((m + m) + 1) (m + m)) (Rt.of (Rt.ng x) (((Rt.tp x) * (Rat.den y)) + ((Rt.tp y) * (Rat.den x))) ((Rat.den x) * (Rat.den y)))))] [] 7 (by kernel_rfl) (by kernel_rfl) (by kernel_rfl) (Nat.le_of_ble_eq_true rfl) (by kernel_rfl) rfl rfl ?_ ?_
    · refine fcs ⟨Ob.new_ (ob_addr 28 0 2 35 0 (Con.fr m x) (Con.bool (Rt.ng x)) rfl rfl (.inl rfl) (by kernel_rfl) points_cell rfl (Con.fr_ng m x) field26_0) (by kernel_rfl), ?_⟩
      refine fcs ⟨Ob.new_ (ob_readb 35 36 (Rt.ng x) (Rt.ng x) rfl rfl rfl (.inl rfl) (by kernel_rfl) points_ptr rfl) (by kernel_rfl), ?_⟩
      refine fcs ⟨Ob.new_ (ob_read 24 5 37 (Con.nn (m + m) ((Rt.tp x) * (Rat.den y))) rfl rfl (.inl rfl) (by kernel_rfl) points_cell rfl row24 info24) (by kernel_rfl), ?_⟩
      refine fcs ⟨Ob.new_ (ob_read 24 6 38 (Con.nn (m + m) ((Rt.tp y) * (Rat.den x))) rfl rfl (.inl rfl) (by kernel_rfl) points_cell rfl row24 info24) (by kernel_rfl), ?_⟩
      refine fcs ⟨Ob.new_ (ob_call2 44 37 38 39 _ rfl rfl (.inl rfl) (by kernel_rfl) (by kernel_rfl) (by kernel_rfl) (n_addr (m + m) (m + m) (m + m) ((Rt.tp x) * (Rat.den y)) ((Rt.tp y) * (Rat.den x)) (by omega) (by omega) (by omega))) (by kernel_rfl), ?_⟩
      refine fcs ⟨Ob.new_ (ob_read 24 7 40 (Con.nn (m + m) ((Rat.den x) * (Rat.den y))) rfl rfl (.inl rfl) (by kernel_rfl) points_cell rfl row24 info24) (by kernel_rfl), ?_⟩
      refine fcs ⟨Ob.new_ (ob_call3 33 36 39 40 41 _ rfl rfl (.inl rfl) (by kernel_rfl) (by kernel_rfl) (by kernel_rfl) (by kernel_rfl) (q_reduced ((m + m) + 1) (m + m) (max ((m + m) + 1) (m + m)) (Rt.ng x) (((Rt.tp x) * (Rat.den y)) + ((Rt.tp y) * (Rat.den x))) ((Rat.den x) * (Rat.den y)) (Rt.den_mul_ne x y) (by omega) (by omega) (by omega))) (by kernel_rfl), ?_⟩
      exact fnl
    intro a8 w8 st8 hbr8 hfr
    have hs8 := hbr8.size
    have hb := up hb hbr8
    have st : St 65 [(2, Fact.cell b2 (Con.fr m x)), (3, Fact.cell b3 (Con.fr m y)), (4, Fact.cell b4 (Con.raw 3)), (5, Fact.cell b5 (Con.nn (m + m) ((Rt.tp x) * (Rat.den y)))), (6, Fact.cell b6 (Con.nn (m + m) ((Rt.tp y) * (Rat.den x)))), (7, Fact.cell b7 (Con.nn (m + m) ((Rat.den x) * (Rat.den y)))), (41, Fact.agg (Con.fr (max ((m + m) + 1) (m + m)) (Rt.of (Rt.ng x) (((Rt.tp x) * (Rat.den y)) + ((Rt.tp y) * (Rat.den x))) ((Rat.den x) * (Rat.den y)))))] a8 w8 := st8.to (fcs ⟨st8.at_ 2, fcs ⟨st8.at_ 3, fcs ⟨st8.at_ 4, fcs ⟨st8.at_ 5, fcs ⟨st8.at_ 6, fcs ⟨st8.at_ 7, fcs ⟨st8.at_ 41, fnl⟩⟩⟩⟩⟩⟩⟩)
    clear st8 hbr8 hfr
    refine sym_store st 28 4 41 b4 (Con.raw 3) (Con.fr (max ((m + m) + 1) (m + m)) (Rt.of (Rt.ng x) (((Rt.tp x) * (Rat.den y)) + ((Rt.tp y) * (Rat.den x))) ((Rat.den x) * (Rat.den y)))) [(2, Fact.cell b2 (Con.fr m x)), (3, Fact.cell b3 (Con.fr m y)), (4, Fact.cell b4 (Con.fr (max ((m + m) + 1) (m + m)) (Rt.of (Rt.ng x) (((Rt.tp x) * (Rat.den y)) + ((Rt.tp y) * (Rat.den x))) ((Rat.den x) * (Rat.den y))))), (5, Fact.cell b5 (Con.nn (m + m) ((Rt.tp x) * (Rat.den y)))), (6, Fact.cell b6 (Con.nn (m + m) ((Rt.tp y) * (Rat.den x)))), (7, Fact.cell b7 (Con.nn (m + m) ((Rat.den x) * (Rat.den y))))] rfl rfl rfl rfl rfl rfl info26 ?_ ?_
    · exact fcs ⟨.inr ⟨rfl, safe_cell _ (by omega)⟩, fcs ⟨.inr ⟨rfl, safe_cell _ (by omega)⟩, fcs ⟨.inl rfl, fcs ⟨.inr ⟨rfl, safe_cell _ (by omega)⟩, fcs ⟨.inr ⟨rfl, safe_cell _ (by omega)⟩, fcs ⟨.inr ⟨rfl, safe_cell _ (by omega)⟩, fnl⟩⟩⟩⟩⟩⟩
    clear st; intro w9 hB hsz9 st
    have hb := hB _ _ hb (by omega) (by omega)
    clear hB
    refine wpList_nil ?_
    refine then_normal ?_
    refine wp_ret ?_
    exact sym_ret1 rfl st.defers (resAt_cell st 4 b4 28 (Con.fr (max ((m + m) + 1) (m + m)) (Rt.of (Rt.ng x) (((Rt.tp x) * (Rat.den y)) + ((Rt.tp y) * (Rat.den x))) ((Rat.den x) * (Rat.den y)))) rfl row26 info26) hb (fun v h => by rw [Rt.add_same (Rt.same_ng h34)]; exact Fact.fr_up h (by omega))
  · skip
    refine wp_skip ?_
    refine then_normal ?_
    refine wp_seq ?_
    refine wp_seq ?_
    refine sym_region st [(43, Fact.agg (Con.nn (m + m) ((Rt.tp x) * (Rat.den y)))), (44, Fact.agg (Con.nn (m + m) ((Rt.tp y) * (Rat.den x)))), (45, Fact.two (Fact.agg (Con.nn (m + m) (((Rt.tp x) * (Rat.den y)) - ((Rt.tp y) * (Rat.den x))))) (Fact.eq (.bool (decide ((Rt.tp y) * (Rat.den x) ≤ (Rt.tp x) * (Rat.den y)))))), (42, Fact.two (Fact.agg (Con.nn (m + m) (((Rt.tp x) * (Rat.den y)) - ((Rt.tp y) * (Rat.den x))))) (Fact.eq (.bool (decide ((Rt.tp y) * (Rat.den x) ≤ (Rt.tp x) * (Rat.den y)))))), (46, Fact.agg (Con.nn (m + m) (((Rt.tp x) * (Rat.den y)) - ((Rt.tp y) * (Rat.den x))))), (47, Fact.eq (.bool (decide ((Rt.tp y) * (Rat.den x) ≤ (Rt.tp x) * (Rat.den y))))), (8, Fact.var' (Con.raw 1))] [8] 7 (by kernel_rfl) (by kernel_rfl) (by kernel_rfl) (Nat.le_of_ble_eq_true rfl) (by kernel_rfl) rfl rfl ?_ ?_
    · refine fcs ⟨Ob.new_ (ob_read 24 5 43 (Con.nn (m + m) ((Rt.tp x) * (Rat.den y))) rfl rfl (.inl rfl) (by kernel_rfl) points_cell rfl row24 info24) (by kernel_rfl), ?_⟩
      refine fcs ⟨Ob.new_ (ob_read 24 6 44 (Con.nn (m + m) ((Rt.tp y) * (Rat.den x))) rfl rfl (.inl rfl) (by kernel_rfl) points_cell rfl row24 info24) (by kernel_rfl), ?_⟩
      refine fcs ⟨Ob.new_ (ob_call2 45 43 44 45 _ rfl rfl (.inl rfl) (by kernel_rfl) (by kernel_rfl) (by kernel_rfl) (n_sub (m + m) (m + m) ((Rt.tp x) * (Rat.den y)) ((Rt.tp y) * (Rat.den x)) (by omega))) (by kernel_rfl), ?_⟩
      refine fcs ⟨Ob.new_ (ob_copy 45 42 (.inl rfl) rfl (.inl rfl) (by kernel_rfl) rfl) (by kernel_rfl), ?_⟩
      refine fcs ⟨Ob.new_ (ob_fst 42 46 (Fact.agg (Con.nn (m + m) (((Rt.tp x) * (Rat.den y)) - ((Rt.tp y) * (Rat.den x))))) (Fact.eq (.bool (decide ((Rt.tp y) * (Rat.den x) ≤ (Rt.tp x) * (Rat.den y))))) rfl rfl (.inl rfl) (by kernel_rfl) rfl rfl) (by kernel_rfl), ?_⟩
      refine fcs ⟨Ob.new_ (ob_snd 42 47 (Fact.agg (Con.nn (m + m) (((Rt.tp x) * (Rat.den y)) - ((Rt.tp y) * (Rat.den x))))) (Fact.eq (.bool (decide ((Rt.tp y) * (Rat.den x) ≤ (Rt.tp x) * (Rat.den y))))) rfl rfl (.inl rfl) (by kernel_rfl) rfl rfl) (by kernel_rfl), ?_⟩
      refine fcs ⟨obn_new 24 8 _ [.slice none 0 0] rfl rfl rfl rfl rfl alloc24, ?_⟩
      exact fnl
    intro a10 w10 st10 hbr10 hfr
    have hs10 := hbr10.size
    have hb := up hb hbr10
    obtain ⟨b8, c8⟩ := (show (Fact.var' (Con.raw 1)).holds _ _ from st10.at_ 8)
    have g8 := hfr.ge (s := 8) rfl c8.1
    have st : St 65 [(2, Fact.cell b2 (Con.fr m x)), (3, Fact.cell b3 (Con.fr m y)), (4, Fact.cell b4 (Con.raw 3)), (5, Fact.cell b5 (Con.nn (m + m) ((Rt.tp x) * (Rat.den y)))), (6, Fact.cell b6 (Con.nn (m + m) ((Rt.tp y) * (Rat.den x)))), (7, Fact.cell b7 (Con.nn (m + m) ((Rat.den x) * (Rat.den y)))), (46, Fact.agg (Con.nn (m + m) (((Rt.tp x) * (Rat.den y)) - ((Rt.tp y) * (Rat.den x))))), (47, Fact.eq (.bool (decide ((Rt.tp y) * (Rat.den x) ≤ (Rt.tp x) * (Rat.den y))))), (8, Fact.cell b8 (Con.raw 1))] a10 w10 := st10.to (fcs ⟨st10.at_ 2, fcs ⟨st10.at_ 3, fcs ⟨st10.at_ 4, fcs ⟨st10.at_ 5, fcs ⟨st10.at_ 6, fcs ⟨st10.at_ 7, fcs ⟨st10.at_ 46, fcs ⟨st10.at_ 47, fcs ⟨c8, fnl⟩⟩⟩⟩⟩⟩⟩⟩⟩)
    clear st10 hbr10 hfr c8
    refine sym_store st 24 8 46 b8 (Con.raw 1) (Con.nn (m + m) (((Rt.tp x) * (Rat.den y)) - ((Rt.tp y) * (Rat.den x)))) [(2, Fact.cell b2 (Con.fr m x)), (3, Fact.cell b3 (Con.fr m y)), (4, Fact.cell b4 (Con.raw 3)), (5, Fact.cell b5 (Con.nn (m + m) ((Rt.tp x) * (Rat.den y)))), (6, Fact.cell b6 (Con.nn (m + m) ((Rt.tp y) * (Rat.den x)))), (7, Fact.cell b7 (Con.nn (m + m) ((Rat.den x) * (Rat.den y)))), (47, Fact.eq (.bool (decide ((Rt.tp y) * (Rat.den x) ≤ (Rt.tp x) * (Rat.den y))))), (8, Fact.cell b8 (Con.nn (m + m) (((Rt.tp x) * (Rat.den y)) - ((Rt.tp y) * (Rat.den x)))))] rfl rfl rfl rfl rfl rfl info24 ?_ ?_
    · exact fcs ⟨.inr ⟨rfl, safe_cell _ (by omega)⟩, fcs ⟨.inr ⟨rfl, safe_cell _ (by omega)⟩, fcs ⟨.inr ⟨rfl, safe_cell _ (by omega)⟩, fcs ⟨.inr ⟨rfl, safe_cell _ (by omega)⟩, fcs ⟨.inr ⟨rfl, safe_cell _ (by omega)⟩, fcs ⟨.inr ⟨rfl, safe_cell _ (by omega)⟩, fcs ⟨.inr ⟨rfl, safe_eq _ _⟩, fcs ⟨.inl rfl, fnl⟩⟩⟩⟩⟩⟩⟩⟩
    clear st; intro w11 hB hsz11 st
    have hb := hB _ _ hb (by omega) (by omega)
    clear hB
    refine sym_op st 9 (Fact.eq (.bool (decide ((Rt.tp y) * (Rat.den x) ≤ (Rt.tp x) * (Rat.den y))))) rfl (Nat.le_of_ble_eq_true rfl) rfl rfl (by kernel_rfl) (ob_copy 47 9 (.inr rfl) rfl (.inl rfl) (by kernel_rfl) rfl) ?_
    clear st; intro a12 w12 hbr st; have hs12 := hbr.size; have hb := up hb hbr; clear hbr
    refine wpList_nil ?_
    refine then_normal ?_
    refine wp_seq ?_
    refine sym_region st [(48, Fact.eq (.bool (decide ((Rt.tp y) * (Rat.den x) ≤ (Rt.tp x) * (Rat.den y)))))] [] 1 (by kernel_rfl) (by kernel_rfl) (by kernel_rfl) (Nat.le_of_ble_eq_true rfl) (by kernel_rfl) rfl rfl ?_ ?_
    · refine fcs ⟨Ob.new_ (ob_copy 9 48 (.inl rfl) rfl (.inl rfl) (by kernel_rfl) rfl) (by kernel_rfl), ?_⟩
      exact fnl
    intro a13 w13 st13 hbr13 hfr
    have hs13 := hbr13.size
    have hb := up hb hbr13
    have st : St 65 [(2, Fact.cell b2 (Con.fr m x)), (3, Fact.cell b3 (Con.fr m y)), (4, Fact.cell b4 (Con.raw 3)), (5, Fact.cell b5 (Con.nn (m + m) ((Rt.tp x) * (Rat.den y)))), (6, Fact.cell b6 (Con.nn (m + m) ((Rt.tp y) * (Rat.den x)))), (7, Fact.cell b7 (Con.nn (m + m) ((Rat.den x) * (Rat.den y)))), (8, Fact.cell b8 (Con.nn (m + m) (((Rt.tp x) * (Rat.den y)) - ((Rt.tp y) * (Rat.den x))))), (48, Fact.eq (.bool (decide ((Rt.tp y) * (Rat.den x) ≤ (Rt.tp x) * (Rat.den y)))))] a13 w13 := st13.to (fcs ⟨st13.at_ 2, fcs ⟨st13.at_ 3, fcs ⟨st13.at_ 4, fcs ⟨st13.at_ 5, fcs ⟨st13.at_ 6, fcs ⟨st13.at_ 7, fcs ⟨st13.at_ 8, fcs ⟨st13.at_ 48, fnl⟩⟩⟩⟩⟩⟩⟩⟩)
    clear st13 hbr13 hfr
    refine wpList_nil ?_
    refine then_normal ?_
    refine wp_cond_split (st.at_ 48) (fun h48 => ?_) (fun h48 => ?_)
    · skip
      refine wp_seq ?_
      refine sym_region st [(49, Fact.ptr (Con.bool (Rt.ng x))), (50, Fact.eq (.bool (Rt.ng x))), (51, Fact.agg (Con.nn (m + m) (((Rt.tp x) * (Rat.den y)) - ((Rt.tp y) * (Rat.den x))))), (52, Fact.agg (Con.nn (m + m) ((Rat.den x) * (Rat.den y)))), (53, Fact.agg (Con.fr (m + m) (Rt.of (Rt.ng x) (((Rt.tp x) * (Rat.den y)) - ((Rt.tp y) * (Rat.den x))) ((Rat.den x) * (Rat.den y)))))] [] 5 (by kernel_rfl) (by kernel_rfl) (by kernel_rfl) (Nat.le_of_ble_eq_true rfl) (by kernel_rfl) rfl rfl ?_ ?_
      · refine fcs ⟨Ob.new_ (ob_addr 28 0 2 49 0 (Con.fr m x) (Con.bool (Rt.ng x)) rfl rfl (.inl rfl) (by kernel_rfl) points_cell rfl (Con.fr_ng m x) field26_0) (by kernel_rfl), ?_⟩
        refine fcs ⟨Ob.new_ (ob_readb 49 50 (Rt.ng x) (Rt.ng x) rfl rfl rfl (.inl rfl) (by kernel_rfl) points_ptr rfl) (by kernel_rfl), ?_⟩
        refine fcs ⟨Ob.new_ (ob_read 24 8 51 (Con.nn (m + m) (((Rt.tp x) * (Rat.den y)) - ((Rt.tp y) * (Rat.den x)))) rfl rfl (.inl rfl) (by kernel_rfl) points_cell rfl row24 info24) (by kernel_rfl), ?_⟩
        refine fcs ⟨Ob.new_ (ob_read 24 7 52 (Con.nn (m + m) ((Rat.den x) * (Rat.den y))) rfl rfl (.inl rfl) (by kernel_rfl) points_cell rfl row24 info24) (by kernel_rfl), ?_⟩
        refine fcs ⟨Ob.new_ (ob_call3 33 50 51 52 53 _ rfl rfl (.inl rfl) (by kernel_rfl) (by kernel_rfl) (by kernel_rfl) (by kernel_rfl) (q_reduced (m + m) (m + m) (m + m) (Rt.ng x) (((Rt.tp x) * (Rat.den y)) - ((Rt.tp y) * (Rat.den x))) ((Rat.den x) * (Rat.den y)) (Rt.den_mul_ne x y) (by omega) (by omega) (by omega))) (by kernel_rfl), ?_⟩
        exact fnl
      intro a14 w14 st14 hbr14 hfr
      have hs14 := hbr14.size
      have hb := up hb hbr14
      have st : St 65 [(3, Fact.cell b3 (Con.fr m y)), (4, Fact.cell b4 (Con.raw 3)), (5, Fact.cell b5 (Con.nn (m + m) ((Rt.tp x) * (Rat.den y)))), (6, Fact.cell b6 (Con.nn (m + m) ((Rt.tp y) * (Rat.den x)))), (7, Fact.cell b7 (Con.nn (m + m) ((Rat.den x) * (Rat.den y)))), (53, Fact.agg (Con.fr (m + m) (Rt.of (Rt.ng x) (((Rt.tp x) * (Rat.den y)) - ((Rt.tp y) * (Rat.den x))) ((Rat.den x) * (Rat.den y)))))] a14 w14 := st14.to (fcs ⟨st14.at_ 3, fcs ⟨st14.at_ 4, fcs ⟨st14.at_ 5, fcs ⟨st14.at_ 6, fcs ⟨st14.at_ 7, fcs ⟨st14.at_ 53, fnl⟩⟩⟩⟩⟩⟩)
      clear st14 hbr14 hfr
      refine sym_store st 28 4 53 b4 (Con.raw 3) (Con.fr (m + m) (Rt.of (Rt.ng x) (((Rt.tp x) * (Rat.den y)) - ((Rt.tp y) * (Rat.den x))) ((Rat.den x) * (Rat.den y)))) [(3, Fact.cell b3 (Con.fr m y)), (4, Fact.cell b4 (Con.fr (m + m) (Rt.of (Rt.ng x) (((Rt.tp x) * (Rat.den y)) - ((Rt.tp y) * (Rat.den x))) ((Rat.den x) * (Rat.den y))))), (5, Fact.cell b5 (Con.nn (m + m) ((Rt.tp x) * (Rat.den y)))), (6, Fact.cell b6 (Con.nn (m + m) ((Rt.tp y) * (Rat.den x)))), (7, Fact.cell b7 (Con.nn (m + m) ((Rat.den x) * (Rat.den y))))] rfl rfl rfl rfl rfl rfl info26 ?_ ?_
      · exact fcs ⟨.inr ⟨rfl, safe_cell _ (by omega)⟩, fcs ⟨.inl rfl, fcs ⟨.inr ⟨rfl, safe_cell _ (by omega)⟩, fcs ⟨.inr ⟨rfl, safe_cell _ (by omega)⟩, fcs ⟨.inr ⟨rfl, safe_cell _ (by omega)⟩, fnl⟩⟩⟩⟩⟩
      clear st; intro w15 hB hsz15 st
      have hb := hB _ _ hb (by omega) (by omega)
      clear hB
      refine wpList_nil ?_
      refine then_normal ?_
      refine wp_ret ?_
      exact sym_ret1 rfl st.defers (resAt_cell st 4 b4 28 (Con.fr (m + m) (Rt.of (Rt.ng x) (((Rt.tp x) * (Rat.den y)) - ((Rt.tp y) * (Rat.den x))) ((Rat.den x) * (Rat.den y)))) rfl row26 info26) hb (fun v h => by rw [Rt.add_mixed_ge h34 (of_decide_eq_true h48)]; exact Fact.fr_up h (by omega))
    · skip
      refine wp_skip ?_
      refine then_normal ?_
      refine wp_seq ?_
      refine sym_region st [(55, Fact.agg (Con.nn (m + m) ((Rt.tp y) * (Rat.den x)))), (56, Fact.agg (Con.nn (m + m) ((Rt.tp x) * (Rat.den y)))), (57, Fact.two (Fact.agg (Con.nn (m + m) (((Rt.tp y) * (Rat.den x)) - ((Rt.tp x) * (Rat.den y))))) (Fact.eq (.bool (decide ((Rt.tp x) * (Rat.den y) ≤ (Rt.tp y) * (Rat.den x)))))), (54, Fact.two (Fact.agg (Con.nn (m + m) (((Rt.tp y) * (Rat.den x)) - ((Rt.tp x) * (Rat.den y))))) (Fact.eq (.bool (decide ((Rt.tp x) * (Rat.den y) ≤ (Rt.tp y) * (Rat.den x)))))), (58, Fact.agg (Con.nn (m + m) (((Rt.tp y) * (Rat.den x)) - ((Rt.tp x) * (Rat.den y))))), (59, Fact.eq (.bool (decide ((Rt.tp x) * (Rat.den y) ≤ (Rt.tp y) * (Rat.den x))))), (10, Fact.var' (Con.raw 1))] [10] 7 (by kernel_rfl) (by kernel_rfl) (by kernel_rfl) (Nat.le_of_ble_eq_true rfl) (by kernel_rfl) rfl rfl ?_ ?_
      · refine fcs ⟨Ob.new_ (ob_read 24 6 55 (Con.nn (m + m) ((Rt.tp y) * (Rat.den x))) rfl rfl (.inl rfl) (by kernel_rfl) points_cell rfl row24 info24) (by kernel_rfl), ?_⟩
        refine fcs ⟨Ob.new_ (ob_read 24 5 56 (Con.nn (m + m) ((Rt.tp x) * (Rat.den y))) rfl rfl (.inl rfl) (by kernel_rfl) points_cell rfl row24 info24) (by kernel_rfl), ?_⟩
        refine fcs ⟨Ob.new_ (ob_call2 45 55 56 57 _ rfl rfl (.inl rfl) (by kernel_rfl) (by kernel_rfl) (by kernel_rfl) (n_sub (m + m) (m + m) ((Rt.tp y) * (Rat.den x)) ((Rt.tp x) * (Rat.den y)) (by omega))) (by kernel_rfl), ?_⟩
        refine fcs ⟨Ob.new_ (ob_copy 57 54 (.inl rfl) rfl (.inl rfl) (by kernel_rfl) rfl) (by kernel_rfl), ?_⟩
        refine fcs ⟨Ob.new_ (ob_fst 54 58 (Fact.agg (Con.nn (m + m) (((Rt.tp y) * (Rat.den x)) - ((Rt.tp x) * (Rat.den y))))) (Fact.eq (.bool (decide ((Rt.tp x) * (Rat.den y) ≤ (Rt.tp y) * (Rat.den x))))) rfl rfl (.inl rfl) (by kernel_rfl) rfl rfl) (by kernel_rfl), ?_⟩
        refine fcs ⟨Ob.new_ (ob_snd 54 59 (Fact.agg (Con.nn (m + m) (((Rt.tp y) * (Rat.den x)) - ((Rt.tp x) * (Rat.den y))))) (Fact.eq (.bool (decide ((Rt.tp x) * (Rat.den y) ≤ (Rt.tp y) * (Rat.den x))))) rfl rfl (.inl rfl) (by kernel_rfl) rfl rfl) (by kernel_rfl), ?_⟩
        refine fcs ⟨obn_new 24 10 _ [.slice none 0 0] rfl rfl rfl rfl rfl alloc24, ?_⟩
        exact fnl
      intro a16 w16 st16 hbr16 hfr
      have hs16 := hbr16.size
      have hb := up hb hbr16
      obtain ⟨b10, c10⟩ := (show (Fact.var' (Con.raw 1)).holds _ _ from st16.at_ 10)
      have g10 := hfr.ge (s := 10) rfl c10.1
      have st : St 65 [(3, Fact.cell b3 (Con.fr m y)), (4, Fact.cell b4 (Con.raw 3)), (7, Fact.cell b7 (Con.nn (m + m) ((Rat.den x) * (Rat.den y)))), (58, Fact.agg (Con.nn (m + m) (((Rt.tp y) * (Rat.den x)) - ((Rt.tp x) * (Rat.den y))))), (59, Fact.eq (.bool (decide ((Rt.tp x) * (Rat.den y) ≤ (Rt.tp y) * (Rat.den x))))), (10, Fact.cell b10 (Con.raw 1))] a16 w16 := st16.to (fcs ⟨st16.at_ 3, fcs ⟨st16.at_ 4, fcs ⟨st16.at_ 7, fcs ⟨st16.at_ 58, fcs ⟨st16.at_ 59, fcs ⟨c10, fnl⟩⟩⟩⟩⟩⟩)
      clear st16 hbr16 hfr c10
      refine sym_store st 24 10 58 b10 (Con.raw 1) (Con.nn (m + m) (((Rt.tp y) * (Rat.den x)) - ((Rt.tp x) * (Rat.den y)))) [(3, Fact.cell b3 (Con.fr m y)), (4, Fact.cell b4 (Con.raw 3)), (7, Fact.cell b7 (Con.nn (m + m) ((Rat.den x) * (Rat.den y)))), (59, Fact.eq (.bool (decide ((Rt.tp x) * (Rat.den y) ≤ (Rt.tp y) * (Rat.den x))))), (10, Fact.cell b10 (Con.nn (m + m) (((Rt.tp y) * (Rat.den x)) - ((Rt.tp x) * (Rat.den y)))))] rfl rfl rfl rfl rfl rfl info24 ?_ ?_
      · exact fcs ⟨.inr ⟨rfl, safe_cell _ (by omega)⟩, fcs ⟨.inr ⟨rfl, safe_cell _ (by omega)⟩, fcs ⟨.inr ⟨rfl, safe_cell _ (by omega)⟩, fcs ⟨.inr ⟨rfl, safe_eq _ _⟩, fcs ⟨.inl rfl, fnl⟩⟩⟩⟩⟩
      clear st; intro w17 hB hsz17 st
      have hb := hB _ _ hb (by omega) (by omega)
      clear hB
      refine sym_op st 11 (Fact.eq (.bool (decide ((Rt.tp x) * (Rat.den y) ≤ (Rt.tp y) * (Rat.den x))))) rfl (Nat.le_of_ble_eq_true rfl) rfl rfl (by kernel_rfl) (ob_copy 59 11 (.inr rfl) rfl (.inl rfl) (by kernel_rfl) rfl) ?_
      clear st; intro a18 w18 hbr st; have hs18 := hbr.size; have hb := up hb hbr; clear hbr
      refine wpList_nil ?_
      refine then_normal ?_
      refine wp_seq ?_
      refine sym_region st [(60, Fact.ptr (Con.bool (Rt.ng y))), (61, Fact.eq (.bool (Rt.ng y))), (62, Fact.agg (Con.nn (m + m) (((Rt.tp y) * (Rat.den x)) - ((Rt.tp x) * (Rat.den y))))), (63, Fact.agg (Con.nn (m + m) ((Rat.den x) * (Rat.den y)))), (64, Fact.agg (Con.fr (m + m) (Rt.of (Rt.ng y) (((Rt.tp y) * (Rat.den x)) - ((Rt.tp x) * (Rat.den y))) ((Rat.den x) * (Rat.den y)))))] [] 5 (by kernel_rfl) (by kernel_rfl) (by kernel_rfl) (Nat.le_of_ble_eq_true rfl) (by kernel_rfl) rfl rfl ?_ ?_
      · refine fcs ⟨Ob.new_ (ob_addr 28 0 3 60 0 (Con.fr m y) (Con.bool (Rt.ng y)) rfl rfl (.inl rfl) (by kernel_rfl) points_cell rfl (Con.fr_ng m y) field26_0) (by kernel_rfl), ?_⟩
        refine fcs ⟨Ob.new_ (ob_readb 60 61 (Rt.ng y) (Rt.ng y) rfl rfl rfl (.inl rfl) (by kernel_rfl) points_ptr rfl) (by kernel_rfl), ?_⟩
        refine fcs ⟨Ob.new_ (ob_read 24 10 62 (Con.nn (m + m) (((Rt.tp y) * (Rat.den x)) - ((Rt.tp x) * (Rat.den y)))) rfl rfl (.inl rfl) (by kernel_rfl) points_cell rfl row24 info24) (by kernel_rfl), ?_⟩
        refine fcs ⟨Ob.new_ (ob_read 24 7 63 (Con.nn (m + m) ((Rat.den x) * (Rat.den y))) rfl rfl (.inl rfl) (by kernel_rfl) points_cell rfl row24 info24) (by kernel_rfl), ?_⟩
        refine fcs ⟨Ob.new_ (ob_call3 33 61 62 63 64 _ rfl rfl (.inl rfl) (by kernel_rfl) (by kernel_rfl) (by kernel_rfl) (by kernel_rfl) (q_reduced (m + m) (m + m) (m + m) (Rt.ng y) (((Rt.tp y) * (Rat.den x)) - ((Rt.tp x) * (Rat.den y))) ((Rat.den x) * (Rat.den y)) (Rt.den_mul_ne x y) (by omega) (by omega) (by omega))) (by kernel_rfl), ?_⟩
        exact fnl
      intro a19 w19 st19 hbr19 hfr
      have hs19 := hbr19.size
      have hb := up hb hbr19
      have st : St 65 [(4, Fact.cell b4 (Con.raw 3)), (64, Fact.agg (Con.fr (m + m) (Rt.of (Rt.ng y) (((Rt.tp y) * (Rat.den x)) - ((Rt.tp x) * (Rat.den y))) ((Rat.den x) * (Rat.den y)))))] a19 w19 := st19.to (fcs ⟨st19.at_ 4, fcs ⟨st19.at_ 64, fnl⟩⟩)
      clear st19 hbr19 hfr
      refine sym_store st 28 4 64 b4 (Con.raw 3) (Con.fr (m + m) (Rt.of (Rt.ng y) (((Rt.tp y) * (Rat.den x)) - ((Rt.tp x) * (Rat.den y))) ((Rat.den x) * (Rat.den y)))) [(4, Fact.cell b4 (Con.fr (m + m) (Rt.of (Rt.ng y) (((Rt.tp y) * (Rat.den x)) - ((Rt.tp x) * (Rat.den y))) ((Rat.den x) * (Rat.den y)))))] rfl rfl rfl rfl rfl rfl info26 ?_ ?_
      · exact fcs ⟨.inl rfl, fnl⟩
      clear st; intro w20 hB hsz20 st
      have hb := hB _ _ hb (by omega) (by omega)
      clear hB
      refine wpList_nil ?_
      refine then_normal ?_
      refine wp_ret ?_
      exact sym_ret1 rfl st.defers (resAt_cell st 4 b4 28 (Con.fr (m + m) (Rt.of (Rt.ng y) (((Rt.tp y) * (Rat.den x)) - ((Rt.tp x) * (Rat.den y))) ((Rat.den x) * (Rat.den y)))) rfl row26 info26) hb (fun v h => by rw [Rt.add_mixed_lt h34 (of_decide_eq_false h48)]; exact Fact.fr_up h (by omega))
theorem q_add (k l : Nat) (x y : Rat) (hk : 2 * max k l + 1 ≤ 400) : ∀ v0 v1 w, (Fact.fr k x).holds v0 w → (Fact.fr l y).holds v1 w → Calls Tryd.prog 21 #[v0, v1] w (Ret (Fact.fr (k + l + 1) (x + y)) w) := by
  intro v0 v1 w hv0 hv1
  have z := Rt.Sz.add (Fact.fr_sz hv0) (Fact.fr_sz hv1)
  exact (q_addm (max k l) x y (by omega) v0 v1 w (Fact.fr_up hv0 (Nat.le_max_left k l)) (Fact.fr_up hv1 (Nat.le_max_right k l))).mono fun _ _ h => h.to fun _ h => Fact.fr_is h z
end Go.Proofs.YtjfehdkfogdpgaaDoor
namespace Go.Proofs.YtjfehdkfogdpgaaDoor
open Go.RowKit
def ParseRet (s : ByteArray) (e : Ending) (w' : World) : Prop :=
  ∃ A n c zs, e = .returned (.tuple #[nt A n c, .int .i64 (Nm.chk (Bt s) : Int)]) ∧ Num w' A n c zs ∧ (Nm.chk (Bt s) ≠ 0 → zs = []) ∧ (Nm.chk (Bt s) = 0 → zs = Nm.nat (Nm.dval (Bt s)))
theorem parse_err {s : ByteArray} {e : Ending} {w' : World} {n : Nat} (hn : Nm.chk (Bt s) = n) (h0 : n ≠ 0) (he : e = .returned (.tuple #[nt none 0 0, .int .i64 (n : Int)])) : ParseRet s e w' := by
  subst hn
  exact ⟨none, 0, 0, [], he, ⟨.inl rfl, rfl, Nat.le_refl _, Nm.Dig.nil, by decide⟩, fun _ => rfl, fun h => absurd h h0⟩
theorem ten_small : 10 ^ 400 ≤ 4294967296 ^ 42 := by decide +kernel
end Go.Proofs.YtjfehdkfogdpgaaDoor
namespace Go.Proofs.YtjfehdkfogdpgaaDoor
namespace Nm
theorem dec_short {v : Nat} (h : v < 10 ^ 400) : ¬ 400 < (dec v).length := by
  unfold dec
  split
  · decide
  · rw [List.length_reverse, digs_length]
    have := nd_le_of_lt h
    omega
end Nm
end Go.Proofs.YtjfehdkfogdpgaaDoor
namespace Go.Proofs.YtjfehdkfogdpgaaDoor
open Go.RowKit
theorem r_gcd (k l p q : Nat) (h0 : q ≠ 0) (hk : k ≤ 300) (h : l ≤ 300) : ∀ v u w, (Fact.nn k p).holds v w → (Fact.nn l q).holds u w → Calls Tryd.prog 35 #[v, u] w (Ret (Fact.nn l (Nat.gcd p q)) w) := by
  intro v u w hv hu
  obtain ⟨hv, zv⟩ := Fact.nn_num hv
  obtain ⟨hu, zu⟩ := Fact.nn_num hu
  have z := gcd_sz_right (p := p) zu h0
  exact (c_refGcd _ _ (Nm.nat (Nat.gcd p q)) (by rw [nn_val]) (by rw [nn_val]) (Nat.le_trans (Nm.nat_len zv) hk) (Nat.le_trans (Nm.nat_len zu) h) (by rw [nn_val, nn_val]) v u w hv hu).mono fun _ _ h => Fact.ret_nn h z
theorem r_divMod (k l p q : Nat) (h0 : q ≠ 0) (hk : k ≤ 300) (h : l ≤ 300) : ∀ v u w, (Fact.nn k p).holds v w → (Fact.nn l q).holds u w → Calls Tryd.prog 36 #[v, u] w (Ret (Fact.three (Fact.nn k (p / q)) (Fact.nn l (p % q)) (Fact.eq (.int .i64 0))) w) := by
  intro v u w hv hu
  obtain ⟨⟨A, c, rfl, hx⟩, zv⟩ := Fact.nn_num hv
  obtain ⟨⟨B, d, rfl, hy⟩, zu⟩ := Fact.nn_num hu
  have z1 : Nm.Sz k (p / q) := zv.mono (Nat.div_le_self _ _)
  have z2 : Nm.Sz l (p % q) := zu.mono (Nat.le_of_lt (Nat.mod_lt _ (by omega)))
  have hp := tlen_pos h0
  rw [Nm.tlen_nat] at hp
  refine (refDivMod_n hx hy (Nat.le_trans (Nm.nat_len zv) hk) (Nat.le_trans (Nm.nat_len zu) h) (Nm.tlen_nat _) (Nm.tlen_nat _) hp (Nm.nat (p / q)) (Nm.nat (p % q)) (by rw [nn_val, nn_val]) (by rw [nn_val, nn_val])).mono fun e w' ⟨A1, c1, A2, c2, he, hn1, hn2, hb⟩ => ⟨_, he, hb, _, _, _, rfl, ?_, ?_, rfl⟩
  · exact Fact.num_nn ⟨A1, c1, rfl, hn1⟩ z1
  · exact Fact.num_nn ⟨A2, c2, rfl, hn2⟩ z2
theorem r_of (k n : Nat) (h : n < 18446744073709551616) (hz : Nm.Sz k n) : ∀ v w, (Fact.eq (.int .u64 (n : Int))).holds v w → Calls Tryd.prog 24 #[v] w (Ret (Fact.nn k n) w) := fun v w hv =>
  (c_refOf n h v w hv).mono fun _ _ h => Fact.ret_nn h hz
theorem r_ofc (k n : Nat) (h : n < 18446744073709551616) (hz : Nm.Sz k n) : ∀ w, Calls Tryd.prog 24 #[.int .u64 n] w (Ret (Fact.nn k n) w) := fun w => r_of k n h hz _ w rfl
theorem n_ofv (k n : Nat) (h : n < 18446744073709551616) (hz : Nm.Sz k n) (hk : k ≤ 400) : ∀ v w, (Fact.eq (.int .u64 (n : Int))).holds v w → Calls Tryd.prog 27 #[v] w (Ret (Fact.nn k n) w) := by
  rintro v w rfl
  exact n_of k n h hz hk w
theorem r_same (k l p q : Nat) (b : Bool) (hb : decide (p = q) = b) : ∀ v u w, (Fact.nn k p).holds v w → (Fact.nn l q).holds u w → Calls Tryd.prog 26 #[v, u] w (Ret (Fact.eq (.bool b)) w) := by
  intro v u w hv hu
  refine c_same _ _ b ?_ v u w (Fact.nn_num hv).1 (Fact.nn_num hu).1
  subst hb
  by_cases h : p = q
  · subst h; simp
  · rw [decide_eq_false h, decide_eq_false (fun e => h (Nm.nat_inj e))]
theorem r_valid (k p : Nat) : ∀ v w, (Fact.nn k p).holds v w → Calls Tryd.prog 11 #[v] w (Ret (Fact.eq (.bool true)) w) := by
  rintro v w ⟨cs, rfl, A, c, rfl, hn, hz⟩
  exact (refValid_any A c _ w hn.rd (by have := hn.small; omega)).mono fun _ _ ⟨he, hb⟩ => ⟨_, he, hb, by rw [decide_eq_true (Nm.tlen_nat p)]; rfl⟩
theorem n_valid (k p : Nat) : ∀ v w, (Fact.nn k p).holds v w → Calls Tryd.prog 37 #[v] w (Ret (Fact.eq (.bool true)) w) := by
  rintro v w ⟨cs, rfl, A, c, rfl, hn, hz⟩
  exact (valid_any A c _ w hn.rd hn.cap (by have := hn.small; omega)).mono fun _ _ ⟨he, hb⟩ => ⟨_, he, hb, by rw [decide_eq_true (Nm.tlen_nat p)]; rfl⟩
end Go.Proofs.YtjfehdkfogdpgaaDoor

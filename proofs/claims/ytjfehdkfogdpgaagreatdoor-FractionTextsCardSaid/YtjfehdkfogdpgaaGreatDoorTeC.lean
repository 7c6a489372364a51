/-
  A region whose order Go leaves open, with a relation that each of its operations keeps; and a region that makes new variables and stores into each of them once. No conditions beyond those that they name.
  The law of the greatest common divisor: it returns true. No conditions. Also: Contract of the reference's Gcd. Conditions: numbers without leading zeros, of at most 300 digits.
  The law that arguments are not modified and results have memory of their own: it returns true. No conditions. Also: A region whose operations each give a value told ahead and keep what is said of memory; slices of digits that are written, whatever the digits. No conditions beyond those that each names.
  The types of fractions in the model: loads, fields, new variables, built values; and the contracts of numbers told by facts. No conditions beyond those that each names.
  More obligations of single operations: comparisons, built values, parts of results, numbers in a row. No conditions beyond those that each names.
  Fractions and the sizes of their parts; the facts of a fraction, and of one that is made of a sign and two numbers. No conditions beyond those that each names.
  Contracts of isZero, isOne, signOf and reduced. Conditions: numbers of at most 400 digits.
  Rows of numbers: their length, their elements; the product of a list. No conditions beyond those that each names.
  Contract of product. Conditions: numbers of at most 400 digits together.
  A copy of a slice of digits whatever its capacity, told by facts; fields of a number; the text of a fraction's contracts needs them. Conditions: at most 400 digits.
  Contracts of Make, Neg, Add, Mul, Sub, Div, Sign and Lerp. Conditions: numbers of at most 400 digits together.
  Obligations of the operations of the reference's Parse. No conditions beyond those that each names.
  Contract of the reference's Parse. No conditions but the string's size.
  Plain mathematics of decimal digits: what is written reads as it was. No conditions.
  Contract of the reference's Format. Conditions: numbers without leading zeros, of at most 400 digits.
  The contracts of the reference's numbers, told by the sizes of their parts. Conditions: numbers of at most 300 digits.
  Contracts of Cmp and Valid, and of the reference of fractions. Conditions: numbers of at most 300 digits together.
  Contracts of size and magnitude (the amount of an integer), and what an integer is as a fraction. Conditions: integers of 64 bits.
-/
import Derived.Laws.BytesArg
import Derived.Test.YtjfehdkfogdpgaaGreatDoorTeB
namespace Go.Proofs.YtjfehdkfogdpgaaGreatDoor
open Go.RowKit
theorem set_listed {listed : Array Bool} {i j : Nat} (hi : i < listed.size) : (listed.setIfInBounds i true).getD j false = true ↔ j = i ∨ listed.getD j false = true := by
  by_cases hji : j = i
  · subst hji
    simp [Array.getD_eq_getD_getElem?, hi]
  · simp only [Array.getD_eq_getD_getElem?, Array.getElem?_setIfInBounds, if_neg (Ne.symm hji), hji, false_or]
section
variable {ops : Array Oper} {Q : Exit → Act → World → Prop}
end
def Fact.Soft (g : Nat) (f : Fact) : Prop := ∀ v w b A n c A' n' c', g ≤ b → w.cell? ⟨b, 0, none⟩ = some (.slice A n c) → f.holds v w → f.holds v (w.setCell ⟨b, 0, none⟩ (.slice A' n' c'))
theorem Num.setCell {w : World} {A : Option Addr} {n c : Nat} {zs : List Nat} (h : Num w A n c zs) {p : Addr} {v u : Value} (hc : w.cell? p = some v) (hv : ∀ n, v ≠ .int .u32 n) : Num (w.setCell p u) A n c zs := ⟨h.rd.setCell hc hv, h.len, h.cap, h.dig, h.small⟩
def Fact.own (g : Nat) (zs : List Nat) : Fact := ⟨fun v w => ∃ A c, v = nt A zs.length c ∧ Num w A zs.length c zs ∧ Fr g w A zs, fun _ _ _ ⟨A, c, h, hn, hf⟩ hb => ⟨A, c, h, hn.below hb, hf.below hb⟩⟩
def Fact.low (g : Nat) (zs : List Nat) : Fact := ⟨fun v w => g ≤ w.heap.size ∧ ∃ b A c, v = .pointer (some ⟨b, 0, none⟩) ∧ b < g ∧ Var w b A zs.length c zs, fun _ _ _ ⟨h0, b, A, c, h, hl, hn⟩ hb => ⟨Nat.le_trans h0 hb.size, b, A, c, h, hl, hn.below hb⟩⟩
structure Made where
  slot : Nat
  store : Nat
  from_ : Nat
section
variable (ops : Array Oper) (F : Nat → Fact) (base : List Nat) (N : Nat) (g : Nat) (P : List Made)
structure MInv (a0 : Act) (w0 : World) (listed : Array Bool) (a : Act) (w : World) : Prop where
  tsize : a.tmps.size = N
  defers : a.defers = a0.defers
  base : ∀ t ∈ base, (F t).holds (a.tmps.getD t undef) w
  done : ∀ (i t : Nat), listed.getD i false = true → (ops[i]?).bind Oper.dst = some t → (F t).holds (a.tmps.getD t undef) w
  other : ∀ (t : Nat), (∀ (i : Nat), (ops[i]?).bind Oper.dst ≠ some t) → a.tmps.getD t undef = a0.tmps.getD t undef
  below : Below g w0 w
  gle : g ≤ w.heap.size
  made : ∀ p ∈ P, ∀ i, listed.getD i false = true → (ops[i]?).bind Oper.dst = some p.slot → ∃ b A n c, a.tmps.getD p.slot undef = .pointer (some ⟨b, 0, none⟩) ∧ g ≤ b ∧ b < w.heap.size ∧ w.frozen? ⟨b, 0, none⟩ = false ∧ w.cell? ⟨b, 0, none⟩ = some (.slice A n c) ∧ (listed.getD p.store false = true → (F p.from_).holds (nt A n c) w)
  closed : ∀ i o, ops[i]? = some o → listed.getD i false = true → ∀ e ∈ o.after, Region.binds .any e = true → listed.getD e.on false = true
  apart : ∀ p ∈ P, ∀ q ∈ P, p.slot ≠ q.slot → ∀ i k, listed.getD i false = true → (ops[i]?).bind Oper.dst = some p.slot → listed.getD k false = true → (ops[k]?).bind Oper.dst = some q.slot → a.tmps.getD p.slot undef ≠ a.tmps.getD q.slot undef
inductive MOb (Q : Exit → Act → World → Prop) (i : Nat) (o : Oper) : Prop
  | plain (h : Ob ops Q F base N o) (hp : (P.all fun p => p.store != i && o.dst != some p.slot) = true) : MOb Q i o
  | alloc (s : Nat) (ho : o.op = .alloc 24) (hd : o.dst = some s) (hg : o.guard = none) (hF : F s = Fact.any) (hp : (P.all fun p => p.store != i) = true) : MOb Q i o
  | store (p : Made) (hm : p ∈ P) (hi : p.store = i) (ho : o.op = .store 24 (.tmp p.slot) (.tmp p.from_)) (hd : o.dst = none) (hg : o.guard = none) (hk : known ops [] o p.slot = true) (hk2 : known ops base o p.from_ = true)
      (hn : ∀ v w, (F p.from_).holds v w → ∃ A n c, v = nt A n c) (hu : (P.all fun q => (q.slot == p.slot && q.store == i && q.from_ == p.from_) || (q.slot != p.slot && q.store != i)) = true) : MOb Q i o
end
section
variable {ops : Array Oper} {Q : Exit → Act → World → Prop} {F : Nat → Fact} {base : List Nat} {N g : Nat} {P : List Made}
theorem MInv.closed' {a0 : Act} {w0 : World} {listed : Array Bool} {a : Act} {w : World} (h : MInv ops F base N g P a0 w0 listed a w) (hs : listed.size = ops.size) {i : Nat} {o : Oper} (ho : ops[i]? = some o)
    (he : ∀ e ∈ o.after, Region.binds .any e = true → listed.getD e.on false = true) : ∀ j o', ops[j]? = some o' → (listed.setIfInBounds i true).getD j false = true → ∀ e ∈ o'.after, Region.binds .any e = true → (listed.setIfInBounds i true).getD e.on false = true := by
  have hlt : i < listed.size := by rw [hs]; exact (Array.getElem?_eq_some_iff.1 ho).1
  intro j o' ho' hl e hm hb
  rw [set_listed hlt] at hl ⊢
  rcases hl with rfl | hl
  · rw [ho] at ho'
    injection ho' with ho'
    subst ho'
    exact .inr (he e hm hb)
  · exact .inr (h.closed j o' ho' hl e hm hb)
theorem known_op {o : Oper} {t : Nat} (hk : known ops [] o t = true) : ∃ e ∈ o.after, Region.binds .any e = true ∧ (ops[e.on]?).bind Oper.dst = some t := by
  unfold known at hk
  simp only [List.contains_nil, Bool.false_or] at hk
  obtain ⟨e, he, h⟩ := Array.any_eq_true'.1 hk
  simp only [Bool.and_eq_true, beq_iff_eq] at h
  exact ⟨e, he, h.1, h.2⟩
theorem MInv.plain (hok : formOk ops base N = true) {a0 : Act} {w0 : World} {listed : Array Bool} {a : Act} {w w' : World} (h : MInv ops F base N g P a0 w0 listed a w) (hs : listed.size = ops.size) {i : Nat} {o : Oper} (ho : ops[i]? = some o)
    (he : ∀ e ∈ o.after, Region.binds .any e = true → listed.getD e.on false = true) {v : Value} (hp : (P.all fun p => p.store != i && o.dst != some p.slot) = true)
    (hb : Below w.heap.size w w') (hF : ∀ t, o.dst = some t → (F t).holds v w') : MInv ops F base N g P a0 w0 (listed.setIfInBounds i true) (a.put o.dst v) w' := by
  obtain ⟨_, hd⟩ := formOk_at hok ho
  have hlt : i < listed.size := by rw [hs]; exact (Array.getElem?_eq_some_iff.1 ho).1
  have hP : ∀ p ∈ P, p.store ≠ i ∧ o.dst ≠ some p.slot := fun p hm => by
    have := List.all_eq_true.1 hp p hm
    simpa using this
  have hnew : ∀ p ∈ P, ∀ j, (listed.setIfInBounds i true).getD j false = true → (ops[j]?).bind Oper.dst = some p.slot → listed.getD j false = true := fun p hm j hj hjd => by
    rcases (set_listed hlt).1 hj with rfl | hj
    · rw [ho] at hjd
      exact absurd hjd (hP p hm).2
    · exact hj
  refine ⟨?_, ?_, fun t ht => ?_, fun j t hj hjt => ?_, fun t ht => ?_, h.below.trans (hb.mono h.gle), Nat.le_trans h.gle hb.size, fun p hm j hj hjd => ?_, h.closed' hs ho he, fun p hm q hq hne j k hj hjd hk hkd => ?_⟩
  · cases o.dst <;> simpa [Act.put] using h.tsize
  · cases o.dst <;> simpa [Act.put] using h.defers
  · rw [getD_put_other (fun e => (hd t e).2.1 ht)]
    exact (F t).stable _ _ _ (h.base t ht) hb
  · by_cases hji : j = i
    · subst hji
      rw [ho] at hjt
      have hjt' : o.dst = some t := hjt
      rw [hjt', getD_put_same (by rw [h.tsize]; exact (hd t hjt').1)]
      exact hF t hjt'
    · have hl : listed.getD j false = true := ((set_listed hlt).1 hj).resolve_left hji
      rw [getD_put_other (fun e => (hd t e).2.2 j hji hjt)]
      exact (F t).stable _ _ _ (h.done j t hl hjt) hb
  · rw [getD_put_other (fun e => ht i (by rw [ho]; exact e))]
    exact h.other t ht
  · obtain ⟨b, A, n, c, h1, h2, h3, h4, h5, h6⟩ := h.made p hm j (hnew p hm j hj hjd) hjd
    refine ⟨b, A, n, c, by rw [getD_put_other (hP p hm).2]; exact h1, h2, Nat.lt_of_lt_of_le h3 hb.size, ((seen hb).2 _ _ h3).trans h4, ((seen hb).1 _ _ h3).trans h5, fun hl => (F _).stable _ _ _ (h6 (((set_listed hlt).1 hl).resolve_left (hP p hm).1)) hb⟩
  · rw [getD_put_other (hP p hm).2, getD_put_other (hP q hq).2]
    exact h.apart p hm q hq hne j k (hnew p hm j hj hjd) hjd (hnew q hq k hk hkd) hkd
theorem MInv.alloc (hok : formOk ops base N = true) (hobs : ∀ j o', ops[j]? = some o' → MOb ops F base N P Q j o') {a0 : Act} {w0 : World} {listed : Array Bool} {a : Act} {w : World} (h : MInv ops F base N g P a0 w0 listed a w) (hs : listed.size = ops.size) {i : Nat} {o : Oper} (ho : ops[i]? = some o)
    (hl0 : listed.getD i false = false) (he : ∀ e ∈ o.after, Region.binds .any e = true → listed.getD e.on false = true) {s : Nat} (hds : o.dst = some s) (hFs : F s = Fact.any) (hp : (P.all fun p => p.store != i) = true) :
    MInv ops F base N g P a0 w0 (listed.setIfInBounds i true) (a.put o.dst (.pointer (some ⟨w.heap.size, 0, none⟩))) (w.alloc (Obj.cells #[Value.slice none 0 0] 24)) := by
  obtain ⟨_, hd⟩ := formOk_at hok ho
  have hlt : i < listed.size := by rw [hs]; exact (Array.getElem?_eq_some_iff.1 ho).1
  have hb := one w (Obj.cells #[Value.slice none 0 0] 24)
  have hPs : ∀ p ∈ P, p.store ≠ i := fun p hm => by
    have := List.all_eq_true.1 hp p hm
    simpa using this
  obtain ⟨hsN, hsb, hsu⟩ := hd s hds
  have hnot : ∀ p ∈ P, p.slot = s → ¬ listed.getD p.store false = true := fun p hm hps hl => by
    have hlt2 : p.store < ops.size := by
      rcases Nat.lt_or_ge p.store listed.size with h1 | h1
      · rw [← hs]; exact h1
      · rw [Array.getD_eq_getD_getElem?, Array.getElem?_eq_none h1] at hl; cases hl
    have ho' : ops[p.store]? = some ops[p.store] := Array.getElem?_eq_getElem hlt2
    cases hobs p.store _ ho' with
    | plain h1 h2 => have := List.all_eq_true.1 h2 p hm; simp at this
    | alloc _ _ _ _ _ h2 => have := List.all_eq_true.1 h2 p hm; simp at this
    | store p' hm' hi' _ _ _ hk _ _ hu =>
      have h3 := List.all_eq_true.1 hu p hm
      simp at h3
      obtain ⟨e, hem, hb', hdst⟩ := known_op hk
      have h4 := h.closed _ _ ho' hl e hem hb'
      have h5 : e.on = i := by
        rcases Nat.lt_or_ge e.on e.on.succ with _ | _
        · by_cases h6 : e.on = i
          · exact h6
          · exfalso
            refine hsu e.on h6 ?_
            rw [hdst]
            congr 1
            rw [← h3.1]; exact hps
        · omega
      rw [h5, hl0] at h4
      cases h4
  have hput : (a.put o.dst (.pointer (some ⟨w.heap.size, 0, none⟩))).tmps.getD s undef = .pointer (some ⟨w.heap.size, 0, none⟩) := by
    rw [hds, getD_put_same (by rw [h.tsize]; exact hsN)]
  have hold : ∀ t, t ≠ s → (a.put o.dst (.pointer (some ⟨w.heap.size, 0, none⟩))).tmps.getD t undef = a.tmps.getD t undef := fun t ht => getD_put_other (by rw [hds]; intro e; injection e with e; exact ht e.symm)
  refine ⟨?_, ?_, fun t ht => ?_, fun j t hj hjt => ?_, fun t ht => ?_, h.below.trans (hb.mono h.gle), Nat.le_trans h.gle hb.size, fun p hm j hj hjd => ?_, h.closed' hs ho he, fun p hm q hq hne j k hj hjd hk hkd => ?_⟩
  · cases o.dst <;> simpa [Act.put] using h.tsize
  · cases o.dst <;> simpa [Act.put] using h.defers
  · rw [hold t (fun e => hsb (e ▸ ht))]
    exact (F t).stable _ _ _ (h.base t ht) hb
  · by_cases hts : t = s
    · subst hts
      rw [hFs]
      trivial
    · rw [hold t hts]
      refine (F t).stable _ _ _ (h.done j t (((set_listed hlt).1 hj).resolve_left ?_) hjt) hb
      rintro rfl
      rw [ho] at hjt
      exact hts (by have h5 : o.dst = some t := hjt; rw [hds] at h5; injection h5 with h5; exact h5.symm)
  · rw [hold t (by rintro rfl; exact ht i (by rw [ho]; exact hds))]
    exact h.other t ht
  · by_cases hps : p.slot = s
    · refine ⟨w.heap.size, none, 0, 0, by rw [hps]; exact hput, h.gle, by simp, new_soft _ _ _ _ rfl, new_cell _ _ _ _ rfl, fun hl => absurd (((set_listed hlt).1 hl).resolve_left (hPs p hm)) (hnot p hm hps)⟩
    · have hj' : listed.getD j false = true := ((set_listed hlt).1 hj).resolve_left (by
        rintro rfl
        rw [ho] at hjd
        have h5 : o.dst = some p.slot := hjd
        rw [hds] at h5; injection h5 with h5; exact hps h5.symm)
      obtain ⟨b, A, n, c, h1, h2, h3, h4, h5, h6⟩ := h.made p hm j hj' hjd
      exact ⟨b, A, n, c, by rw [hold _ hps]; exact h1, h2, Nat.lt_of_lt_of_le h3 hb.size, ((seen hb).2 _ _ h3).trans h4, ((seen hb).1 _ _ h3).trans h5, fun hl => (F _).stable _ _ _ (h6 (((set_listed hlt).1 hl).resolve_left (hPs p hm))) hb⟩
  · have hother : ∀ r ∈ P, r.slot ≠ s → ∀ j, (listed.setIfInBounds i true).getD j false = true → (ops[j]?).bind Oper.dst = some r.slot → listed.getD j false = true := fun r hr hrs j hj hjd => ((set_listed hlt).1 hj).resolve_left (by
        rintro rfl
        rw [ho] at hjd
        have h5 : o.dst = some r.slot := hjd
        rw [hds] at h5; injection h5 with h5; exact hrs h5.symm)
    have hfar : ∀ r ∈ P, r.slot ≠ s → ∀ j, (listed.setIfInBounds i true).getD j false = true → (ops[j]?).bind Oper.dst = some r.slot → a.tmps.getD r.slot undef ≠ .pointer (some ⟨w.heap.size, 0, none⟩) := fun r hr hrs j hj hjd => by
      obtain ⟨b, A, n, c, h1, h2, h3, _⟩ := h.made r hr j (hother r hr hrs j hj hjd) hjd
      rw [h1]
      intro e
      injection e with e
      injection e with e
      injection e with e
      omega
    by_cases hps : p.slot = s
    · have hqs : q.slot ≠ s := fun e => hne (hps.trans e.symm)
      rw [hps, hput, hold _ hqs]
      exact (hfar q hq hqs k hk hkd).symm
    · by_cases hqs : q.slot = s
      · rw [hqs, hput, hold _ hps]
        exact hfar p hm hps j hj hjd
      · rw [hold _ hps, hold _ hqs]
        exact h.apart p hm q hq hne j k (hother p hm hps j hj hjd) hjd (hother q hq hqs k hk hkd) hkd
theorem MInv.store (hsoft : ∀ t, (F t).Soft g) {a0 : Act} {w0 : World} {listed : Array Bool} {a : Act} {w : World} (h : MInv ops F base N g P a0 w0 listed a w) (hs : listed.size = ops.size) {i : Nat} {o : Oper} (ho : ops[i]? = some o)
    (he : ∀ e ∈ o.after, Region.binds .any e = true → listed.getD e.on false = true) {p : Made} (hm : p ∈ P) (hd : o.dst = none) (hu : (P.all fun q => (q.slot == p.slot && q.store == i && q.from_ == p.from_) || (q.slot != p.slot && q.store != i)) = true)
    {j : Nat} (hj : listed.getD j false = true) (hjd : (ops[j]?).bind Oper.dst = some p.slot) {b : Nat} {A A' : Option Addr} {n c n' c' : Nat} (h2 : g ≤ b) (h3 : b < w.heap.size) (hptr : a.tmps.getD p.slot undef = .pointer (some ⟨b, 0, none⟩)) (h5 : w.cell? ⟨b, 0, none⟩ = some (.slice A n c)) (hF : (F p.from_).holds (nt A' n' c') w) :
    MInv ops F base N g P a0 w0 (listed.setIfInBounds i true) a (w.setCell ⟨b, 0, none⟩ (.slice A' n' c')) := by
  have hlt : i < listed.size := by rw [hs]; exact (Array.getElem?_eq_some_iff.1 ho).1
  have hu' : ∀ q ∈ P, (q.slot = p.slot ∧ q.store = i ∧ q.from_ = p.from_) ∨ (q.slot ≠ p.slot ∧ q.store ≠ i) := fun q hq => by
    have := List.all_eq_true.1 hu q hq
    simpa [and_assoc] using this
  have hold : ∀ k d, (listed.setIfInBounds i true).getD k false = true → (ops[k]?).bind Oper.dst = some d → listed.getD k false = true := fun k d hk hkd => ((set_listed hlt).1 hk).resolve_left (by
    rintro rfl
    rw [ho] at hkd
    have h5 : o.dst = some d := hkd
    rw [hd] at h5; cases h5)
  refine ⟨h.tsize, h.defers, fun t ht => hsoft t _ _ _ _ _ _ _ _ _ h2 h5 (h.base t ht), fun k t hk hkt => hsoft t _ _ _ _ _ _ _ _ _ h2 h5 (h.done k t (hold k t hk hkt) hkt), h.other, h.below.setCell h2 _, by simpa using h.gle, fun q hq k hk hkd => ?_, h.closed' hs ho he, fun q hq r hr hne k m hk hkd hm' hmd => h.apart q hq r hr hne k m (hold k _ hk hkd) hkd (hold m _ hm' hmd) hmd⟩
  rcases hu' q hq with ⟨e1, e2, e3⟩ | ⟨e1, e2⟩
  · refine ⟨b, A', n', c', by rw [e1]; exact hptr, h2, by simpa using h3, ?_, ?_, fun _ => by rw [e3]; exact hsoft _ _ _ _ _ _ _ _ _ _ h2 h5 hF⟩
    · rw [World.frozen?_setCell]
      obtain ⟨b', _, _, _, k1, _, _, k4, _⟩ := h.made p hm j hj hjd
      rw [hptr] at k1
      injection k1 with k1; injection k1 with k1; injection k1 with k1
      rw [k1]; exact k4
    · exact World.cell?_setCell_same (u := _) _ _ _ h5
  · obtain ⟨b', A1, n1, c1, k1, k2, k3, k4, k5, k6⟩ := h.made q hq k (hold k _ hk hkd) hkd
    have hne : b' ≠ b := by
      rintro rfl
      exact h.apart q hq p hm e1 k j (hold k _ hk hkd) hkd hj hjd (k1.trans hptr.symm)
    refine ⟨b', A1, n1, c1, k1, k2, by simpa using k3, by rw [World.frozen?_setCell]; exact k4, ?_, fun hl => hsoft _ _ _ _ _ _ _ _ _ _ h2 h5 (k6 (((set_listed hlt).1 hl).resolve_left e2))⟩
    rw [World.cell?_setCell_other _ _ _ _ (by intro e; injection e; omega)]
    exact k5
theorem run_alloc24 {o : Oper} (ho : o.op = .alloc 24) (a : Act) (w : World) : (execOp a.eval o).run Tryz.prog w = .ok (.value (.pointer (some ⟨w.heap.size, 0, none⟩))) (w.alloc (Obj.cells #[Value.slice none 0 0] 24)) := by
  simp [execOp, ho]
  go_simp
theorem run_store24 {o : Oper} {s f : Nat} (ho : o.op = .store 24 (.tmp s) (.tmp f)) (a : Act) (w : World) {b : Nat} {A A' : Option Addr} {n c n' c' : Nat} (h1 : a.tmps.getD s undef = .pointer (some ⟨b, 0, none⟩)) (h2 : a.tmps.getD f undef = nt A' n' c') (h3 : w.cell? ⟨b, 0, none⟩ = some (.slice A n c)) (h4 : w.frozen? ⟨b, 0, none⟩ = false) :
    (execOp a.eval o).run Tryz.prog w = .ok .skip (w.setCell ⟨b, 0, none⟩ (.slice A' n' c')) := by
  have k1 : a.eval (.tmp s) = .pointer (some ⟨b, 0, none⟩) := h1
  have k2 : a.eval (.tmp f) = nt A' n' c' := h2
  simp [execOp, ho, k1, k2]
  go_simp
theorem MInv.step (hok : formOk ops base N = true) (hsoft : ∀ t, (F t).Soft g) (hobs : ∀ j o', ops[j]? = some o' → MOb ops F base N P Q j o') {a0 : Act} {w0 : World} {listed : Array Bool} {a : Act} {w : World} (h : MInv ops F base N g P a0 w0 listed a w) (hs : listed.size = ops.size) {i : Nat} {o : Oper} (ho : ops[i]? = some o)
    (hl0 : listed.getD i false = false) (he : ∀ e ∈ o.after, Region.binds .any e = true → listed.getD e.on false = true) (K : Act → World → Prop) (hK : ∀ a' w', MInv ops F base N g P a0 w0 (listed.setIfInBounds i true) a' w' → K a' w') :
    (if Region.wanted o (yielded ops a.tmps) = true then Oper.wp Tryz.prog o a w K Q else K (a.put o.dst undef) w) := by
  have hdone : ∀ e ∈ o.after, Region.binds .any e = true → ∀ t, (ops[e.on]?).bind Oper.dst = some t → (F t).holds (a.tmps.getD t undef) w := fun e hm hb t ht => h.done e.on t (he e hm hb) ht
  cases hobs i o ho with
  | plain hob hp => exact hob a w K h.tsize h.base hdone fun v w' hb hF => hK _ _ (h.plain hok hs ho he hp hb hF)
  | alloc s hop hd hg hF hp =>
    rw [if_pos (by simp [Region.wanted, hg])]
    unfold Oper.wp
    rw [run_alloc24 hop]
    exact hK _ _ (h.alloc hok hobs hs ho hl0 he hd hF hp)
  | store p hm hi hop hd hg hk hk2 hn hu =>
    rw [if_pos (by simp [Region.wanted, hg])]
    obtain ⟨e, hem, heb, hed⟩ := known_op hk
    obtain ⟨b, A, n, c, h1, h2, h3, h4, h5, _⟩ := h.made p hm e.on (he e hem heb) hed
    have hf := known_fact h.base hdone hk2
    obtain ⟨A', n', c', hv⟩ := hn _ _ hf
    unfold Oper.wp
    rw [run_store24 hop a w h1 hv h5 h4]
    have hput : a.put o.dst undef = a := by rw [hd]; rfl
    show K (a.put o.dst undef) _
    rw [hput]
    exact hK _ _ (h.store hsoft hs ho he hm hd hu (he e hem heb) hed h2 h3 h1 h5 (hv ▸ hf))
end
end Go.Proofs.YtjfehdkfogdpgaaGreatDoor
namespace Go.Proofs.YtjfehdkfogdpgaaGreatDoor
open Go.RowKit
def RGcdRel (b G : Nat) (w : World) (gk : Nat) (wr : World) : Prop :=
  ∃ (A B : Option Addr) (n m c d : Nat) (X Y : List Nat), Var wr b A n c X ∧ Var wr (b + 1) B m d Y ∧ wr.frozen? ⟨b, 0, none⟩ = false ∧ wr.frozen? ⟨b + 1, 0, none⟩ = false ∧ wr.cell? ⟨b + 1 + 1, 0, none⟩ = some (.slice none 0 0) ∧ wr.frozen? ⟨b + 1 + 1, 0, none⟩ = false ∧ b + 1 + 1 < wr.heap.size ∧
    Hid (Nm.nat (Nm.val X) = X) ∧ Hid (Nm.nat (Nm.val Y) = Y) ∧ n ≤ 300 ∧ m ≤ 300 ∧ Hid (Nat.gcd (Nm.val X) (Nm.val Y) = G) ∧ Hid (gk = Nm.val Y) ∧ Below w.heap.size w wr
theorem Var.drew {w : World} {b n c : Nat} {A : Option Addr} {zs : List Nat} (h : Var w b A n c zs) : Var w.drew b A n c zs := ⟨h.lt, h.cell, num_drew h.num⟩
theorem Nm.tlen_of {zs : List Nat} (h : Nm.nat (Nm.val zs) = zs) : Nm.tlen zs = zs.length := by
  have := Nm.tlen_nat (Nm.val zs)
  rwa [h] at this
set_option maxRecDepth 100000 in
set_option maxHeartbeats 2000000 in
theorem refGcd_n {w : World} {A B : Option Addr} {n m c d : Nat} {xs ys : List Nat} (hx : Num w A n c xs) (hy : Num w B m d ys) (hn : n ≤ 300) (hm : m ≤ 300) (hex : Nm.nat (Nm.val xs) = xs) (hey : Nm.nat (Nm.val ys) = ys) (rs : List Nat) (hr : Nm.nat (Nat.gcd (Nm.val xs) (Nm.val ys)) = rs) :
    Calls Tryz.prog 46 #[nt A n c, nt B m d] w fun e w' => ∃ A' c', e = .returned (nt A' rs.length c') ∧ Num w' A' rs.length c' rs ∧ Below w.heap.size w w' := by
  subst hr
  obtain ⟨G, hG⟩ : ∃ G, Nat.gcd (Nm.val xs) (Nm.val ys) = G := ⟨_, rfl⟩
  rw [hG]
  obtain ⟨V0, hV0⟩ : ∃ V0, Nm.val ys = V0 := ⟨_, rfl⟩
  have hb := three w (Obj.cells #[Value.slice A n c] 24) (Obj.cells #[Value.slice B m d] 24) (Obj.cells #[Value.slice none 0 0] 24)
  have hfirst : RGcdRel w.heap.size G w V0 (((w.alloc (Obj.cells #[Value.slice A n c] 24)).alloc (Obj.cells #[Value.slice B m d] 24)).alloc (Obj.cells #[Value.slice none 0 0] 24)) := by
    refine ⟨A, B, n, m, c, d, xs, ys, (Var.new hx).below (two _ _ _), (Var.at_ (hy.below (one _ _)) (by simp)).below (one _ _), ?_, ?_, new_cell _ _ _ _ (by simp), new_soft _ _ _ _ (by simp), by simp, hex, hey, hn, hm, hG, hV0.symm, hb⟩
    · exact ((seen (two (w.alloc (Obj.cells #[Value.slice A n c] 24)) _ _)).2 _ _ (by simp)).trans (new_soft _ _ _ _ rfl)
    · exact ((seen (one ((w.alloc (Obj.cells #[Value.slice A n c] 24)).alloc (Obj.cells #[Value.slice B m d] 24)) _)).2 _ _ (by simp)).trans (new_soft _ _ _ _ (by simp))
  have Hfirst := Lib.hid hfirst
  clear hfirst hb hV0 hG hex hey hx hy
  go_enter Tryz.func46, Tryz.ntmps46
  go_wp2_with fail
  go_loopg [7] V0 (fun gk _ wr => RGcdRel w.heap.size G w gk wr)
  case atStart => exact Hfirst.out
  case round =>
    obtain ⟨A1, B1, n1, m1, c1, d1, X, Y, vx, vy, fx, fy, cz, fz, hz, hex, hey, hn1, hm1, hg, hgk, hb⟩ := hrel
    obtain rfl := vx.num.len
    obtain rfl := vy.num.len
    have kx := vx.cell
    have ky := vy.cell
    rcases Nat.eq_zero_or_pos Y.length with h0 | h0
    · have hfin : Nm.nat G = X := by
        have h1 := hg.out
        rw [List.eq_nil_of_length_eq_zero h0] at h1
        have h2 : Nat.gcd (Nm.val X) 0 = G := h1
        rw [Nat.gcd_zero_right] at h2
        rw [← h2, hex.out]
      have Hf := Lib.hid hfin
      have hy0 : ¬ (0 : Int) < (Y.length : Int) := by omega
      clear hfin
      go_wp2_with fail
      refine bodyPost_ret (v := nt A1 X.length c1) (by simp [results, Tryz.results46, go_sem, cz]) rfl ⟨A1, c1, by rw [Hf.out], ?_, hb.setCell (by show w.heap.size ≤ w.heap.size + 1 + 1; omega) _⟩
      rw [Hf.out]
      exact ⟨vx.num.rd.setCell cz (by simp), rfl, vx.num.cap, vx.num.dig, vx.num.small⟩
    · have hY0 : (0 : Int) < (Y.length : Int) := by omega
      have hcall := fun V (h1 : Num V A1 X.length c1 X) (h2 : Num V B1 Y.length d1 Y) => refDivMod_n h1 h2 hn1 hm1 (Nm.tlen_of hex.out) (Nm.tlen_of hey.out) h0 (Nm.nat (Nm.val X / Nm.val Y)) (Nm.nat (Nm.val X % Nm.val Y)) rfl rfl
      have Hcall := Lib.hid hcall
      clear hcall
      go_wp2_with fail
      refine (Hcall.out _ vx.num vy.num).mono ?_
      rintro e w2 ⟨A2, c2, A3, c3, rfl, n2, n3, hs⟩
      have h2 := two w2 (Obj.cells #[Value.slice A2 (Nm.nat (Nm.val X / Nm.val Y)).length c2] 24) (Obj.cells #[Value.slice A3 (Nm.nat (Nm.val X % Nm.val Y)).length c3] 24)
      have fx := ((seen hs).2 _ 0 vx.lt).trans fx
      have fy := ((seen hs).2 _ 0 vy.lt).trans fy
      have cz := ((seen hs).1 _ 0 hz).trans cz
      have fz := ((seen hs).2 _ 0 hz).trans fz
      have vx := vx.below hs
      have vy := vy.below hs
      have hz : w.heap.size + 1 + 1 < w2.heap.size := by have := hs.size; omega
      have kx := vx.cell
      have ky := vy.cell
      have hlt1 := vx.lt
      have hlt2 := vy.lt
      clear h2 n2
      go_wp2_with fail
      go_region
      have hK := ‹∀ (a' : Act) (w' : World), Handed _ gk a' w' → _›
      refine hK _ _ ?_
      clear hK
      go_roundg (Nm.val X % Nm.val Y)
      case measure =>
        have := hgk.out
        have h1 := Nm.tlen_pos_val (zs := Y) (by rw [Nm.tlen_of hey.out]; exact h0)
        have h3 : 0 < 4294967296 ^ (Nm.tlen Y - 1) := Nat.pow_pos (by decide)
        have := Nat.mod_lt (Nm.val X) (show 0 < Nm.val Y by omega)
        omega
      case rel =>
        have m3 : Num (w2.setCell ⟨w.heap.size, 0, none⟩ (.slice B1 Y.length d1)) A3 (Nm.nat (Nm.val X % Nm.val Y)).length c3 (Nm.nat (Nm.val X % Nm.val Y)) := ⟨n3.rd.setCell kx (by simp), rfl, n3.cap, n3.dig, n3.small⟩
        have ux := (vx.put vy.num).other (b' := w.heap.size + 1) (u := .slice B1 Y.length d1) (v := .slice A3 (Nm.nat (Nm.val X % Nm.val Y)).length c3) (by rw [World.cell?_setCell_other _ _ _ _ (by intro e; injection e; omega)]; exact ky) (by simp) (by omega)
        have uy := (vy.other (b' := w.heap.size) (v := .slice B1 Y.length d1) kx (by simp) (by omega)).put m3
        have h3 := two ((w2.setCell ⟨w.heap.size, 0, none⟩ (.slice B1 Y.length d1)).setCell ⟨w.heap.size + 1, 0, none⟩ (.slice A3 (Nm.nat (Nm.val X % Nm.val Y)).length c3)) (Obj.cells #[Value.slice A2 (Nm.nat (Nm.val X / Nm.val Y)).length c2] 24) (Obj.cells #[Value.slice A3 (Nm.nat (Nm.val X % Nm.val Y)).length c3] 24)
        have hsz3 := h3.size
        refine ⟨B1, A3, Y.length, _, d1, c3, Y, Nm.nat (Nm.val X % Nm.val Y), (ux.below h3).drew, (uy.below h3).drew, ?_, ?_, ?_, ?_, ?_, hey, ?_, hm1, ?_, ?_, ?_, ?_⟩
        · exact ((seen h3).2 _ 0 ux.lt).trans (by rw [World.frozen?_setCell, World.frozen?_setCell]; exact fx)
        · exact ((seen h3).2 _ 0 uy.lt).trans (by rw [World.frozen?_setCell, World.frozen?_setCell]; exact fy)
        · exact ((seen h3).1 _ 0 (by simpa using hz)).trans (by rw [World.cell?_setCell_other _ _ _ _ (by intro e; injection e; omega), World.cell?_setCell_other _ _ _ _ (by intro e; injection e; omega)]; exact cz)
        · exact ((seen h3).2 _ 0 (by simpa using hz)).trans (by rw [World.frozen?_setCell, World.frozen?_setCell]; exact fz)
        · show w.heap.size + 1 + 1 < _
          simp
          omega
        · show _ = _
          rw [Nm.val_nat]
        · exact Nat.le_trans (Nm.nat_len_le' vx.num.dig (Nat.mod_le _ _)) hn1
        · show _ = _
          rw [Nm.val_nat, ← hg.out, Nat.gcd_comm (Nm.val X), Nat.gcd_rec (Nm.val Y) (Nm.val X), Nat.gcd_comm]
        · show _ = _
          rw [Nm.val_nat]
        · exact (((((up hb hs).setCell (Nat.le_refl _) _).setCell (by show w.heap.size ≤ w.heap.size + 1; omega) _).trans (h3.mono (by have := hb.size; have := hs.size; simp; omega)))).drew
end Go.Proofs.YtjfehdkfogdpgaaGreatDoor
namespace Go.Proofs.YtjfehdkfogdpgaaGreatDoor
open Go.RowKit
theorem Nm.Sz.gcd {k a b : Nat} (h : Nm.Sz k a) (h' : Nm.Sz k b) : Nm.Sz k (Nat.gcd a b) := by
  rcases Nat.eq_zero_or_pos a with h0 | h0
  · subst h0
    rw [Nat.gcd_zero_left]; exact h'
  · exact h.mono (Nat.gcd_le_left _ h0)
theorem c_refGcd (xs ys rs : List Nat) (hex : Nm.nat (Nm.val xs) = xs) (hey : Nm.nat (Nm.val ys) = ys) (hn : xs.length ≤ 300) (hm : ys.length ≤ 300) (hr : Nm.nat (Nat.gcd (Nm.val xs) (Nm.val ys)) = rs) : ∀ v u w, (Fact.num xs).holds v w → (Fact.num ys).holds u w → Calls Tryz.prog 46 #[v, u] w (Ret (Fact.num rs) w) := by
  rintro v u w ⟨A, c, rfl, h⟩ ⟨B, d, rfl, k⟩
  exact (refGcd_n h k hn hm hex hey rs hr).mono fun e w' ⟨A', c', he, hn, hb⟩ => ⟨_, he, hb, A', c', rfl, hn⟩
theorem go_not (b : Bool) (a : Act) (w : World) (t : Nat) (o : Oper) (ho : o.op = .unOp .not 4 (.tmp t)) (h1 : a.eval (.tmp t) = .bool b) : (execOp a.eval o).run Tryz.prog w = .ok (.value (.bool (!b))) w := by
  simp [execOp, ho, h1]
  go_simp
section
variable {ops : Array Oper} {Q : Exit → Act → World → Prop} {F : Nat → Fact} {base : List Nat} {N : Nat} {o : Oper}
end
end Go.Proofs.YtjfehdkfogdpgaaGreatDoor
namespace Go.Proofs.YtjfehdkfogdpgaaGreatDoor
open Go.RowKit
section
variable (ops : Array Oper) (val : Nat → Value) (base : List Nat) (N : Nat) (J : World → Prop)
structure KInv (a0 : Act) (listed : Array Bool) (a : Act) (w : World) : Prop where
  tsize : a.tmps.size = N
  defers : a.defers = a0.defers
  base : ∀ t ∈ base, a.tmps.getD t undef = val t
  done : ∀ (i t : Nat), listed.getD i false = true → (ops[i]?).bind Oper.dst = some t → a.tmps.getD t undef = val t
  other : ∀ (t : Nat), (∀ (i : Nat), (ops[i]?).bind Oper.dst ≠ some t) → a.tmps.getD t undef = a0.tmps.getD t undef
  keeps : J w
def KOb (o : Oper) : Prop := o.guard = none ∧ ∀ (a : Act) (w : World), J w → (∀ t, known ops base o t = true → a.tmps.getD t undef = val t) →
  (∃ d w', o.dst = some d ∧ (execOp a.eval o).run Tryz.prog w = .ok (.value (val d)) w' ∧ J w') ∨ (∃ w', o.dst = none ∧ (execOp a.eval o).run Tryz.prog w = .ok .skip w' ∧ J w')
end
theorem KInv.step {ops : Array Oper} {val : Nat → Value} {base : List Nat} {N : Nat} {J : World → Prop} {Q : Exit → Act → World → Prop} (hok : formOk ops base N = true) {a0 : Act} {listed : Array Bool} {a : Act} {w : World} (h : KInv ops val base N J a0 listed a w) (hs : listed.size = ops.size) {i : Nat} {o : Oper} (ho : ops[i]? = some o)
    (hob : KOb ops val base J o) (he : ∀ e ∈ o.after, Region.binds .any e = true → listed.getD e.on false = true) (K : Act → World → Prop) (hK : ∀ a' w', KInv ops val base N J a0 (listed.setIfInBounds i true) a' w' → K a' w') :
    (if Region.wanted o (yielded ops a.tmps) = true then Oper.wp Tryz.prog o a w K Q else K (a.put o.dst undef) w) := by
  obtain ⟨hg, hrun⟩ := hob
  obtain ⟨_, hd⟩ := formOk_at hok ho
  have hlt : i < listed.size := by rw [hs]; exact (Array.getElem?_eq_some_iff.1 ho).1
  rw [if_pos (by simp [Region.wanted, hg])]
  have hk : ∀ t, known ops base o t = true → a.tmps.getD t undef = val t := fun t hkt => by
    unfold known at hkt
    rw [Bool.or_eq_true] at hkt
    rcases hkt with hkt | hkt
    · exact h.base t (List.contains_iff_mem.1 hkt)
    · obtain ⟨e, hem, h1⟩ := Array.any_eq_true'.1 hkt
      simp only [Bool.and_eq_true, beq_iff_eq] at h1
      exact h.done e.on t (he e hem h1.1) h1.2
  rcases hrun a w h.keeps hk with ⟨d, w', hdd, hr, hJ⟩ | ⟨w', hdd, hr, hJ⟩
  · unfold Oper.wp
    rw [hr]
    refine hK (a.put o.dst (val d)) w' ⟨?_, ?_, fun t ht => ?_, fun j t hj hjt => ?_, fun t ht => ?_, hJ⟩
    · cases o.dst <;> simpa [Act.put] using h.tsize
    · cases o.dst <;> simpa [Act.put] using h.defers
    · rw [getD_put_other (fun e => (hd t e).2.1 ht)]
      exact h.base t ht
    · by_cases hji : j = i
      · subst hji
        rw [ho] at hjt
        have hjt' : o.dst = some t := hjt
        have hdt : d = t := by rw [hdd] at hjt'; injection hjt'
        subst hdt
        rw [hjt', getD_put_same (by rw [h.tsize]; exact (hd d hjt').1)]
      · rw [getD_put_other (fun e => (hd t e).2.2 j hji hjt)]
        exact h.done j t (((set_listed hlt).1 hj).resolve_left hji) hjt
    · rw [getD_put_other (fun e => ht i (by rw [ho]; exact e))]
      exact h.other t ht
  · have hput : a.put o.dst undef = a := by rw [hdd]; rfl
    unfold Oper.wp
    rw [hr]
    show K (a.put o.dst undef) _
    rw [hput]
    refine hK a w' ⟨h.tsize, h.defers, h.base, fun j t hj hjt => ?_, h.other, hJ⟩
    refine h.done j t (((set_listed hlt).1 hj).resolve_left ?_) hjt
    rintro rfl
    rw [ho] at hjt
    have h5 : o.dst = some t := hjt
    rw [hdd] at h5
    cases h5
def Ints (G : Nat) (w : World) (A : Option Addr) (n : Nat) : Prop := ∃ zs : List Nat, zs.length = n ∧ Fr G w A zs
theorem Ints.set {G : Nat} {w : World} {A : Option Addr} {n : Nat} (h : Ints G w A n) {p : Addr} {z : Int} (x : Nat) (hc : w.cell? p = some (.int .u32 z)) : Ints G (w.setCell p (.int .u32 (x : Int))) A n := by
  obtain ⟨zs, rfl, hf⟩ := h
  rcases hf with rfl | ⟨g, off, hA, hg, ho⟩
  · exact ⟨[], rfl, .inl rfl⟩
  · refine ⟨(List.range zs.length).map fun i => if p = ⟨g, off + i, none⟩ then x else zs.getD i 0, by simp, .inr ⟨g, off, hA, hg, fun i hi => ?_, fun i hi => by rw [World.frozen?_setCell]; exact ho.2 i (by simpa using hi)⟩⟩
    have hi' : i < zs.length := by simpa using hi
    by_cases hp : p = ⟨g, off + i, none⟩
    · subst hp
      rw [World.cell?_setCell_same (u := _) _ _ _ hc]
      simp
    · rw [World.cell?_setCell_other _ _ _ _ (by first | exact fun e => hp e.symm | exact hp), ho.1 i hi']
      simp [hp, hi']
structure Vc (w : World) (b : Nat) (A : Option Addr) (n c : Nat) : Prop where
  lt : b < w.heap.size
  cell : w.cell? ⟨b, 0, none⟩ = some (.slice A n c)
theorem Vc.set {w : World} {b n c : Nat} {A : Option Addr} (h : Vc w b A n c) {p : Addr} {z : Int} {u : Value} (hc : w.cell? p = some (.int .u32 z)) : Vc (w.setCell p u) b A n c := by
  refine ⟨by simpa using h.lt, ?_⟩
  rw [World.cell?_setCell_other]
  · exact h.cell
  · rintro rfl
    rw [h.cell] at hc
    cases hc
structure Ent where
  b : Nat
  A : Option Addr
  c : Nat
def KJ (G n : Nat) (wv : World) (es : List Ent) (w : World) : Prop := Below G wv w ∧ ∀ e ∈ es, Vc w e.b e.A n e.c ∧ Ints G w e.A n
theorem KJ.drew {G n : Nat} {wv w : World} {es : List Ent} (h : KJ G n wv es w) : KJ G n wv es w.drew := ⟨h.1.drew, fun e he => ⟨⟨(h.2 e he).1.lt, (h.2 e he).1.cell⟩, (h.2 e he).2⟩⟩
theorem KJ.set {G n : Nat} {wv w : World} {es : List Ent} (h : KJ G n wv es w) {g o : Nat} {z : Int} (x : Nat) (hg : G ≤ g) (hc : w.cell? ⟨g, o, none⟩ = some (.int .u32 z)) : KJ G n wv es (w.setCell ⟨g, o, none⟩ (.int .u32 (x : Int))) :=
  ⟨h.1.setCell hg _, fun e he => ⟨(h.2 e he).1.set hc, (h.2 e he).2.set x hc⟩⟩
section
variable {ops : Array Oper} {val : Nat → Value} {base : List Nat} {G n : Nat} {wv : World} {es : List Ent} {o : Oper}
end
end Go.Proofs.YtjfehdkfogdpgaaGreatDoor
namespace Go.Proofs.YtjfehdkfogdpgaaGreatDoor
open Go.RowKit
theorem num_nil (w : World) : Num w none 0 0 [] := ⟨.inl rfl, rfl, Nat.le_refl _, Nm.Dig.nil, by decide⟩
section
variable {ops : Array Oper} {Q : Exit → Act → World → Prop} {F : Nat → Fact} {base : List Nat} {N : Nat} {o : Oper}
end
end Go.Proofs.YtjfehdkfogdpgaaGreatDoor
namespace Go.Proofs.YtjfehdkfogdpgaaGreatDoor
open Go.RowKit
theorem info26 : (Tryz.prog.info? 26).map (·.size) = some 3 := by kernel_rfl
theorem info24 : (Tryz.prog.info? 24).map (·.size) = some 1 := by kernel_rfl
theorem row26 : ∃ dd, Tryz.prog.underlying 26 = some dd ∧ dd.isRow = true := ⟨_, Tryz.underlying26, rfl⟩
theorem row24 : ∃ dd, Tryz.prog.underlying 24 = some dd ∧ dd.isRow = true := ⟨_, Tryz.underlying24, rfl⟩
theorem field26_0 (w : World) (b o : Nat) : (Instr.fieldAt 26 (.pointer (some ⟨b, o, none⟩)) 0).run Tryz.prog w = .ok (.pointer (some ⟨b, o + 0, none⟩)) w := by go_simp
theorem field26_1 (w : World) (b o : Nat) : (Instr.fieldAt 26 (.pointer (some ⟨b, o, none⟩)) 1).run Tryz.prog w = .ok (.pointer (some ⟨b, o + 1, none⟩)) w := by go_simp
theorem field26_2 (w : World) (b o : Nat) : (Instr.fieldAt 26 (.pointer (some ⟨b, o, none⟩)) 2).run Tryz.prog w = .ok (.pointer (some ⟨b, o + 2, none⟩)) w := by go_simp
theorem load4 (u : Bool) (w : World) (b o : Nat) (h : w.cell? ⟨b, o, none⟩ = some (.bool u)) : (Instr.loadAt 4 (.pointer (some ⟨b, o, none⟩))).run Tryz.prog w = .ok (.bool u) w := by go_simp
theorem alloc26 (w : World) : (Instr.alloc 26 true (.tuple #[])).run Tryz.prog w = .ok (.pointer (some ⟨w.heap.size, 0, none⟩)) (w.alloc (Obj.cells #[.bool false, .slice none 0 0, .slice none 0 0] 26)) := by go_simp
theorem alloc24 (w : World) : (Instr.alloc 24 true (.tuple #[])).run Tryz.prog w = .ok (.pointer (some ⟨w.heap.size, 0, none⟩)) (w.alloc (Obj.cells #[.slice none 0 0] 24)) := by go_simp
theorem build26 (w : World) (s : Bool) (A B : Option Addr) (n m c d : Nat) : (Instr.build 26 #[(0, .bool s), (1, nt A n c), (2, nt B m d)]).run Tryz.prog w = .ok (.agg #[.bool s, .slice A n c, .slice B m d]) w := by go_simp
theorem build26_zero (w : World) : (Instr.build 26 #[]).run Tryz.prog w = .ok (.agg #[.bool false, .slice none 0 0, .slice none 0 0]) w := by go_simp
theorem build48 (w : World) (s z : Bool) : (Instr.build 48 #[(0, .bool s), (1, .bool z)]).run Tryz.prog w = .ok (.agg #[.bool s, .bool z]) w := by go_simp
theorem buildNats2 (w : World) (A B : Option Addr) (n m c d : Nat) : (Instr.buildSlice 77 2 #[(0, nt A n c), (1, nt B m d)]).run Tryz.prog w = .ok (.slice (some ⟨w.heap.size, 0, none⟩) 2 2) (w.alloc (Obj.cells #[.slice A n c, .slice B m d] 24)) := by go_simp
theorem nn_val (n : Nat) : Nm.val (Nm.nat n) = n := Nm.val_nat n
theorem Fact.ret_nn {k n : Nat} {w w' : World} {e : Ending} (h : Ret (Fact.num (Nm.nat n)) w e w') (hz : Nm.Sz k n) : Ret (Fact.nn k n) w e w' := by
  obtain ⟨u, he, hb, hr⟩ := h
  exact ⟨u, he, hb, Fact.num_nn hr hz⟩
theorem n_mul (k l p q : Nat) (h : k + l ≤ 400) : ∀ v u w, (Fact.nn k p).holds v w → (Fact.nn l q).holds u w → Calls Tryz.prog 74 #[v, u] w (Ret (Fact.nn (k + l) (p * q)) w) := by
  intro v u w hv hu
  obtain ⟨hv, zv⟩ := Fact.nn_num hv
  obtain ⟨hu, zu⟩ := Fact.nn_num hu
  exact (c_mul _ _ (Nm.nat (p * q)) (by rw [nn_val, nn_val]) ((zv.mul zu).len h) v u w hv hu).mono fun _ _ h => Fact.ret_nn h (zv.mul zu)
theorem n_addr (k l r p q : Nat) (hk : k ≤ r) (hl : l ≤ r) (h : r + 1 ≤ 400) : ∀ v u w, (Fact.nn k p).holds v w → (Fact.nn l q).holds u w → Calls Tryz.prog 41 #[v, u] w (Ret (Fact.nn (r + 1) (p + q)) w) := by
  intro v u w hv hu
  obtain ⟨hv, zv⟩ := Fact.nn_num hv
  obtain ⟨hu, zu⟩ := Fact.nn_num hu
  have z : Nm.Sz (r + 1) (p + q) := (zv.up hk).add (zu.up hl) (Nat.le_refl _)
  exact (c_add _ _ (Nm.nat (p + q)) (by rw [nn_val, nn_val]) (z.len (by omega)) v u w hv hu).mono fun _ _ h => Fact.ret_nn h z
theorem n_sub (k l p q : Nat) (h : k ≤ 400) : ∀ v u w, (Fact.nn k p).holds v w → (Fact.nn l q).holds u w → Calls Tryz.prog 42 #[v, u] w (Ret (Fact.two (Fact.nn k (p - q)) (Fact.eq (.bool (decide (q ≤ p))))) w) := by
  intro v u w hv hu
  obtain ⟨⟨A, c, rfl, hx⟩, zv⟩ := Fact.nn_num hv
  obtain ⟨⟨B, d, rfl, hy⟩, zu⟩ := Fact.nn_num hu
  have z : Nm.Sz k (p - q) := zv.mono (Nat.sub_le _ _)
  refine (sub_n hx hy (Nm.nat (p - q)) (decide (q ≤ p)) (by rw [nn_val, nn_val]) (by rw [nn_val, nn_val])).mono fun e w' ⟨A', c', he, hc, hf, hb⟩ => ⟨_, he, hb, _, _, rfl, ?_, rfl⟩
  exact Fact.num_nn (num_of_fr hf hc (Nm.dig_nat _) (z.len h)) z
theorem gcd_sz_right {l p q : Nat} (hq : Nm.Sz l q) (h0 : q ≠ 0) : Nm.Sz l (Nat.gcd p q) := hq.mono (Nat.gcd_le_right _ (by omega))
theorem tlen_sz {k n : Nat} (h : Nm.Sz k n) (hk : k ≤ 400) : Nm.tlen (Nm.nat n) ≤ 400 := by
  rw [Nm.tlen_nat]; exact h.len hk
theorem n_gcd (k l p q : Nat) (h0 : q ≠ 0) (h : l ≤ 400) : ∀ v u w, (Fact.nn k p).holds v w → (Fact.nn l q).holds u w → Calls Tryz.prog 75 #[v, u] w (Ret (Fact.nn l (Nat.gcd p q)) w) := by
  intro v u w hv hu
  obtain ⟨hv, zv⟩ := Fact.nn_num hv
  obtain ⟨hu, zu⟩ := Fact.nn_num hu
  have z := gcd_sz_right (p := p) zu h0
  exact (c_gcd 900 divOk_all _ _ (Nm.nat (Nat.gcd p q)) (by have := tlen_sz zu h; omega) (by rw [nn_val, nn_val]) (z.len h) v u w hv hu).mono fun _ _ h => Fact.ret_nn h z
theorem tlen_pos {n : Nat} (h : n ≠ 0) : 0 < Nm.tlen (Nm.nat n) := by
  rw [Nm.tlen_nat]
  rcases Nat.eq_zero_or_pos (Nm.nat n).length with h1 | h1
  · exact absurd ((Nm.nat_nil_iff n).1 (List.eq_nil_of_length_eq_zero h1)) h
  · exact h1
theorem n_divMod (k l p q : Nat) (h0 : q ≠ 0) (hk : k ≤ 400) (h : l ≤ 400) : ∀ v u w, (Fact.nn k p).holds v w → (Fact.nn l q).holds u w → Calls Tryz.prog 60 #[v, u] w (Ret (Fact.three (Fact.nn k (p / q)) (Fact.nn l (p % q)) (fI 0)) w) := by
  intro v u w hv hu
  obtain ⟨⟨A, c, rfl, hx⟩, zv⟩ := Fact.nn_num hv
  obtain ⟨⟨B, d, rfl, hy⟩, zu⟩ := Fact.nn_num hu
  have z1 : Nm.Sz k (p / q) := zv.mono (Nat.div_le_self _ _)
  have z2 : Nm.Sz l (p % q) := zu.mono (Nat.le_of_lt (Nat.mod_lt _ (by omega)))
  refine (divMod_n 900 divOk_all hx hy (tlen_pos h0) (by have := tlen_sz zu h; omega) (Nm.nat (p / q)) (Nm.nat (p % q)) (by rw [nn_val, nn_val]) (by rw [nn_val, nn_val])).mono fun e w' ⟨A1, c1, A2, c2, he, hc1, hc2, hf1, hf2, hb⟩ => ⟨_, he, hb, _, _, _, rfl, ?_, ?_, rfl⟩
  · exact Fact.num_nn (num_of_fr hf1 hc1 (Nm.dig_nat _) (z1.len hk)) z1
  · exact Fact.num_nn (num_of_fr hf2 hc2 (Nm.dig_nat _) (z2.len h)) z2
theorem n_bits (k p : Nat) (z : Int) (hz : (Nm.blen p : Int) = z) : ∀ v w, (Fact.nn k p).holds v w → Calls Tryz.prog 81 #[v] w (Ret (fI z) w) := by
  intro v w hv
  exact c_bits _ _ z (by rw [nn_val]) hz v w (Fact.nn_num hv).1
theorem of_sz {n : Nat} (h : n < 18446744073709551616) : Nm.Sz 2 n := by unfold Nm.Sz; omega
theorem n_of (k n : Nat) (h : n < 18446744073709551616) (hz : Nm.Sz k n) (hk : k ≤ 400) : ∀ w, Calls Tryz.prog 61 #[.int .u64 n] w (Ret (Fact.nn k n) w) := fun _ =>
  (of_n n (Nm.nat n) h rfl).mono fun _ _ ⟨_, _, he, hc, hf, hb⟩ => ⟨_, he, hb, Fact.num_nn (num_of_fr hf hc (Nm.dig_nat _) (hz.len hk)) hz⟩
end Go.Proofs.YtjfehdkfogdpgaaGreatDoor
namespace Go.Proofs.YtjfehdkfogdpgaaGreatDoor
open Go.RowKit
def Con.sgn (s z : Bool) : Con := (Con.bool s).app (Con.bool z)
theorem info48 : (Tryz.prog.info? 48).map (·.size) = some 2 := by kernel_rfl
theorem row48 : ∃ dd, Tryz.prog.underlying 48 = some dd ∧ dd.isRow = true := ⟨_, Tryz.underlying48, rfl⟩
theorem alloc48 (w : World) : (Instr.alloc 48 true (.tuple #[])).run Tryz.prog w = .ok (.pointer (some ⟨w.heap.size, 0, none⟩)) (w.alloc (Obj.cells #[.bool false, .bool false] 48)) := by go_simp
theorem field24_0 (w : World) (b o : Nat) : (Instr.fieldAt 24 (.pointer (some ⟨b, o, none⟩)) 0).run Tryz.prog w = .ok (.pointer (some ⟨b, o + 0, none⟩)) w := by go_simp
section
variable {ops : Array Oper} {Q : Exit → Act → World → Prop} {F : Nat → Fact} {base : List Nat} {N : Nat} {o : Oper}
theorem ob_readb (t d : Nat) (e b : Bool) (heb : e = b) (ho : o.op = .load 4 (.tmp t)) (hd : o.dst = some d) (hg : GuardOk ops F base N o) (hk : known ops base o t = true) (hv : Points (F t) (Con.bool e)) (hF : F d = Fact.eq (.bool b)) : Ob ops Q F base N o := by
  subst heb
  exact ob_read1 4 t d (.bool e) ⟨rfl, rfl⟩ ho hd hg hk hv hF (load4 e)
theorem ob_eqc (t d : Nat) (k : IntKind) (ty ty' : TypeId) (z n : Int) (b : Bool) (hb : (z == n) = b) (ho : o.op = .binOp .eql ty (.tmp t) (.const (.int k n)) ty') (hd : o.dst = some d) (hg : GuardOk ops F base N o) (hk : known ops base o t = true) (hv : F t = Fact.eq (.int k z)) (hF : F d = Fact.eq (.bool b)) : Ob ops Q F base N o :=
  ob_one t d _ _ hd hg hk hv hF fun a w h1 => by
    have h3 : a.eval (.const (.int k n)) = .int k n := rfl
    subst hb
    simp [execOp, ho, h1, h3, eqGuard_at_int, binOp_eql]
theorem go_lss (k : IntKind) (b c : Int) (a : Act) (w : World) (x : Operand) (ty ty' : TypeId) (o : Oper) (t : Nat) (ho : o.op = .binOp .lss ty (.tmp t) x ty') (h1 : a.eval (.tmp t) = .int k b) (h2 : a.eval x = .int k c) :
    (execOp a.eval o).run Tryz.prog w = .ok (.value (.bool (decide (b < c)))) w := by
  simp [execOp, ho, h1, h2]
  go_simp
theorem ob_ltc (t d : Nat) (k : IntKind) (ty ty' : TypeId) (z n : Int) (b : Bool) (hb : decide (z < n) = b) (ho : o.op = .binOp .lss ty (.tmp t) (.const (.int k n)) ty') (hd : o.dst = some d) (hg : GuardOk ops F base N o) (hk : known ops base o t = true) (hv : F t = Fact.eq (.int k z)) (hF : F d = Fact.eq (.bool b)) : Ob ops Q F base N o :=
  ob_one t d _ _ hd hg hk hv hF fun a w h1 => by
    subst hb
    exact go_lss k z n a w _ ty ty' o t ho h1 rfl
theorem go_leq (k : IntKind) (b c : Int) (a : Act) (w : World) (x : Operand) (ty ty' : TypeId) (o : Oper) (t : Nat) (ho : o.op = .binOp .leq ty (.tmp t) x ty') (h1 : a.eval (.tmp t) = .int k b) (h2 : a.eval x = .int k c) :
    (execOp a.eval o).run Tryz.prog w = .ok (.value (.bool (decide (b ≤ c)))) w := by
  simp [execOp, ho, h1, h2]
  go_simp
theorem ob_lec (t d : Nat) (k : IntKind) (ty ty' : TypeId) (z n : Int) (b : Bool) (hb : decide (z ≤ n) = b) (ho : o.op = .binOp .leq ty (.tmp t) (.const (.int k n)) ty') (hd : o.dst = some d) (hg : GuardOk ops F base N o) (hk : known ops base o t = true) (hv : F t = Fact.eq (.int k z)) (hF : F d = Fact.eq (.bool b)) : Ob ops Q F base N o :=
  ob_one t d _ _ hd hg hk hv hF fun a w h1 => by
    subst hb
    exact go_leq k z n a w _ ty ty' o t ho h1 rfl
theorem go_gtr (k : IntKind) (b c : Int) (a : Act) (w : World) (x : Operand) (ty ty' : TypeId) (o : Oper) (t : Nat) (ho : o.op = .binOp .gtr ty (.tmp t) x ty') (h1 : a.eval (.tmp t) = .int k b) (h2 : a.eval x = .int k c) :
    (execOp a.eval o).run Tryz.prog w = .ok (.value (.bool (decide (b > c)))) w := by
  simp [execOp, ho, h1, h2]
  go_simp
theorem ob_gtc (t d : Nat) (k : IntKind) (ty ty' : TypeId) (z n : Int) (b : Bool) (hb : decide (z > n) = b) (ho : o.op = .binOp .gtr ty (.tmp t) (.const (.int k n)) ty') (hd : o.dst = some d) (hg : GuardOk ops F base N o) (hk : known ops base o t = true) (hv : F t = Fact.eq (.int k z)) (hF : F d = Fact.eq (.bool b)) : Ob ops Q F base N o :=
  ob_one t d _ _ hd hg hk hv hF fun a w h1 => by
    subst hb
    exact go_gtr k z n a w _ ty ty' o t ho h1 rfl
theorem ob_eqb (t s d : Nat) (x y b : Bool) (hb : (x == y) = b) (ho : o.op = .binOp .eql 4 (.tmp t) (.tmp s) 4) (hd : o.dst = some d) (hg : GuardOk ops F base N o) (hk : known ops base o t = true) (hk2 : known ops base o s = true) (hv : F t = Fact.eq (.bool x)) (hv2 : F s = Fact.eq (.bool y)) (hF : F d = Fact.eq (.bool b)) : Ob ops Q F base N o :=
  ob_two t s d _ _ _ hd hg hk hk2 hv hv2 hF fun a w h1 h2 => by
    subst hb
    exact go_eql_bool x y a w t s o ho h1 h2
theorem go_neq_bool (b c : Bool) (a : Act) (w : World) (t s : Nat) (o : Oper) (ho : o.op = .binOp .neq 4 (.tmp t) (.tmp s) 4) (h1 : a.eval (.tmp t) = .bool b) (h2 : a.eval (.tmp s) = .bool c) :
    (execOp a.eval o).run Tryz.prog w = .ok (.value (.bool (b != c))) w := by
  simp [execOp, ho, h1, h2]
  go_simp
  cases b <;> cases c <;> rfl
theorem ob_neb (t s d : Nat) (x y b : Bool) (hb : (x != y) = b) (ho : o.op = .binOp .neq 4 (.tmp t) (.tmp s) 4) (hd : o.dst = some d) (hg : GuardOk ops F base N o) (hk : known ops base o t = true) (hk2 : known ops base o s = true) (hv : F t = Fact.eq (.bool x)) (hv2 : F s = Fact.eq (.bool y)) (hF : F d = Fact.eq (.bool b)) : Ob ops Q F base N o :=
  ob_two t s d _ _ _ hd hg hk hk2 hv hv2 hF fun a w h1 h2 => by
    subst hb
    exact go_neq_bool x y a w t s o ho h1 h2
theorem go_neq_int (b c : Int) (a : Act) (w : World) (x : Operand) (t : Nat) (k : IntKind) (ty ty' : TypeId) (o : Oper) (ho : o.op = .binOp .neq ty (.tmp t) x ty') (h1 : a.eval (.tmp t) = .int k b) (h2 : a.eval x = .int k c) :
    (execOp a.eval o).run Tryz.prog w = .ok (.value (.bool (b != c))) w := by
  simp [execOp, ho, h1, h2, eqGuard_at_int, binOp_neq]
theorem ob_nei (t s d : Nat) (k : IntKind) (ty ty' : TypeId) (x y : Int) (b : Bool) (hb : (x != y) = b) (ho : o.op = .binOp .neq ty (.tmp t) (.tmp s) ty') (hd : o.dst = some d) (hg : GuardOk ops F base N o) (hk : known ops base o t = true) (hk2 : known ops base o s = true) (hv : F t = Fact.eq (.int k x)) (hv2 : F s = Fact.eq (.int k y)) (hF : F d = Fact.eq (.bool b)) : Ob ops Q F base N o :=
  ob_two t s d _ _ _ hd hg hk hk2 hv hv2 hF fun a w h1 h2 => by
    subst hb
    exact go_neq_int x y a w _ t k ty ty' o ho h1 h2
theorem ob_nec (t d : Nat) (k : IntKind) (ty ty' : TypeId) (z n : Int) (b : Bool) (hb : (z != n) = b) (ho : o.op = .binOp .neq ty (.tmp t) (.const (.int k n)) ty') (hd : o.dst = some d) (hg : GuardOk ops F base N o) (hk : known ops base o t = true) (hv : F t = Fact.eq (.int k z)) (hF : F d = Fact.eq (.bool b)) : Ob ops Q F base N o :=
  ob_one t d _ _ hd hg hk hv hF fun a w h1 => by
    subst hb
    exact go_neq_int z n a w _ t k ty ty' o ho h1 rfl
theorem ob_not (t d : Nat) (x b : Bool) (hb : (!x) = b) (ho : o.op = .unOp .not 4 (.tmp t)) (hd : o.dst = some d) (hg : GuardOk ops F base N o) (hk : known ops base o t = true) (hv : F t = Fact.eq (.bool x)) (hF : F d = Fact.eq (.bool b)) : Ob ops Q F base N o :=
  ob_one t d _ _ hd hg hk hv hF fun a w h1 => by
    subst hb
    exact go_not x a w t o ho h1
theorem agg_two {v : Value} {w : World} {s z : Bool} (h : (Fact.agg (Con.sgn s z)).holds v w) : v = .agg #[.bool s, .bool z] := by
  obtain ⟨cs, rfl, a, b, rfl, h1, h2⟩ := h
  have h1' : a = [.bool s] := h1
  have h2' : b = [.bool z] := h2
  rw [h1', h2']; rfl
theorem run_eql_sgn (s z s' z' : Bool) (w : World) : (binOp .eql 48 (.agg #[.bool s, .bool z]) (.agg #[.bool s', .bool z'])).run Tryz.prog w = .ok (.bool (s == s' && z == z')) w := by
  cases s <;> cases z <;> cases s' <;> cases z' <;> go_simp
theorem guard_sgn (op : BinOp) (x y : Operand) (s z s' z' : Bool) (w : World) : (eqGuard op 48 x y (.agg #[.bool s, .bool z]) (.agg #[.bool s', .bool z'])).run Tryz.prog w = .ok () w := by
  cases op <;> go_simp
theorem ob_eqs (t u d : Nat) (ty' : TypeId) (s z s' z' b : Bool) (hb : (s == s' && z == z') = b) (ho : o.op = .binOp .eql 48 (.tmp t) (.tmp u) ty') (hd : o.dst = some d) (hg : GuardOk ops F base N o) (hk : known ops base o t = true) (hk2 : known ops base o u = true) (hv : F t = Fact.agg (Con.sgn s z)) (hv2 : F u = Fact.agg (Con.sgn s' z')) (hF : F d = Fact.eq (.bool b)) : Ob ops Q F base N o :=
  ob_val hg fun a w hf => by
    have h1 := hf t hk
    have h2 := hf u hk2
    rw [hv] at h1
    rw [hv2] at h2
    have h1' : a.eval (.tmp t) = _ := agg_two h1
    have h2' : a.eval (.tmp u) = _ := agg_two h2
    subst hb
    refine ⟨_, w, ?_, Below.refl _ _, fun x hx => by rw [hd] at hx; injection hx with hx; subst hx; rw [hF]; rfl⟩
    simp [execOp, ho, h1', h2', guard_sgn, run_eql_sgn]
theorem ob_buildsgn (t u d : Nat) (s z : Bool) (ho : o.op = .build 48 #[(0, .tmp t), (1, .tmp u)]) (hd : o.dst = some d) (hg : GuardOk ops F base N o) (hk : known ops base o t = true) (hk2 : known ops base o u = true) (hv : F t = Fact.eq (.bool s)) (hv2 : F u = Fact.eq (.bool z)) (hF : F d = Fact.agg (Con.sgn s z)) : Ob ops Q F base N o :=
  ob_val hg fun a w hf => by
    have h1 := hf t hk
    have h2 := hf u hk2
    rw [hv] at h1
    rw [hv2] at h2
    have h1' : a.eval (.tmp t) = .bool s := h1
    have h2' : a.eval (.tmp u) = .bool z := h2
    refine ⟨.agg #[.bool s, .bool z], w, ?_, Below.refl _ _, fun x hx => ?_⟩
    · simp [execOp, ho, h1', h2', build48]
    · rw [hd] at hx; injection hx with hx; subst hx; rw [hF]
      exact ⟨[.bool s, .bool z], rfl, [.bool s], [.bool z], rfl, rfl, rfl⟩
theorem ob_buildtri (t u v d k l p q : Nat) (s : Bool) (ho : o.op = .build 26 #[(0, .tmp t), (1, .tmp u), (2, .tmp v)]) (hd : o.dst = some d) (hg : GuardOk ops F base N o) (hk : known ops base o t = true) (hk2 : known ops base o u = true) (hk3 : known ops base o v = true)
    (hv : F t = Fact.eq (.bool s)) (hv2 : F u = Fact.agg (Con.nn k p)) (hv3 : F v = Fact.agg (Con.nn l q)) (hF : F d = Fact.agg (Con.tri k l s p q)) : Ob ops Q F base N o :=
  ob_val hg fun a w hf => by
    have h1 := hf t hk
    have h2 := hf u hk2
    have h3 := hf v hk3
    rw [hv] at h1
    rw [hv2] at h2
    rw [hv3] at h3
    have h1' : a.eval (.tmp t) = .bool s := h1
    obtain ⟨cs, h4, A, c, rfl, h5, h6⟩ := h2
    obtain ⟨ds, h7, B, e, rfl, h8, h9⟩ := h3
    have h4' : a.eval (.tmp u) = nt A (Nm.nat p).length c := h4
    have h7' : a.eval (.tmp v) = nt B (Nm.nat q).length e := h7
    refine ⟨.agg #[.bool s, .slice A (Nm.nat p).length c, .slice B (Nm.nat q).length e], w, ?_, Below.refl _ _, fun x hx => ?_⟩
    · simp [execOp, ho, h1', h4', h7', build26]
    · rw [hd] at hx; injection hx with hx; subst hx; rw [hF]
      exact ⟨[.bool s, .slice A (Nm.nat p).length c, .slice B (Nm.nat q).length e], rfl, [.bool s], _, rfl, rfl, [_], [_], rfl, ⟨A, c, rfl, h5, h6⟩, ⟨B, e, rfl, h8, h9⟩⟩
theorem sz_zero (k : Nat) : Nm.Sz k 0 := Nat.pow_pos (by decide)
theorem ob_buildzero (d : Nat) (ho : o.op = .build 26 #[]) (hd : o.dst = some d) (hg : GuardOk ops F base N o) (hF : F d = Fact.agg (Con.tri 1 1 false 0 0)) : Ob ops Q F base N o :=
  ob_val hg fun a w _ => by
    refine ⟨.agg #[.bool false, .slice none 0 0, .slice none 0 0], w, ?_, Below.refl _ _, fun x hx => ?_⟩
    · simp [execOp, ho, build26_zero]
    · rw [hd] at hx; injection hx with hx; subst hx; rw [hF]
      have hz : (Con.nn 1 0).is w [.slice none 0 0] := ⟨none, 0, by rw [Nm.nat_zero]; rfl, by rw [Nm.nat_zero]; exact num_nil w, sz_zero 1⟩
      exact ⟨[.bool false, .slice none 0 0, .slice none 0 0], rfl, [.bool false], _, rfl, rfl, [_], [_], rfl, hz, hz⟩
theorem ob_nats2 (t u d k l m p q : Nat) (hkm : k ≤ m) (hlm : l ≤ m) (ho : o.op = .buildSlice 77 2 #[(0, .tmp t), (1, .tmp u)]) (hd : o.dst = some d) (hg : GuardOk ops F base N o) (hk : known ops base o t = true) (hk2 : known ops base o u = true)
    (hv : F t = Fact.agg (Con.nn k p)) (hv2 : F u = Fact.agg (Con.nn l q)) (hF : F d = Fact.nats m [p, q]) : Ob ops Q F base N o :=
  ob_val hg fun a w hf => by
    have h1 := hf t hk
    have h2 := hf u hk2
    rw [hv] at h1
    rw [hv2] at h2
    obtain ⟨cs, h4, A, c, rfl, h5, h6⟩ := Fact.nn_up (k := k) h1 hkm
    obtain ⟨ds, h7, B, e, rfl, h8, h9⟩ := Fact.nn_up (k := l) h2 hlm
    have h4' : a.eval (.tmp t) = nt A (Nm.nat p).length c := h4
    have h7' : a.eval (.tmp u) = nt B (Nm.nat q).length e := h7
    refine ⟨.slice (some ⟨w.heap.size, 0, none⟩) 2 2, _, by simp [execOp, ho, h4', h7', buildNats2]; rfl, one _ _, fun x hx => ?_⟩
    rw [hd] at hx; injection hx with hx; subst hx; rw [hF]
    refine ⟨w.heap.size, 2, rfl, fun i n hn => ?_⟩
    match i, hn with
    | 0, hn =>
      obtain rfl : p = n := by simpa using hn
      exact ⟨by simp, [_], fun j v hv => by
        match j, hv with
        | 0, hv => simpa using hv, A, c, rfl, h5.below (one _ _), h6⟩
    | 1, hn =>
      obtain rfl : q = n := by simpa using hn
      exact ⟨by simp, [_], fun j v hv => by
        match j, hv with
        | 0, hv => simpa using hv, B, e, rfl, h8.below (one _ _), h9⟩
theorem ob_3a (t d : Nat) (R S T : Fact) (ho : o.op = .extract (.tmp t) 0) (hd : o.dst = some d) (hg : GuardOk ops F base N o) (hk : known ops base o t = true) (hv : F t = Fact.three R S T) (hF : F d = R) : Ob ops Q F base N o :=
  ob_val hg fun a w hf => by
    have h1 := hf t hk
    rw [hv] at h1
    obtain ⟨x, y, z, h2, h3, h4, h5⟩ := h1
    have h3' : a.eval (.tmp t) = .tuple #[x, y, z] := h2
    exact ⟨x, w, by simp [execOp, ho, h3', Instr.extract], Below.refl _ _, fun s hs => by rw [hd] at hs; injection hs with hs; subst hs; rw [hF]; exact h3⟩
theorem ob_3b (t d : Nat) (R S T : Fact) (ho : o.op = .extract (.tmp t) 1) (hd : o.dst = some d) (hg : GuardOk ops F base N o) (hk : known ops base o t = true) (hv : F t = Fact.three R S T) (hF : F d = S) : Ob ops Q F base N o :=
  ob_val hg fun a w hf => by
    have h1 := hf t hk
    rw [hv] at h1
    obtain ⟨x, y, z, h2, h3, h4, h5⟩ := h1
    have h3' : a.eval (.tmp t) = .tuple #[x, y, z] := h2
    exact ⟨y, w, by simp [execOp, ho, h3', Instr.extract], Below.refl _ _, fun s hs => by rw [hd] at hs; injection hs with hs; subst hs; rw [hF]; exact h4⟩
theorem ob_3c (t d : Nat) (R S T : Fact) (ho : o.op = .extract (.tmp t) 2) (hd : o.dst = some d) (hg : GuardOk ops F base N o) (hk : known ops base o t = true) (hv : F t = Fact.three R S T) (hF : F d = T) : Ob ops Q F base N o :=
  ob_val hg fun a w hf => by
    have h1 := hf t hk
    rw [hv] at h1
    obtain ⟨x, y, z, h2, h3, h4, h5⟩ := h1
    have h3' : a.eval (.tmp t) = .tuple #[x, y, z] := h2
    exact ⟨z, w, by simp [execOp, ho, h3', Instr.extract], Below.refl _ _, fun s hs => by rw [hd] at hs; injection hs with hs; subst hs; rw [hF]; exact h5⟩
theorem ob_skip2 (j d t : Nat) (b : Bool) (hgd : o.guard = some (j, b)) (hdj : (ops[j]?).bind Oper.dst = some d) (hk : known ops base o d = true) (hlt : d < N) (hFd : F d = Fact.eq undef) (ht : o.dst = some t) (hF : F t = Fact.eq undef) : Ob ops Q F base N o := by
  intro a w K hN hb hp hK
  have h1 := known_fact hb hp hk
  rw [hFd] at h1
  have h2 : a.tmps[d]? = some undef := by
    have : a.tmps.getD d undef = undef := h1
    rw [Array.getD_eq_getD_getElem?, Array.getElem?_eq_getElem (by omega)] at this
    rw [Array.getElem?_eq_getElem (by omega)]
    exact congrArg some this
  have h3 : ((ops[j]?).bind fun x => x.dst) = some d := hdj
  rw [if_neg (by simp [Region.wanted, hgd, yielded, h3, h2, undef])]
  exact hK undef w (Below.refl _ _) fun s hs => by rw [ht] at hs; injection hs with hs; subst hs; rw [hF]; rfl
theorem ob_pick_or (c t d : Nat) (u : Value) (ho : o.op = .pick (.tmp c) (.const u) (.tmp t)) (hd : o.dst = some d) (hg : GuardOk ops F base N o) (hkc : known ops base o c = true) (hc : F c = fT) (hF : F d = Fact.eq u) : Ob ops Q F base N o :=
  ob_val hg fun a w hf => ⟨u, w, by
    have h1 := hf c hkc
    rw [hc] at h1
    have h2 : a.tmps[c]?.getD undef = .bool true := by rw [← Array.getD_eq_getD_getElem?]; exact h1
    simp [execOp, ho, Act.eval, h2, asBool], Below.refl _ _, fun s hs => by
    rw [hd] at hs; injection hs with hs; subst hs; rw [hF]; rfl⟩
theorem ob_pick_else (c t d : Nat) (u : Value) (ho : o.op = .pick (.tmp c) (.const u) (.tmp t)) (hd : o.dst = some d) (hg : GuardOk ops F base N o) (hkc : known ops base o c = true) (hk : known ops base o t = true) (hc : F c = fF) (hF : F d = F t) : Ob ops Q F base N o :=
  ob_val hg fun a w hf => ⟨a.tmps.getD t undef, w, by
    have h1 := hf c hkc
    rw [hc] at h1
    have h2 : a.tmps[c]?.getD undef = .bool false := by rw [← Array.getD_eq_getD_getElem?]; exact h1
    simp [execOp, ho, Act.eval, h2, asBool], Below.refl _ _, fun s hs => by
    rw [hd] at hs; injection hs with hs; subst hs; rw [hF]; exact hf t hk⟩
end
end Go.Proofs.YtjfehdkfogdpgaaGreatDoor
namespace Go.Proofs.YtjfehdkfogdpgaaGreatDoor
open Go.RowKit
namespace Rt
theorem add_mixed_ge {x y : Rat} (h : (ng x == ng y && decide (tp x = 0) == decide (tp y = 0)) = false) (hle : tp y * x.den ≤ tp x * y.den) : x + y = of (ng x) (tp x * y.den - tp y * x.den) (x.den * y.den) := by
  by_cases e : ng x = ng y
  · have h1 : decide (tp x = 0) ≠ decide (tp y = 0) := by simpa [e] using h
    rw [add_same e]
    by_cases hy : tp y = 0
    · rw [hy, Nat.zero_mul, Nat.add_zero, Nat.sub_zero]
    · have hx : tp x = 0 := by
        by_cases hx : tp x = 0
        · exact hx
        · simp [hx, hy] at h1
      exfalso
      rw [hx, Nat.zero_mul] at hle
      have := Nat.mul_pos (Nat.pos_of_ne_zero hy) (den_pos x)
      omega
  · exact add_ge e hle
theorem add_mixed_lt {x y : Rat} (h : (ng x == ng y && decide (tp x = 0) == decide (tp y = 0)) = false) (hlt : ¬ tp y * x.den ≤ tp x * y.den) : x + y = of (ng y) (tp y * x.den - tp x * y.den) (x.den * y.den) := by
  by_cases e : ng x = ng y
  · have h1 : decide (tp x = 0) ≠ decide (tp y = 0) := by simpa [e] using h
    rw [add_same e, e]
    by_cases hx : tp x = 0
    · rw [hx, Nat.zero_mul, Nat.zero_add, Nat.sub_zero]
    · have hy : tp y = 0 := by
        by_cases hy : tp y = 0
        · exact hy
        · simp [hx, hy] at h1
      exfalso
      rw [hy, Nat.zero_mul] at hlt
      exact hlt (Nat.zero_le _)
  · exact add_lt e (by omega)
theorem same_ng {x y : Rat} (h : (ng x == ng y && decide (tp x = 0) == decide (tp y = 0)) = true) : ng x = ng y := by
  rw [Bool.and_eq_true] at h
  exact eq_of_beq h.1
def Sz (k : Nat) (x : Rat) : Prop := Nm.Sz k (tp x) ∧ Nm.Sz k x.den
theorem Sz.up {k l : Nat} {x : Rat} (h : Sz k x) (hl : k ≤ l) : Sz l x := ⟨h.1.up hl, h.2.up hl⟩
theorem Sz.of {k : Nat} {s : Bool} {p q : Nat} (hq : q ≠ 0) (h1 : Nm.Sz k p) (h2 : Nm.Sz k q) : Sz k (of s p q) :=
  ⟨by rw [tp_of hq]; exact h1.mono (Nat.div_le_self _ _), by rw [den_of hq]; exact h2.mono (Nat.div_le_self _ _)⟩
theorem Sz.neg {k : Nat} {x : Rat} (h : Sz k x) : Sz k (-x) := ⟨by rw [neg_tp]; exact h.1, h.2⟩
theorem Sz.mul {k l : Nat} {x y : Rat} (h : Sz k x) (h' : Sz l y) : Sz (k + l) (x * y) := by
  rw [mul_eq]
  exact Sz.of (den_mul_ne x y) (h.1.mul h'.1) (h.2.mul h'.2)
theorem Sz.add {k l : Nat} {x y : Rat} (h : Sz k x) (h' : Sz l y) : Sz (k + l + 1) (x + y) := by
  have h1 : Nm.Sz (k + l) (tp x * y.den) := h.1.mul h'.2
  have h2 : Nm.Sz (k + l) (tp y * x.den) := by rw [Nat.mul_comm, Nat.add_comm k l, Nat.add_comm l k]; exact h.2.mul h'.1
  have h3 : Nm.Sz (k + l + 1) (x.den * y.den) := (h.2.mul h'.2).up (Nat.le_succ _)
  have h4 := h1.add h2 (Nat.le_refl _)
  by_cases e : ng x = ng y
  · rw [add_same e]
    exact Sz.of (den_mul_ne x y) h4 h3
  · by_cases hle : tp y * x.den ≤ tp x * y.den
    · rw [add_ge e hle]
      exact Sz.of (den_mul_ne x y) (h4.mono (by omega)) h3
    · rw [add_lt e (by omega)]
      exact Sz.of (den_mul_ne x y) (h4.mono (by omega)) h3
end Rt
theorem Con.fr_of {k l m : Nat} {s s' : Bool} {p q p' q' : Nat} (hq : q ≠ 0) (hs : s' = (s && !decide (p = 0))) (hp : p' = p / Nat.gcd p q) (hq' : q' = q / Nat.gcd p q) (hk : k ≤ m) (hl : l ≤ m) {w : World} {cs : List Value} (h : (Con.tri k l s' p' q').is w cs) : (Con.fr m (Rt.of s p q)).is w cs := by
  unfold Con.fr
  rw [Rt.ng_of hq, Rt.tp_of hq, Rt.den_of hq, ← hs, ← hp, ← hq']
  obtain ⟨a, b, h1, h2, c, d, h3, ⟨A, e, h4, h5, h6⟩, ⟨B, f, h7, h8, h9⟩⟩ := h
  exact ⟨a, b, h1, h2, c, d, h3, ⟨A, e, h4, h5, h6.up hk⟩, ⟨B, f, h7, h8, h9.up hl⟩⟩
theorem Con.fr_sz {k : Nat} {x : Rat} {w : World} {cs : List Value} (h : (Con.fr k x).is w cs) : Rt.Sz k x := by
  obtain ⟨a, b, _, _, c, d, _, ⟨_, _, _, _, h6⟩, ⟨_, _, _, _, h9⟩⟩ := h
  exact ⟨h6, h9⟩
theorem Con.fr_is {k l : Nat} {x : Rat} {w : World} {cs : List Value} (h : (Con.fr k x).is w cs) (hz : Rt.Sz l x) : (Con.fr l x).is w cs := by
  obtain ⟨a, b, h1, h2, c, d, h3, ⟨A, e, h4, h5, _⟩, ⟨B, f, h7, h8, _⟩⟩ := h
  exact ⟨a, b, h1, h2, c, d, h3, ⟨A, e, h4, h5, hz.1⟩, ⟨B, f, h7, h8, hz.2⟩⟩
theorem Fact.fr_sz {k : Nat} {x : Rat} {v : Value} {w : World} (h : (Fact.fr k x).holds v w) : Rt.Sz k x := by
  obtain ⟨cs, _, h⟩ := h
  exact Con.fr_sz h
theorem Fact.fr_is {k l : Nat} {x : Rat} {v : Value} {w : World} (h : (Fact.fr k x).holds v w) (hz : Rt.Sz l x) : (Fact.fr l x).holds v w := by
  obtain ⟨cs, h1, h⟩ := h
  exact ⟨cs, h1, Con.fr_is h hz⟩
theorem Fact.fr_up {k l : Nat} {x : Rat} {v : Value} {w : World} (h : (Fact.fr k x).holds v w) (hl : k ≤ l) : (Fact.fr l x).holds v w := Fact.fr_is h ((Fact.fr_sz h).up hl)
theorem Fact.tri_fr {k l m : Nat} {s s' : Bool} {p q p' q' : Nat} {x : Rat} {v : Value} {w : World} (h : (Fact.agg (Con.tri k l s' p' q')).holds v w) (hq : q ≠ 0) (hs : s' = (s && !decide (p = 0))) (hp : p' = p / Nat.gcd p q) (hq' : q' = q / Nat.gcd p q) (hx : x = Rt.of s p q) (hk : k ≤ m) (hl : l ≤ m) : (Fact.fr m x).holds v w := by
  subst hx
  obtain ⟨cs, h1, h2⟩ := h
  exact ⟨cs, h1, Con.fr_of hq hs hp hq' hk hl h2⟩
theorem Fact.tri_eq {k : Nat} {s : Bool} {p q : Nat} {x : Rat} {v : Value} {w : World} (h : (Fact.agg (Con.tri k k s p q)).holds v w) (hs : s = Rt.ng x) (hp : p = Rt.tp x) (hq : q = x.den) : (Fact.fr k x).holds v w := by
  subst hs hp hq
  exact h
theorem Ret.to {R S : Fact} {w w' : World} {e : Ending} (h : Ret R w e w') (hRS : ∀ v, R.holds v w' → S.holds v w') : Ret S w e w' := by
  obtain ⟨u, he, hb, hr⟩ := h
  exact ⟨u, he, hb, hRS u hr⟩
theorem blen_zero (n : Nat) : ((Nm.blen n : Int) == 0) = decide (n = 0) := by
  by_cases h : n = 0
  · subst h; rfl
  · have : Nm.blen n ≠ 0 := by unfold Nm.blen; rw [if_neg h]; omega
    rw [decide_eq_false h, beq_eq_false_iff_ne]; omega
theorem blen_one (n : Nat) : ((Nm.blen n : Int) == 1) = decide (n = 1) := by
  by_cases h : n = 0
  · subst h; rfl
  · by_cases h1 : n = 1
    · subst h1; decide
    · have h2 : Nm.blen n = Nat.log2 n + 1 := by unfold Nm.blen; rw [if_neg h]
      have h3 : 1 ≤ Nat.log2 n := (Nat.le_log2 h).2 (by omega)
      rw [decide_eq_false h1, beq_eq_false_iff_ne]; omega
end Go.Proofs.YtjfehdkfogdpgaaGreatDoor
namespace Go.Proofs.YtjfehdkfogdpgaaGreatDoor
open Go.RowKit
set_option maxRecDepth 100000 in
theorem q_isZero (k p : Nat) (b : Bool) (hbd : decide (p = 0) = b) : ∀ v0 w, (Fact.agg (Con.nn k p)).holds v0 w → Calls Tryz.prog 48 #[v0] w (Ret (Fact.eq (.bool b)) w) := by
  intro v0 w hv0
  refine sym_calls 6 [(0, Fact.agg (Con.nn k p))] Tryz.func48 rfl rfl (Nat.le_of_ble_eq_true rfl) (fcs ⟨⟨Nat.le_of_ble_eq_true rfl, hv0⟩, fnl⟩) fun a st => ?_
  have hb := Below.refl w.heap.size w
  refine wp_seq ?_
  refine sym_region st [(1, Fact.var' (Con.nn k p)), (2, fF)] [1] 2 (by kernel_rfl) (by kernel_rfl) (by kernel_rfl) (Nat.le_of_ble_eq_true rfl) (by kernel_rfl) rfl rfl ?_ ?_
  · refine fcs ⟨obn_box 24 0 1 _ (Con.nn k p) rfl rfl rfl (by kernel_rfl) rfl rfl, ?_⟩
    refine fcn (ob_const (.bool false) 2 (.inr rfl) rfl (.inl rfl) rfl) ?_
    exact fnl
  intro a1 w1 st1 hbr1 hfr
  have hs1 := hbr1.size
  have hb := up hb hbr1
  obtain ⟨b1, c1⟩ := (show (Fact.var' (Con.nn k p)).holds _ _ from st1.at_ 1)
  have g1 := hfr.ge (s := 1) rfl c1.1
  have st : St 6 [(1, Fact.cell b1 (Con.nn k p)), (2, fF)] a1 w1 := st1.to (fcs ⟨c1, fcs ⟨st1.at_ 2, fnl⟩⟩)
  clear st1 hbr1 hfr c1
  refine wpList_nil ?_
  refine then_normal ?_
  refine wp_seq ?_
  have st := st.to (ks' := [(1, Fact.cell b1 (Con.nn k p))]) (fcs ⟨st.at_ 1, fnl⟩)
  refine sym_region st [(3, Fact.agg (Con.nn k p)), (4, fI (Nm.blen p : Int)), (5, Fact.eq (.bool b)), (2, Fact.eq (.bool b))] [] 4 (by kernel_rfl) (by kernel_rfl) (by kernel_rfl) (Nat.le_of_ble_eq_true rfl) (by kernel_rfl) rfl rfl ?_ ?_
  · refine fcn (ob_read 24 1 3 (Con.nn k p) rfl rfl (.inl rfl) (by kernel_rfl) points_cell rfl row24 info24) ?_
    refine fcn (ob_call1 81 3 4 _ rfl rfl (.inl rfl) (by kernel_rfl) (by kernel_rfl) (n_bits k p _ rfl)) ?_
    refine fcn (ob_eqc 4 5 .i64 3 _ (Nm.blen p : Int) 0 b ((blen_zero p).trans hbd) rfl rfl (.inl rfl) (by kernel_rfl) rfl rfl) ?_
    refine fcn (ob_copy 5 2 (.inr rfl) rfl (.inl rfl) (by kernel_rfl) rfl) ?_
    exact fnl
  intro a2 w2 st2 hbr2 hfr
  have hs2 := hbr2.size
  have hb := up hb hbr2
  have st : St 6 [(2, Fact.eq (.bool b))] a2 w2 := st2.to (fcs ⟨st2.at_ 2, fnl⟩)
  clear st2 hbr2 hfr
  refine wpList_nil ?_
  refine then_normal ?_
  refine wp_ret ?_
  exact sym_ret1 rfl st.defers (resAt_tmp st 2) hb (fun _ h => h)
set_option maxRecDepth 100000 in
theorem q_isOne (k p : Nat) (b : Bool) (hbd : decide (p = 1) = b) : ∀ v0 w, (Fact.agg (Con.nn k p)).holds v0 w → Calls Tryz.prog 69 #[v0] w (Ret (Fact.eq (.bool b)) w) := by
  intro v0 w hv0
  refine sym_calls 6 [(0, Fact.agg (Con.nn k p))] Tryz.func69 rfl rfl (Nat.le_of_ble_eq_true rfl) (fcs ⟨⟨Nat.le_of_ble_eq_true rfl, hv0⟩, fnl⟩) fun a st => ?_
  have hb := Below.refl w.heap.size w
  refine wp_seq ?_
  refine sym_region st [(1, Fact.var' (Con.nn k p)), (2, fF)] [1] 2 (by kernel_rfl) (by kernel_rfl) (by kernel_rfl) (Nat.le_of_ble_eq_true rfl) (by kernel_rfl) rfl rfl ?_ ?_
  · refine fcs ⟨obn_box 24 0 1 _ (Con.nn k p) rfl rfl rfl (by kernel_rfl) rfl rfl, ?_⟩
    refine fcn (ob_const (.bool false) 2 (.inr rfl) rfl (.inl rfl) rfl) ?_
    exact fnl
  intro a1 w1 st1 hbr1 hfr
  have hs1 := hbr1.size
  have hb := up hb hbr1
  obtain ⟨b1, c1⟩ := (show (Fact.var' (Con.nn k p)).holds _ _ from st1.at_ 1)
  have g1 := hfr.ge (s := 1) rfl c1.1
  have st : St 6 [(1, Fact.cell b1 (Con.nn k p)), (2, fF)] a1 w1 := st1.to (fcs ⟨c1, fcs ⟨st1.at_ 2, fnl⟩⟩)
  clear st1 hbr1 hfr c1
  refine wpList_nil ?_
  refine then_normal ?_
  refine wp_seq ?_
  have st := st.to (ks' := [(1, Fact.cell b1 (Con.nn k p))]) (fcs ⟨st.at_ 1, fnl⟩)
  refine sym_region st [(3, Fact.agg (Con.nn k p)), (4, fI (Nm.blen p : Int)), (5, Fact.eq (.bool b)), (2, Fact.eq (.bool b))] [] 4 (by kernel_rfl) (by kernel_rfl) (by kernel_rfl) (Nat.le_of_ble_eq_true rfl) (by kernel_rfl) rfl rfl ?_ ?_
  · refine fcn (ob_read 24 1 3 (Con.nn k p) rfl rfl (.inl rfl) (by kernel_rfl) points_cell rfl row24 info24) ?_
    refine fcn (ob_call1 81 3 4 _ rfl rfl (.inl rfl) (by kernel_rfl) (by kernel_rfl) (n_bits k p _ rfl)) ?_
    refine fcn (ob_eqc 4 5 .i64 3 _ (Nm.blen p : Int) 1 b ((blen_one p).trans hbd) rfl rfl (.inl rfl) (by kernel_rfl) rfl rfl) ?_
    refine fcn (ob_copy 5 2 (.inr rfl) rfl (.inl rfl) (by kernel_rfl) rfl) ?_
    exact fnl
  intro a2 w2 st2 hbr2 hfr
  have hs2 := hbr2.size
  have hb := up hb hbr2
  have st : St 6 [(2, Fact.eq (.bool b))] a2 w2 := st2.to (fcs ⟨st2.at_ 2, fnl⟩)
  clear st2 hbr2 hfr
  refine wpList_nil ?_
  refine then_normal ?_
  refine wp_ret ?_
  exact sym_ret1 rfl st.defers (resAt_tmp st 2) hb (fun _ h => h)
set_option maxRecDepth 100000 in
theorem q_signOf (k : Nat) (x : Rat) : ∀ v0 w, (Fact.agg (Con.fr k x)).holds v0 w → Calls Tryz.prog 39 #[v0] w (Ret (Fact.agg (Con.sgn (Rt.ng x) (decide (Rt.tp x = 0)))) w) := by
  intro v0 w hv0
  refine sym_calls 9 [(0, Fact.agg (Con.fr k x))] Tryz.func39 rfl rfl (Nat.le_of_ble_eq_true rfl) (fcs ⟨⟨Nat.le_of_ble_eq_true rfl, hv0⟩, fnl⟩) fun a st => ?_
  have hb := Below.refl w.heap.size w
  refine wp_seq ?_
  refine sym_region st [(1, Fact.var' (Con.fr k x)), (2, Fact.var' (Con.raw 2))] [1, 2] 2 (by kernel_rfl) (by kernel_rfl) (by kernel_rfl) (Nat.le_of_ble_eq_true rfl) (by kernel_rfl) rfl rfl ?_ ?_
  · refine fcs ⟨obn_box 26 0 1 _ (Con.fr k x) rfl rfl rfl (by kernel_rfl) rfl rfl, ?_⟩
    refine fcs ⟨obn_new 48 2 _ [.bool false, .bool false] rfl rfl rfl rfl rfl alloc48, ?_⟩
    exact fnl
  intro a1 w1 st1 hbr1 hfr
  have hs1 := hbr1.size
  have hb := up hb hbr1
  obtain ⟨b1, c1⟩ := (show (Fact.var' (Con.fr k x)).holds _ _ from st1.at_ 1)
  have g1 := hfr.ge (s := 1) rfl c1.1
  obtain ⟨b2, c2⟩ := (show (Fact.var' (Con.raw 2)).holds _ _ from st1.at_ 2)
  have g2 := hfr.ge (s := 2) rfl c2.1
  have ne1_2 := hfr.apart (s := 1) (t := 2) rfl rfl (by decide) c1.1 c2.1
  have st : St 9 [(1, Fact.cell b1 (Con.fr k x)), (2, Fact.cell b2 (Con.raw 2))] a1 w1 := st1.to (fcs ⟨c1, fcs ⟨c2, fnl⟩⟩)
  clear st1 hbr1 hfr c1 c2
  refine wpList_nil ?_
  refine then_normal ?_
  refine wp_seq ?_
  refine sym_region st [(3, Fact.ptr (Con.bool (Rt.ng x))), (4, Fact.eq (.bool (Rt.ng x))), (5, Fact.ptr (Con.nn k (Rt.tp x))), (6, Fact.agg (Con.nn k (Rt.tp x))), (7, Fact.eq (.bool (decide (Rt.tp x = 0)))), (8, Fact.agg (Con.sgn (Rt.ng x) (decide (Rt.tp x = 0))))] [] 6 (by kernel_rfl) (by kernel_rfl) (by kernel_rfl) (Nat.le_of_ble_eq_true rfl) (by kernel_rfl) rfl rfl ?_ ?_
  · refine fcn (ob_addr 26 0 1 3 0 (Con.fr k x) (Con.bool (Rt.ng x)) rfl rfl (.inl rfl) (by kernel_rfl) points_cell rfl (Con.fr_ng k x) field26_0) ?_
    refine fcn (ob_readb 3 4 (Rt.ng x) (Rt.ng x) rfl rfl rfl (.inl rfl) (by kernel_rfl) points_ptr rfl) ?_
    refine fcn (ob_addr 26 1 1 5 1 (Con.fr k x) (Con.nn k (Rt.tp x)) rfl rfl (.inl rfl) (by kernel_rfl) points_cell rfl (Con.fr_tp k x) field26_1) ?_
    refine fcn (ob_read 24 5 6 (Con.nn k (Rt.tp x)) rfl rfl (.inl rfl) (by kernel_rfl) points_ptr rfl row24 info24) ?_
    refine fcn (ob_call1 48 6 7 _ rfl rfl (.inl rfl) (by kernel_rfl) (by kernel_rfl) (q_isZero k (Rt.tp x) (decide (Rt.tp x = 0)) rfl)) ?_
    refine fcn (ob_buildsgn 4 7 8 (Rt.ng x) (decide (Rt.tp x = 0)) rfl rfl (.inl rfl) (by kernel_rfl) (by kernel_rfl) rfl rfl rfl) ?_
    exact fnl
  intro a2 w2 st2 hbr2 hfr
  have hs2 := hbr2.size
  have hb := up hb hbr2
  have st : St 9 [(2, Fact.cell b2 (Con.raw 2)), (8, Fact.agg (Con.sgn (Rt.ng x) (decide (Rt.tp x = 0))))] a2 w2 := st2.to (fcs ⟨st2.at_ 2, fcs ⟨st2.at_ 8, fnl⟩⟩)
  clear st2 hbr2 hfr
  refine sym_store st 48 2 8 b2 (Con.raw 2) (Con.sgn (Rt.ng x) (decide (Rt.tp x = 0))) [(2, Fact.cell b2 (Con.sgn (Rt.ng x) (decide (Rt.tp x = 0))))] rfl rfl rfl rfl rfl rfl info48 ?_ ?_
  · exact fcs ⟨.inl rfl, fnl⟩
  clear st; intro w3 hB hsz3 st
  have hb := hB _ _ hb (by omega) (by omega)
  clear hB
  refine wpList_nil ?_
  refine then_normal ?_
  refine wp_ret ?_
  exact sym_ret1 rfl st.defers (resAt_cell st 2 b2 48 (Con.sgn (Rt.ng x) (decide (Rt.tp x = 0))) rfl row48 info48) hb (fun _ h => h)
set_option maxRecDepth 100000 in
theorem q_reduced (k l r : Nat) (s : Bool) (p q : Nat) (hq : q ≠ 0) (hkr : k ≤ r) (hlr : l ≤ r) (hr : r ≤ 400) : ∀ v0 v1 v2 w, (Fact.eq (.bool s)).holds v0 w → (Fact.agg (Con.nn k p)).holds v1 w → (Fact.agg (Con.nn l q)).holds v2 w → Calls Tryz.prog 40 #[v0, v1, v2] w (Ret (Fact.fr r (Rt.of s p q)) w) := by
  intro v0 v1 v2 w hv0 hv1 hv2
  cases s with
  | false =>
    refine sym_calls 34 [(0, fF), (1, Fact.agg (Con.nn k p)), (2, Fact.agg (Con.nn l q))] Tryz.func40 rfl rfl (Nat.le_of_ble_eq_true rfl) (fcs ⟨⟨Nat.le_of_ble_eq_true rfl, hv0⟩, fcs ⟨⟨Nat.le_of_ble_eq_true rfl, hv1⟩, fcs ⟨⟨Nat.le_of_ble_eq_true rfl, hv2⟩, fnl⟩⟩⟩) fun a st => ?_
    have hb := Below.refl w.heap.size w
    refine wp_seq ?_
    refine sym_region st [(4, Fact.var' (Con.nn k p)), (5, Fact.var' (Con.nn l q)), (6, Fact.var' (Con.raw 3))] [4, 5, 6] 3 (by kernel_rfl) (by kernel_rfl) (by kernel_rfl) (Nat.le_of_ble_eq_true rfl) (by kernel_rfl) rfl rfl ?_ ?_
    · refine fcs ⟨obn_box 24 1 4 _ (Con.nn k p) rfl rfl rfl (by kernel_rfl) rfl rfl, ?_⟩
      refine fcs ⟨obn_box 24 2 5 _ (Con.nn l q) rfl rfl rfl (by kernel_rfl) rfl rfl, ?_⟩
      refine fcs ⟨obn_new 26 6 _ [.bool false, .slice none 0 0, .slice none 0 0] rfl rfl rfl rfl rfl alloc26, ?_⟩
      exact fnl
    intro a1 w1 st1 hbr1 hfr
    have hs1 := hbr1.size
    have hb := up hb hbr1
    obtain ⟨b4, c4⟩ := (show (Fact.var' (Con.nn k p)).holds _ _ from st1.at_ 4)
    have g4 := hfr.ge (s := 4) rfl c4.1
    obtain ⟨b5, c5⟩ := (show (Fact.var' (Con.nn l q)).holds _ _ from st1.at_ 5)
    have g5 := hfr.ge (s := 5) rfl c5.1
    obtain ⟨b6, c6⟩ := (show (Fact.var' (Con.raw 3)).holds _ _ from st1.at_ 6)
    have g6 := hfr.ge (s := 6) rfl c6.1
    have ne4_5 := hfr.apart (s := 4) (t := 5) rfl rfl (by decide) c4.1 c5.1
    have ne4_6 := hfr.apart (s := 4) (t := 6) rfl rfl (by decide) c4.1 c6.1
    have ne5_6 := hfr.apart (s := 5) (t := 6) rfl rfl (by decide) c5.1 c6.1
    have st : St 34 [(0, fF), (4, Fact.cell b4 (Con.nn k p)), (5, Fact.cell b5 (Con.nn l q)), (6, Fact.cell b6 (Con.raw 3))] a1 w1 := st1.to (fcs ⟨st1.at_ 0, fcs ⟨c4, fcs ⟨c5, fcs ⟨c6, fnl⟩⟩⟩⟩)
    clear st1 hbr1 hfr c4 c5 c6
    refine wpList_nil ?_
    refine then_normal ?_
    refine wp_seq ?_
    refine sym_region st [(8, Fact.agg (Con.nn k p)), (9, Fact.agg (Con.nn l q)), (10, Fact.agg (Con.nn l (Nat.gcd p q))), (7, Fact.var' (Con.raw 1))] [7] 4 (by kernel_rfl) (by kernel_rfl) (by kernel_rfl) (Nat.le_of_ble_eq_true rfl) (by kernel_rfl) rfl rfl ?_ ?_
    · refine fcn (ob_read 24 4 8 (Con.nn k p) rfl rfl (.inl rfl) (by kernel_rfl) points_cell rfl row24 info24) ?_
      refine fcn (ob_read 24 5 9 (Con.nn l q) rfl rfl (.inl rfl) (by kernel_rfl) points_cell rfl row24 info24) ?_
      refine fcn (ob_call2 75 8 9 10 _ rfl rfl (.inl rfl) (by kernel_rfl) (by kernel_rfl) (by kernel_rfl) (n_gcd k l p q hq (by omega))) ?_
      refine fcs ⟨obn_new 24 7 _ [.slice none 0 0] rfl rfl rfl rfl rfl alloc24, ?_⟩
      exact fnl
    intro a2 w2 st2 hbr2 hfr
    have hs2 := hbr2.size
    have hb := up hb hbr2
    obtain ⟨b7, c7⟩ := (show (Fact.var' (Con.raw 1)).holds _ _ from st2.at_ 7)
    have g7 := hfr.ge (s := 7) rfl c7.1
    have st : St 34 [(0, fF), (4, Fact.cell b4 (Con.nn k p)), (5, Fact.cell b5 (Con.nn l q)), (6, Fact.cell b6 (Con.raw 3)), (10, Fact.agg (Con.nn l (Nat.gcd p q))), (7, Fact.cell b7 (Con.raw 1))] a2 w2 := st2.to (fcs ⟨st2.at_ 0, fcs ⟨st2.at_ 4, fcs ⟨st2.at_ 5, fcs ⟨st2.at_ 6, fcs ⟨st2.at_ 10, fcs ⟨c7, fnl⟩⟩⟩⟩⟩⟩)
    clear st2 hbr2 hfr c7
    refine sym_store st 24 7 10 b7 (Con.raw 1) (Con.nn l (Nat.gcd p q)) [(0, fF), (4, Fact.cell b4 (Con.nn k p)), (5, Fact.cell b5 (Con.nn l q)), (6, Fact.cell b6 (Con.raw 3)), (7, Fact.cell b7 (Con.nn l (Nat.gcd p q)))] rfl rfl rfl rfl rfl rfl info24 ?_ ?_
    · exact fcs ⟨.inr ⟨rfl, safe_eq _ _⟩, fcs ⟨.inr ⟨rfl, safe_cell _ (by omega)⟩, fcs ⟨.inr ⟨rfl, safe_cell _ (by omega)⟩, fcs ⟨.inr ⟨rfl, safe_cell _ (by omega)⟩, fcs ⟨.inl rfl, fnl⟩⟩⟩⟩⟩
    clear st; intro w3 hB hsz3 st
    have hb := hB _ _ hb (by omega) (by omega)
    clear hB
    refine wpList_nil ?_
    refine then_normal ?_
    refine wp_seq ?_
    refine sym_region st [(12, Fact.agg (Con.nn k p)), (13, Fact.agg (Con.nn l (Nat.gcd p q))), (14, Fact.three (Fact.agg (Con.nn k (p / (Nat.gcd p q)))) (Fact.agg (Con.nn l (p % (Nat.gcd p q)))) (fI 0)), (11, Fact.three (Fact.agg (Con.nn k (p / (Nat.gcd p q)))) (Fact.agg (Con.nn l (p % (Nat.gcd p q)))) (fI 0)), (15, Fact.agg (Con.nn k (p / (Nat.gcd p q)))), (16, Fact.agg (Con.nn l (p % (Nat.gcd p q)))), (17, fI 0)] [] 7 (by kernel_rfl) (by kernel_rfl) (by kernel_rfl) (Nat.le_of_ble_eq_true rfl) (by kernel_rfl) rfl rfl ?_ ?_
    · refine fcn (ob_read 24 4 12 (Con.nn k p) rfl rfl (.inl rfl) (by kernel_rfl) points_cell rfl row24 info24) ?_
      refine fcn (ob_read 24 7 13 (Con.nn l (Nat.gcd p q)) rfl rfl (.inl rfl) (by kernel_rfl) points_cell rfl row24 info24) ?_
      refine fcn (ob_call2 60 12 13 14 _ rfl rfl (.inl rfl) (by kernel_rfl) (by kernel_rfl) (by kernel_rfl) (n_divMod k l p (Nat.gcd p q) (Nat.ne_of_gt (Rt.gcd_pos hq)) (by omega) (by omega))) ?_
      refine fcn (ob_copy 14 11 (.inl rfl) rfl (.inl rfl) (by kernel_rfl) rfl) ?_
      refine fcn (ob_3a 11 15 (Fact.agg (Con.nn k (p / (Nat.gcd p q)))) (Fact.agg (Con.nn l (p % (Nat.gcd p q)))) (fI 0) rfl rfl (.inl rfl) (by kernel_rfl) rfl rfl) ?_
      refine fcn (ob_3b 11 16 (Fact.agg (Con.nn k (p / (Nat.gcd p q)))) (Fact.agg (Con.nn l (p % (Nat.gcd p q)))) (fI 0) rfl rfl (.inl rfl) (by kernel_rfl) rfl rfl) ?_
      refine fcn (ob_3c 11 17 (Fact.agg (Con.nn k (p / (Nat.gcd p q)))) (Fact.agg (Con.nn l (p % (Nat.gcd p q)))) (fI 0) rfl rfl (.inl rfl) (by kernel_rfl) rfl rfl) ?_
      exact fnl
    intro a4 w4 st4 hbr4 hfr
    have hs4 := hbr4.size
    have hb := up hb hbr4
    have st : St 34 [(0, fF), (4, Fact.cell b4 (Con.nn k p)), (5, Fact.cell b5 (Con.nn l q)), (6, Fact.cell b6 (Con.raw 3)), (7, Fact.cell b7 (Con.nn l (Nat.gcd p q))), (15, Fact.agg (Con.nn k (p / (Nat.gcd p q))))] a4 w4 := st4.to (fcs ⟨st4.at_ 0, fcs ⟨st4.at_ 4, fcs ⟨st4.at_ 5, fcs ⟨st4.at_ 6, fcs ⟨st4.at_ 7, fcs ⟨st4.at_ 15, fnl⟩⟩⟩⟩⟩⟩)
    clear st4 hbr4 hfr
    refine sym_store st 24 4 15 b4 (Con.nn k p) (Con.nn k (p / (Nat.gcd p q))) [(0, fF), (4, Fact.cell b4 (Con.nn k (p / (Nat.gcd p q)))), (5, Fact.cell b5 (Con.nn l q)), (6, Fact.cell b6 (Con.raw 3)), (7, Fact.cell b7 (Con.nn l (Nat.gcd p q)))] rfl rfl rfl rfl rfl rfl info24 ?_ ?_
    · exact fcs ⟨.inr ⟨rfl, safe_eq _ _⟩, fcs ⟨.inl rfl, fcs ⟨.inr ⟨rfl, safe_cell _ (by omega)⟩, fcs ⟨.inr ⟨rfl, safe_cell _ (by omega)⟩, fcs ⟨.inr ⟨rfl, safe_cell _ (by omega)⟩, fnl⟩⟩⟩⟩⟩
    clear st; intro w5 hB hsz5 st
    have hb := hB _ _ hb (by omega) (by omega)
    clear hB
    refine wpList_nil ?_
    refine then_normal ?_
    refine wp_seq ?_
    refine sym_region st [(19, Fact.agg (Con.nn l q)), (20, Fact.agg (Con.nn l (Nat.gcd p q))), (21, Fact.three (Fact.agg (Con.nn l (q / (Nat.gcd p q)))) (Fact.agg (Con.nn l (q % (Nat.gcd p q)))) (fI 0)), (18, Fact.three (Fact.agg (Con.nn l (q / (Nat.gcd p q)))) (Fact.agg (Con.nn l (q % (Nat.gcd p q)))) (fI 0)), (22, Fact.agg (Con.nn l (q / (Nat.gcd p q)))), (23, Fact.agg (Con.nn l (q % (Nat.gcd p q)))), (24, fI 0)] [] 7 (by kernel_rfl) (by kernel_rfl) (by kernel_rfl) (Nat.le_of_ble_eq_true rfl) (by kernel_rfl) rfl rfl ?_ ?_
    · refine fcn (ob_read 24 5 19 (Con.nn l q) rfl rfl (.inl rfl) (by kernel_rfl) points_cell rfl row24 info24) ?_
      refine fcn (ob_read 24 7 20 (Con.nn l (Nat.gcd p q)) rfl rfl (.inl rfl) (by kernel_rfl) points_cell rfl row24 info24) ?_
      refine fcn (ob_call2 60 19 20 21 _ rfl rfl (.inl rfl) (by kernel_rfl) (by kernel_rfl) (by kernel_rfl) (n_divMod l l q (Nat.gcd p q) (Nat.ne_of_gt (Rt.gcd_pos hq)) (by omega) (by omega))) ?_
      refine fcn (ob_copy 21 18 (.inl rfl) rfl (.inl rfl) (by kernel_rfl) rfl) ?_
      refine fcn (ob_3a 18 22 (Fact.agg (Con.nn l (q / (Nat.gcd p q)))) (Fact.agg (Con.nn l (q % (Nat.gcd p q)))) (fI 0) rfl rfl (.inl rfl) (by kernel_rfl) rfl rfl) ?_
      refine fcn (ob_3b 18 23 (Fact.agg (Con.nn l (q / (Nat.gcd p q)))) (Fact.agg (Con.nn l (q % (Nat.gcd p q)))) (fI 0) rfl rfl (.inl rfl) (by kernel_rfl) rfl rfl) ?_
      refine fcn (ob_3c 18 24 (Fact.agg (Con.nn l (q / (Nat.gcd p q)))) (Fact.agg (Con.nn l (q % (Nat.gcd p q)))) (fI 0) rfl rfl (.inl rfl) (by kernel_rfl) rfl rfl) ?_
      exact fnl
    intro a6 w6 st6 hbr6 hfr
    have hs6 := hbr6.size
    have hb := up hb hbr6
    have st : St 34 [(0, fF), (4, Fact.cell b4 (Con.nn k (p / (Nat.gcd p q)))), (5, Fact.cell b5 (Con.nn l q)), (6, Fact.cell b6 (Con.raw 3)), (22, Fact.agg (Con.nn l (q / (Nat.gcd p q))))] a6 w6 := st6.to (fcs ⟨st6.at_ 0, fcs ⟨st6.at_ 4, fcs ⟨st6.at_ 5, fcs ⟨st6.at_ 6, fcs ⟨st6.at_ 22, fnl⟩⟩⟩⟩⟩)
    clear st6 hbr6 hfr
    refine sym_store st 24 5 22 b5 (Con.nn l q) (Con.nn l (q / (Nat.gcd p q))) [(0, fF), (4, Fact.cell b4 (Con.nn k (p / (Nat.gcd p q)))), (5, Fact.cell b5 (Con.nn l (q / (Nat.gcd p q)))), (6, Fact.cell b6 (Con.raw 3))] rfl rfl rfl rfl rfl rfl info24 ?_ ?_
    · exact fcs ⟨.inr ⟨rfl, safe_eq _ _⟩, fcs ⟨.inr ⟨rfl, safe_cell _ (by omega)⟩, fcs ⟨.inl rfl, fcs ⟨.inr ⟨rfl, safe_cell _ (by omega)⟩, fnl⟩⟩⟩⟩
    clear st; intro w7 hB hsz7 st
    have hb := hB _ _ hb (by omega) (by omega)
    clear hB
    refine wpList_nil ?_
    refine then_normal ?_
    refine wp_seq ?_
    refine sym_region st [(25, fF), (26, fF), (27, Fact.eq undef), (28, Fact.eq undef), (29, Fact.eq undef), (30, fF), (31, Fact.agg (Con.nn k (p / (Nat.gcd p q)))), (32, Fact.agg (Con.nn l (q / (Nat.gcd p q)))), (33, Fact.agg (Con.tri k l false (p / (Nat.gcd p q)) (q / (Nat.gcd p q))))] [] 9 (by kernel_rfl) (by kernel_rfl) (by kernel_rfl) (Nat.le_of_ble_eq_true rfl) (by kernel_rfl) rfl rfl ?_ ?_
    · refine fcn (ob_copy 0 25 (.inl rfl) rfl (.inl rfl) (by kernel_rfl) rfl) ?_
      refine fcn (ob_copy 25 26 (.inl rfl) rfl (.inl rfl) (by kernel_rfl) rfl) ?_
      refine fcn (ob_skip 1 26 27 true rfl rfl (by kernel_rfl) (by decide) rfl rfl rfl) ?_
      refine fcn (ob_skip 1 26 28 true rfl rfl (by kernel_rfl) (by decide) rfl rfl rfl) ?_
      refine fcn (ob_skip 1 26 29 true rfl rfl (by kernel_rfl) (by decide) rfl rfl rfl) ?_
      refine fcn (ob_pick_no 26 29 30 (.bool false) rfl rfl (.inl rfl) (by kernel_rfl) rfl rfl) ?_
      refine fcn (ob_read 24 4 31 (Con.nn k (p / (Nat.gcd p q))) rfl rfl (.inl rfl) (by kernel_rfl) points_cell rfl row24 info24) ?_
      refine fcn (ob_read 24 5 32 (Con.nn l (q / (Nat.gcd p q))) rfl rfl (.inl rfl) (by kernel_rfl) points_cell rfl row24 info24) ?_
      refine fcn (ob_buildtri 30 31 32 33 k l (p / (Nat.gcd p q)) (q / (Nat.gcd p q)) false rfl rfl (.inl rfl) (by kernel_rfl) (by kernel_rfl) (by kernel_rfl) rfl rfl rfl rfl) ?_
      exact fnl
    intro a8 w8 st8 hbr8 hfr
    have hs8 := hbr8.size
    have hb := up hb hbr8
    have st : St 34 [(6, Fact.cell b6 (Con.raw 3)), (33, Fact.agg (Con.tri k l false (p / (Nat.gcd p q)) (q / (Nat.gcd p q))))] a8 w8 := st8.to (fcs ⟨st8.at_ 6, fcs ⟨st8.at_ 33, fnl⟩⟩)
    clear st8 hbr8 hfr
    refine sym_store st 26 6 33 b6 (Con.raw 3) (Con.tri k l false (p / (Nat.gcd p q)) (q / (Nat.gcd p q))) [(6, Fact.cell b6 (Con.tri k l false (p / (Nat.gcd p q)) (q / (Nat.gcd p q))))] rfl rfl rfl rfl rfl rfl info26 ?_ ?_
    · exact fcs ⟨.inl rfl, fnl⟩
    clear st; intro w9 hB hsz9 st
    have hb := hB _ _ hb (by omega) (by omega)
    clear hB
    refine wpList_nil ?_
    refine then_normal ?_
    refine wp_ret ?_
    exact sym_ret1 rfl st.defers (resAt_cell st 6 b6 26 (Con.tri k l false (p / (Nat.gcd p q)) (q / (Nat.gcd p q))) rfl row26 info26) hb (fun _ h => Fact.tri_fr h hq (rfl) rfl rfl rfl hkr hlr)
  | true =>
    refine sym_calls 34 [(0, fT), (1, Fact.agg (Con.nn k p)), (2, Fact.agg (Con.nn l q))] Tryz.func40 rfl rfl (Nat.le_of_ble_eq_true rfl) (fcs ⟨⟨Nat.le_of_ble_eq_true rfl, hv0⟩, fcs ⟨⟨Nat.le_of_ble_eq_true rfl, hv1⟩, fcs ⟨⟨Nat.le_of_ble_eq_true rfl, hv2⟩, fnl⟩⟩⟩) fun a st => ?_
    have hb := Below.refl w.heap.size w
    refine wp_seq ?_
    refine sym_region st [(4, Fact.var' (Con.nn k p)), (5, Fact.var' (Con.nn l q)), (6, Fact.var' (Con.raw 3))] [4, 5, 6] 3 (by kernel_rfl) (by kernel_rfl) (by kernel_rfl) (Nat.le_of_ble_eq_true rfl) (by kernel_rfl) rfl rfl ?_ ?_
    · refine fcs ⟨obn_box 24 1 4 _ (Con.nn k p) rfl rfl rfl (by kernel_rfl) rfl rfl, ?_⟩
      refine fcs ⟨obn_box 24 2 5 _ (Con.nn l q) rfl rfl rfl (by kernel_rfl) rfl rfl, ?_⟩
      refine fcs ⟨obn_new 26 6 _ [.bool false, .slice none 0 0, .slice none 0 0] rfl rfl rfl rfl rfl alloc26, ?_⟩
      exact fnl
    intro a1 w1 st1 hbr1 hfr
    have hs1 := hbr1.size
    have hb := up hb hbr1
    obtain ⟨b4, c4⟩ := (show (Fact.var' (Con.nn k p)).holds _ _ from st1.at_ 4)
    have g4 := hfr.ge (s := 4) rfl c4.1
    obtain ⟨b5, c5⟩ := (show (Fact.var' (Con.nn l q)).holds _ _ from st1.at_ 5)
    have g5 := hfr.ge (s := 5) rfl c5.1
    obtain ⟨b6, c6⟩ := (show (Fact.var' (Con.raw 3)).holds _ _ from st1.at_ 6)
    have g6 := hfr.ge (s := 6) rfl c6.1
    have ne4_5 := hfr.apart (s := 4) (t := 5) rfl rfl (by decide) c4.1 c5.1
    have ne4_6 := hfr.apart (s := 4) (t := 6) rfl rfl (by decide) c4.1 c6.1
    have ne5_6 := hfr.apart (s := 5) (t := 6) rfl rfl (by decide) c5.1 c6.1
    have st : St 34 [(0, fT), (4, Fact.cell b4 (Con.nn k p)), (5, Fact.cell b5 (Con.nn l q)), (6, Fact.cell b6 (Con.raw 3))] a1 w1 := st1.to (fcs ⟨st1.at_ 0, fcs ⟨c4, fcs ⟨c5, fcs ⟨c6, fnl⟩⟩⟩⟩)
    clear st1 hbr1 hfr c4 c5 c6
    refine wpList_nil ?_
    refine then_normal ?_
    refine wp_seq ?_
    refine sym_region st [(8, Fact.agg (Con.nn k p)), (9, Fact.agg (Con.nn l q)), (10, Fact.agg (Con.nn l (Nat.gcd p q))), (7, Fact.var' (Con.raw 1))] [7] 4 (by kernel_rfl) (by kernel_rfl) (by kernel_rfl) (Nat.le_of_ble_eq_true rfl) (by kernel_rfl) rfl rfl ?_ ?_
    · refine fcn (ob_read 24 4 8 (Con.nn k p) rfl rfl (.inl rfl) (by kernel_rfl) points_cell rfl row24 info24) ?_
      refine fcn (ob_read 24 5 9 (Con.nn l q) rfl rfl (.inl rfl) (by kernel_rfl) points_cell rfl row24 info24) ?_
      refine fcn (ob_call2 75 8 9 10 _ rfl rfl (.inl rfl) (by kernel_rfl) (by kernel_rfl) (by kernel_rfl) (n_gcd k l p q hq (by omega))) ?_
      refine fcs ⟨obn_new 24 7 _ [.slice none 0 0] rfl rfl rfl rfl rfl alloc24, ?_⟩
      exact fnl
    intro a2 w2 st2 hbr2 hfr
    have hs2 := hbr2.size
    have hb := up hb hbr2
    obtain ⟨b7, c7⟩ := (show (Fact.var' (Con.raw 1)).holds _ _ from st2.at_ 7)
    have g7 := hfr.ge (s := 7) rfl c7.1
    have st : St 34 [(0, fT), (4, Fact.cell b4 (Con.nn k p)), (5, Fact.cell b5 (Con.nn l q)), (6, Fact.cell b6 (Con.raw 3)), (10, Fact.agg (Con.nn l (Nat.gcd p q))), (7, Fact.cell b7 (Con.raw 1))] a2 w2 := st2.to (fcs ⟨st2.at_ 0, fcs ⟨st2.at_ 4, fcs ⟨st2.at_ 5, fcs ⟨st2.at_ 6, fcs ⟨st2.at_ 10, fcs ⟨c7, fnl⟩⟩⟩⟩⟩⟩)
    clear st2 hbr2 hfr c7
    refine sym_store st 24 7 10 b7 (Con.raw 1) (Con.nn l (Nat.gcd p q)) [(0, fT), (4, Fact.cell b4 (Con.nn k p)), (5, Fact.cell b5 (Con.nn l q)), (6, Fact.cell b6 (Con.raw 3)), (7, Fact.cell b7 (Con.nn l (Nat.gcd p q)))] rfl rfl rfl rfl rfl rfl info24 ?_ ?_
    · exact fcs ⟨.inr ⟨rfl, safe_eq _ _⟩, fcs ⟨.inr ⟨rfl, safe_cell _ (by omega)⟩, fcs ⟨.inr ⟨rfl, safe_cell _ (by omega)⟩, fcs ⟨.inr ⟨rfl, safe_cell _ (by omega)⟩, fcs ⟨.inl rfl, fnl⟩⟩⟩⟩⟩
    clear st; intro w3 hB hsz3 st
    have hb := hB _ _ hb (by omega) (by omega)
    clear hB
    refine wpList_nil ?_
    refine then_normal ?_
    refine wp_seq ?_
    refine sym_region st [(12, Fact.agg (Con.nn k p)), (13, Fact.agg (Con.nn l (Nat.gcd p q))), (14, Fact.three (Fact.agg (Con.nn k (p / (Nat.gcd p q)))) (Fact.agg (Con.nn l (p % (Nat.gcd p q)))) (fI 0)), (11, Fact.three (Fact.agg (Con.nn k (p / (Nat.gcd p q)))) (Fact.agg (Con.nn l (p % (Nat.gcd p q)))) (fI 0)), (15, Fact.agg (Con.nn k (p / (Nat.gcd p q)))), (16, Fact.agg (Con.nn l (p % (Nat.gcd p q)))), (17, fI 0)] [] 7 (by kernel_rfl) (by kernel_rfl) (by kernel_rfl) (Nat.le_of_ble_eq_true rfl) (by kernel_rfl) rfl rfl ?_ ?_
    · refine fcn (ob_read 24 4 12 (Con.nn k p) rfl rfl (.inl rfl) (by kernel_rfl) points_cell rfl row24 info24) ?_
      refine fcn (ob_read 24 7 13 (Con.nn l (Nat.gcd p q)) rfl rfl (.inl rfl) (by kernel_rfl) points_cell rfl row24 info24) ?_
      refine fcn (ob_call2 60 12 13 14 _ rfl rfl (.inl rfl) (by kernel_rfl) (by kernel_rfl) (by kernel_rfl) (n_divMod k l p (Nat.gcd p q) (Nat.ne_of_gt (Rt.gcd_pos hq)) (by omega) (by omega))) ?_
      refine fcn (ob_copy 14 11 (.inl rfl) rfl (.inl rfl) (by kernel_rfl) rfl) ?_
      refine fcn (ob_3a 11 15 (Fact.agg (Con.nn k (p / (Nat.gcd p q)))) (Fact.agg (Con.nn l (p % (Nat.gcd p q)))) (fI 0) rfl rfl (.inl rfl) (by kernel_rfl) rfl rfl) ?_
      refine fcn (ob_3b 11 16 (Fact.agg (Con.nn k (p / (Nat.gcd p q)))) (Fact.agg (Con.nn l (p % (Nat.gcd p q)))) (fI 0) rfl rfl (.inl rfl) (by kernel_rfl) rfl rfl) ?_
      refine fcn (ob_3c 11 17 (Fact.agg (Con.nn k (p / (Nat.gcd p q)))) (Fact.agg (Con.nn l (p % (Nat.gcd p q)))) (fI 0) rfl rfl (.inl rfl) (by kernel_rfl) rfl rfl) ?_
      exact fnl
    intro a4 w4 st4 hbr4 hfr
    have hs4 := hbr4.size
    have hb := up hb hbr4
    have st : St 34 [(0, fT), (4, Fact.cell b4 (Con.nn k p)), (5, Fact.cell b5 (Con.nn l q)), (6, Fact.cell b6 (Con.raw 3)), (7, Fact.cell b7 (Con.nn l (Nat.gcd p q))), (15, Fact.agg (Con.nn k (p / (Nat.gcd p q))))] a4 w4 := st4.to (fcs ⟨st4.at_ 0, fcs ⟨st4.at_ 4, fcs ⟨st4.at_ 5, fcs ⟨st4.at_ 6, fcs ⟨st4.at_ 7, fcs ⟨st4.at_ 15, fnl⟩⟩⟩⟩⟩⟩)
    clear st4 hbr4 hfr
    refine sym_store st 24 4 15 b4 (Con.nn k p) (Con.nn k (p / (Nat.gcd p q))) [(0, fT), (4, Fact.cell b4 (Con.nn k (p / (Nat.gcd p q)))), (5, Fact.cell b5 (Con.nn l q)), (6, Fact.cell b6 (Con.raw 3)), (7, Fact.cell b7 (Con.nn l (Nat.gcd p q)))] rfl rfl rfl rfl rfl rfl info24 ?_ ?_
    · exact fcs ⟨.inr ⟨rfl, safe_eq _ _⟩, fcs ⟨.inl rfl, fcs ⟨.inr ⟨rfl, safe_cell _ (by omega)⟩, fcs ⟨.inr ⟨rfl, safe_cell _ (by omega)⟩, fcs ⟨.inr ⟨rfl, safe_cell _ (by omega)⟩, fnl⟩⟩⟩⟩⟩
    clear st; intro w5 hB hsz5 st
    have hb := hB _ _ hb (by omega) (by omega)
    clear hB
    refine wpList_nil ?_
    refine then_normal ?_
    refine wp_seq ?_
    refine sym_region st [(19, Fact.agg (Con.nn l q)), (20, Fact.agg (Con.nn l (Nat.gcd p q))), (21, Fact.three (Fact.agg (Con.nn l (q / (Nat.gcd p q)))) (Fact.agg (Con.nn l (q % (Nat.gcd p q)))) (fI 0)), (18, Fact.three (Fact.agg (Con.nn l (q / (Nat.gcd p q)))) (Fact.agg (Con.nn l (q % (Nat.gcd p q)))) (fI 0)), (22, Fact.agg (Con.nn l (q / (Nat.gcd p q)))), (23, Fact.agg (Con.nn l (q % (Nat.gcd p q)))), (24, fI 0)] [] 7 (by kernel_rfl) (by kernel_rfl) (by kernel_rfl) (Nat.le_of_ble_eq_true rfl) (by kernel_rfl) rfl rfl ?_ ?_
    · refine fcn (ob_read 24 5 19 (Con.nn l q) rfl rfl (.inl rfl) (by kernel_rfl) points_cell rfl row24 info24) ?_
      refine fcn (ob_read 24 7 20 (Con.nn l (Nat.gcd p q)) rfl rfl (.inl rfl) (by kernel_rfl) points_cell rfl row24 info24) ?_
      refine fcn (ob_call2 60 19 20 21 _ rfl rfl (.inl rfl) (by kernel_rfl) (by kernel_rfl) (by kernel_rfl) (n_divMod l l q (Nat.gcd p q) (Nat.ne_of_gt (Rt.gcd_pos hq)) (by omega) (by omega))) ?_
      refine fcn (ob_copy 21 18 (.inl rfl) rfl (.inl rfl) (by kernel_rfl) rfl) ?_
      refine fcn (ob_3a 18 22 (Fact.agg (Con.nn l (q / (Nat.gcd p q)))) (Fact.agg (Con.nn l (q % (Nat.gcd p q)))) (fI 0) rfl rfl (.inl rfl) (by kernel_rfl) rfl rfl) ?_
      refine fcn (ob_3b 18 23 (Fact.agg (Con.nn l (q / (Nat.gcd p q)))) (Fact.agg (Con.nn l (q % (Nat.gcd p q)))) (fI 0) rfl rfl (.inl rfl) (by kernel_rfl) rfl rfl) ?_
      refine fcn (ob_3c 18 24 (Fact.agg (Con.nn l (q / (Nat.gcd p q)))) (Fact.agg (Con.nn l (q % (Nat.gcd p q)))) (fI 0) rfl rfl (.inl rfl) (by kernel_rfl) rfl rfl) ?_
      exact fnl
    intro a6 w6 st6 hbr6 hfr
    have hs6 := hbr6.size
    have hb := up hb hbr6
    have st : St 34 [(0, fT), (4, Fact.cell b4 (Con.nn k (p / (Nat.gcd p q)))), (5, Fact.cell b5 (Con.nn l q)), (6, Fact.cell b6 (Con.raw 3)), (22, Fact.agg (Con.nn l (q / (Nat.gcd p q))))] a6 w6 := st6.to (fcs ⟨st6.at_ 0, fcs ⟨st6.at_ 4, fcs ⟨st6.at_ 5, fcs ⟨st6.at_ 6, fcs ⟨st6.at_ 22, fnl⟩⟩⟩⟩⟩)
    clear st6 hbr6 hfr
    refine sym_store st 24 5 22 b5 (Con.nn l q) (Con.nn l (q / (Nat.gcd p q))) [(0, fT), (4, Fact.cell b4 (Con.nn k (p / (Nat.gcd p q)))), (5, Fact.cell b5 (Con.nn l (q / (Nat.gcd p q)))), (6, Fact.cell b6 (Con.raw 3))] rfl rfl rfl rfl rfl rfl info24 ?_ ?_
    · exact fcs ⟨.inr ⟨rfl, safe_eq _ _⟩, fcs ⟨.inr ⟨rfl, safe_cell _ (by omega)⟩, fcs ⟨.inl rfl, fcs ⟨.inr ⟨rfl, safe_cell _ (by omega)⟩, fnl⟩⟩⟩⟩
    clear st; intro w7 hB hsz7 st
    have hb := hB _ _ hb (by omega) (by omega)
    clear hB
    refine wpList_nil ?_
    refine then_normal ?_
    refine wp_seq ?_
    refine sym_region st [(25, fT), (26, fT), (27, Fact.agg (Con.nn k (p / (Nat.gcd p q)))), (28, Fact.eq (.bool (decide (p / (Nat.gcd p q) = 0)))), (29, Fact.eq (.bool (!(decide (p / (Nat.gcd p q) = 0))))), (30, Fact.eq (.bool (!(decide (p / (Nat.gcd p q) = 0))))), (31, Fact.agg (Con.nn k (p / (Nat.gcd p q)))), (32, Fact.agg (Con.nn l (q / (Nat.gcd p q)))), (33, Fact.agg (Con.tri k l (!(decide (p / (Nat.gcd p q) = 0))) (p / (Nat.gcd p q)) (q / (Nat.gcd p q))))] [] 9 (by kernel_rfl) (by kernel_rfl) (by kernel_rfl) (Nat.le_of_ble_eq_true rfl) (by kernel_rfl) rfl rfl ?_ ?_
    · refine fcn (ob_copy 0 25 (.inl rfl) rfl (.inl rfl) (by kernel_rfl) rfl) ?_
      refine fcn (ob_copy 25 26 (.inl rfl) rfl (.inl rfl) (by kernel_rfl) rfl) ?_
      refine fcn (ob_read 24 4 27 (Con.nn k (p / (Nat.gcd p q))) rfl rfl (.inr ⟨_, _, _, rfl, rfl, by kernel_rfl, by decide, rfl⟩) (by kernel_rfl) points_cell rfl row24 info24) ?_
      refine fcn (ob_call1 48 27 28 _ rfl rfl (.inr ⟨_, _, _, rfl, rfl, by kernel_rfl, by decide, rfl⟩) (by kernel_rfl) (by kernel_rfl) (q_isZero k (p / (Nat.gcd p q)) (decide (p / (Nat.gcd p q) = 0)) rfl)) ?_
      refine fcn (ob_not 28 29 (decide (p / (Nat.gcd p q) = 0)) (!(decide (p / (Nat.gcd p q) = 0))) rfl rfl rfl (.inr ⟨_, _, _, rfl, rfl, by kernel_rfl, by decide, rfl⟩) (by kernel_rfl) rfl rfl) ?_
      refine fcn (ob_pick 26 29 30 _ rfl rfl (.inl rfl) (by kernel_rfl) (by kernel_rfl) rfl rfl) ?_
      refine fcn (ob_read 24 4 31 (Con.nn k (p / (Nat.gcd p q))) rfl rfl (.inl rfl) (by kernel_rfl) points_cell rfl row24 info24) ?_
      refine fcn (ob_read 24 5 32 (Con.nn l (q / (Nat.gcd p q))) rfl rfl (.inl rfl) (by kernel_rfl) points_cell rfl row24 info24) ?_
      refine fcn (ob_buildtri 30 31 32 33 k l (p / (Nat.gcd p q)) (q / (Nat.gcd p q)) (!(decide (p / (Nat.gcd p q) = 0))) rfl rfl (.inl rfl) (by kernel_rfl) (by kernel_rfl) (by kernel_rfl) rfl rfl rfl rfl) ?_
      exact fnl
    intro a8 w8 st8 hbr8 hfr
    have hs8 := hbr8.size
    have hb := up hb hbr8
    have st : St 34 [(6, Fact.cell b6 (Con.raw 3)), (33, Fact.agg (Con.tri k l (!(decide (p / (Nat.gcd p q) = 0))) (p / (Nat.gcd p q)) (q / (Nat.gcd p q))))] a8 w8 := st8.to (fcs ⟨st8.at_ 6, fcs ⟨st8.at_ 33, fnl⟩⟩)
    clear st8 hbr8 hfr
    refine sym_store st 26 6 33 b6 (Con.raw 3) (Con.tri k l (!(decide (p / (Nat.gcd p q) = 0))) (p / (Nat.gcd p q)) (q / (Nat.gcd p q))) [(6, Fact.cell b6 (Con.tri k l (!(decide (p / (Nat.gcd p q) = 0))) (p / (Nat.gcd p q)) (q / (Nat.gcd p q))))] rfl rfl rfl rfl rfl rfl info26 ?_ ?_
    · exact fcs ⟨.inl rfl, fnl⟩
    clear st; intro w9 hB hsz9 st
    have hb := hB _ _ hb (by omega) (by omega)
    clear hB
    refine wpList_nil ?_
    refine then_normal ?_
    refine wp_ret ?_
    exact sym_ret1 rfl st.defers (resAt_cell st 6 b6 26 (Con.tri k l (!(decide (p / (Nat.gcd p q) = 0))) (p / (Nat.gcd p q)) (q / (Nat.gcd p q))) rfl row26 info26) hb (fun _ h => Fact.tri_fr h hq (by simp [Rt.div_gcd_zero hq]) rfl rfl rfl hkr hlr)
end Go.Proofs.YtjfehdkfogdpgaaGreatDoor
namespace Go.Proofs.YtjfehdkfogdpgaaGreatDoor
open Go.RowKit
def Fact.natsAt (g k : Nat) (ns : List Nat) : Fact := ⟨fun v w => ∃ c, v = .slice (some ⟨g, 0, none⟩) ns.length c ∧ ∀ i n, ns[i]? = some n → Lies w g i (Con.nn k n), fun _ _ _ ⟨c, h, hl⟩ hb => ⟨c, h, fun i n hn => (hl i n hn).below hb⟩⟩
theorem safe_natsAt {b g k : Nat} {ns : List Nat} (hne : g ≠ b) : Safe b (Fact.natsAt g k ns) := fun _ _ vs hr ⟨c, h, hl⟩ => ⟨c, h, fun i n hn => (hl i n hn).other (hr.soft vs rfl) hne⟩
def prods (ns : List Nat) : Nat := ns.foldl (· * ·) 1
theorem prods_take (ns : List Nat) (j : Nat) (h : j < ns.length) : prods (ns.take (j + 1)) = prods (ns.take j) * ns[j] := by
  unfold prods
  rw [List.take_succ_eq_append_getElem h, List.foldl_append]; rfl
theorem index77 (w : World) (g n c j : Nat) (h : j < n) : (Instr.indexAt 77 (.slice (some ⟨g, 0, none⟩) n c) (.int .i64 (j : Int))).run Tryz.prog w = .ok (.pointer (some ⟨g, j, none⟩)) w := by
  go_simp
section
variable {ops : Array Oper} {Q : Exit → Act → World → Prop} {F : Nat → Fact} {base : List Nat} {N : Nat} {o : Oper}
theorem ob_len (t d n : Nat) (ty : TypeId) (ho : o.op = .call { callee := .builtin .len, args := #[.tmp t], argTypes := #[ty] }) (hsl : Tryz.prog.underlying ty = some (.slice (Tryz.prog.elem ty))) (hd : o.dst = some d) (hg : GuardOk ops F base N o) (hk : known ops base o t = true) (hv : ∀ v w, (F t).holds v w → ∃ A c, v = .slice A n c) (hF : F d = fI (n : Int)) : Ob ops Q F base N o :=
  ob_val hg fun a w hf => by
    obtain ⟨A, c, h2⟩ := hv _ _ (hf t hk)
    have h3 : a.eval (.tmp t) = .slice A n c := h2
    refine ⟨.int .i64 (n : Int), w, ?_, Below.refl _ _, fun x hx => by rw [hd] at hx; injection hx with hx; subst hx; rw [hF]; rfl⟩
    have hlen := run_len_slice w ty o.type A n c hsl
    simp [execOp, ho, resolve, h3, invoke, builtin, hlen]
    rfl
theorem len_natsAt {g k : Nat} {ns : List Nat} : ∀ v w, (Fact.natsAt g k ns).holds v w → ∃ A c, v = .slice A ns.length c := fun _ _ ⟨c, h, _⟩ => ⟨_, c, h⟩
theorem ob_indexNats (t u d g k j : Nat) (ns : List Nat) (hj : j < ns.length) (ho : o.op = .indexAddr 77 (.tmp t) (.tmp u)) (hd : o.dst = some d) (hg : GuardOk ops F base N o) (hk : known ops base o t = true) (hk2 : known ops base o u = true) (hv : F t = Fact.natsAt g k ns) (hv2 : F u = fI (j : Int)) (hF : F d = Fact.ptr (Con.nn k ns[j])) : Ob ops Q F base N o :=
  ob_val hg fun a w hf => by
    have h1 := hf t hk
    have h2 := hf u hk2
    rw [hv] at h1
    rw [hv2] at h2
    obtain ⟨c, h3, hl⟩ := h1
    have h3' : a.eval (.tmp t) = .slice (some ⟨g, 0, none⟩) ns.length c := h3
    have h2' : a.eval (.tmp u) = .int .i64 (j : Int) := h2
    refine ⟨.pointer (some ⟨g, j, none⟩), w, by simp [execOp, ho, h3', h2', index77 w g ns.length c j hj], Below.refl _ _, fun x hx => ?_⟩
    rw [hd] at hx; injection hx with hx; subst hx; rw [hF]
    exact ⟨g, j, rfl, hl j _ (List.getElem?_eq_getElem hj)⟩
theorem go_lss2 (k : IntKind) (b c : Int) (a : Act) (w : World) (t u : Nat) (ty ty' : TypeId) (o : Oper) (ho : o.op = .binOp .lss ty (.tmp t) (.tmp u) ty') (h1 : a.eval (.tmp t) = .int k b) (h2 : a.eval (.tmp u) = .int k c) :
    (execOp a.eval o).run Tryz.prog w = .ok (.value (.bool (decide (b < c)))) w := go_lss k b c a w (.tmp u) ty ty' o t ho h1 h2
theorem ob_lt2 (t u d : Nat) (k : IntKind) (ty ty' : TypeId) (x y : Int) (b : Bool) (hb : decide (x < y) = b) (ho : o.op = .binOp .lss ty (.tmp t) (.tmp u) ty') (hd : o.dst = some d) (hg : GuardOk ops F base N o) (hk : known ops base o t = true) (hk2 : known ops base o u = true) (hv : F t = Fact.eq (.int k x)) (hv2 : F u = Fact.eq (.int k y)) (hF : F d = Fact.eq (.bool b)) : Ob ops Q F base N o :=
  ob_two t u d _ _ _ hd hg hk hk2 hv hv2 hF fun a w h1 h2 => by
    subst hb
    exact go_lss2 k x y a w t u ty ty' o ho h1 h2
theorem ob_inc (t d : Nat) (ty ty' : TypeId) (j : Nat) (hj : j < 1000000000) (ho : o.op = .binOp .add ty (.tmp t) (.const (.int .i64 1)) ty') (hd : o.dst = some d) (hg : GuardOk ops F base N o) (hk : known ops base o t = true) (hv : F t = fI (j : Int)) (hF : F d = fI ((j + 1 : Nat) : Int)) : Ob ops Q F base N o :=
  ob_one t d _ _ hd hg hk hv hF fun a w h1 => by
    have h3 : a.eval (.const (.int .i64 1)) = .int .i64 1 := rfl
    have hw : IntKind.i64.wrap ((j : Int) + 1) = ((j + 1 : Nat) : Int) := by
      rw [show ((j + 1 : Nat) : Int) = (j : Int) + 1 from by omega]
      exact IntWalk.i64_in _ (by omega)
    simp [execOp, ho, h1, h3]
    go_simp
end
end Go.Proofs.YtjfehdkfogdpgaaGreatDoor
namespace Go.Proofs.YtjfehdkfogdpgaaGreatDoor
open Go.RowKit
set_option maxRecDepth 100000 in
theorem q_productAt (g k : Nat) (ns : List Nat) (hl : ns.length ≤ 100) (hk : k * ns.length + 1 ≤ 400) : ∀ v0 w, g < w.heap.size → (Fact.natsAt g k ns).holds v0 w → Calls Tryz.prog 38 #[v0] w (Ret (Fact.nn (k * ns.length + 1) (prods ns)) w) := by
  intro v0 w hgw hv0
  refine sym_calls 18 [(0, Fact.natsAt g k ns)] Tryz.func38 rfl rfl (Nat.le_of_ble_eq_true rfl) (fcs ⟨⟨Nat.le_of_ble_eq_true rfl, hv0⟩, fnl⟩) fun a st => ?_
  have hb := Below.refl w.heap.size w
  refine wp_seq ?_
  refine sym_region st [(2, Fact.var' (Con.raw 1))] [2] 1 (by kernel_rfl) (by kernel_rfl) (by kernel_rfl) (Nat.le_of_ble_eq_true rfl) (by kernel_rfl) rfl rfl ?_ ?_
  · refine fcs ⟨obn_new 24 2 _ [.slice none 0 0] rfl rfl rfl rfl rfl alloc24, ?_⟩
    exact fnl
  intro a1 w1 st1 hbr1 hfr
  have hs1 := hbr1.size
  have hb := up hb hbr1
  obtain ⟨b2, c2⟩ := (show (Fact.var' (Con.raw 1)).holds _ _ from st1.at_ 2)
  have g2 := hfr.ge (s := 2) rfl c2.1
  have st : St 18 [(0, Fact.natsAt g k ns), (2, Fact.cell b2 (Con.raw 1))] a1 w1 := st1.to (fcs ⟨st1.at_ 0, fcs ⟨c2, fnl⟩⟩)
  clear st1 hbr1 hfr c2
  refine wpList_nil ?_
  refine then_normal ?_
  refine wp_seq ?_
  refine sym_region st [(6, Fact.agg (Con.nn 1 1)), (3, Fact.var' (Con.raw 1))] [3] 2 (by kernel_rfl) (by kernel_rfl) (by kernel_rfl) (Nat.le_of_ble_eq_true rfl) (by kernel_rfl) rfl rfl ?_ ?_
  · refine fcn (ob_callc 61 _ 6 _ rfl rfl (.inl rfl) (by kernel_rfl) (n_of 1 1 (by decide) (by unfold Nm.Sz; decide) (by decide))) ?_
    refine fcs ⟨obn_new 24 3 _ [.slice none 0 0] rfl rfl rfl rfl rfl alloc24, ?_⟩
    exact fnl
  intro a2 w2 st2 hbr2 hfr
  have hs2 := hbr2.size
  have hb := up hb hbr2
  obtain ⟨b3, c3⟩ := (show (Fact.var' (Con.raw 1)).holds _ _ from st2.at_ 3)
  have g3 := hfr.ge (s := 3) rfl c3.1
  have st : St 18 [(0, Fact.natsAt g k ns), (2, Fact.cell b2 (Con.raw 1)), (6, Fact.agg (Con.nn 1 1)), (3, Fact.cell b3 (Con.raw 1))] a2 w2 := st2.to (fcs ⟨st2.at_ 0, fcs ⟨st2.at_ 2, fcs ⟨st2.at_ 6, fcs ⟨c3, fnl⟩⟩⟩⟩)
  clear st2 hbr2 hfr c3
  refine sym_store st 24 3 6 b3 (Con.raw 1) (Con.nn 1 1) [(0, Fact.natsAt g k ns), (2, Fact.cell b2 (Con.raw 1)), (3, Fact.cell b3 (Con.nn 1 1))] rfl rfl rfl rfl rfl rfl info24 ?_ ?_
  · exact fcs ⟨.inr ⟨rfl, safe_natsAt (by omega)⟩, fcs ⟨.inr ⟨rfl, safe_cell _ (by omega)⟩, fcs ⟨.inl rfl, fnl⟩⟩⟩
  clear st; intro w3 hB hsz3 st
  have hb := hB _ _ hb (by omega) (by omega)
  clear hB
  refine wpList_nil ?_
  refine then_normal ?_
  refine wp_seq ?_
  refine wp_seq ?_
  refine sym_region st [(7, Fact.natsAt g k ns), (8, fI (ns.length : Int)), (9, fI 0)] [] 3 (by kernel_rfl) (by kernel_rfl) (by kernel_rfl) (Nat.le_of_ble_eq_true rfl) (by kernel_rfl) rfl rfl ?_ ?_
  · refine fcn (ob_copy 0 7 (.inl rfl) rfl (.inl rfl) (by kernel_rfl) rfl) ?_
    refine fcn (ob_len 7 8 ns.length 77 rfl (by kernel_rfl) rfl (.inl rfl) (by kernel_rfl) len_natsAt rfl) ?_
    refine fcn (ob_const (.int .i64 0) 9 (.inl rfl) rfl (.inl rfl) rfl) ?_
    exact fnl
  intro a4 w4 st4 hbr4 hfr
  have hs4 := hbr4.size
  have hb := up hb hbr4
  have st : St 18 [(2, Fact.cell b2 (Con.raw 1)), (3, Fact.cell b3 (Con.nn 1 1)), (7, Fact.natsAt g k ns), (8, fI (ns.length : Int)), (9, fI 0)] a4 w4 := st4.to (fcs ⟨st4.at_ 2, fcs ⟨st4.at_ 3, fcs ⟨st4.at_ 7, fcs ⟨st4.at_ 8, fcs ⟨st4.at_ 9, fnl⟩⟩⟩⟩⟩)
  clear st4 hbr4 hfr
  refine wpList_nil ?_
  refine then_normal ?_
  refine wp_block ?_
  refine wp_loop_ghost (fun n a w0 => ∃ (j : Nat), (j ≤ ns.length) ∧ St 18 [(2, Fact.cell b2 (Con.raw 1)), (3, Fact.cell b3 (Con.nn (k * j + 1) (prods (ns.take j)))), (7, Fact.natsAt g k ns), (8, fI (ns.length : Int)), (9, fI (j : Int))] a w0 ∧ Below w.heap.size w w0 ∧ ns.length - j = n) (ns.length - 0) ⟨0, Nat.zero_le _, st.to (fcs ⟨st.at_ 2, fcs ⟨st.at_ 3, fcs ⟨st.at_ 7, fcs ⟨st.at_ 8, fcs ⟨st.at_ 9, fnl⟩⟩⟩⟩⟩), hb, rfl⟩ ?_
  clear st hb
  rintro n a w5 ⟨j, hjl, st, hb, rfl⟩
  have hs0 := hb.size
  have l2_5 := (show (Fact.cell b2 (Con.raw 1)).holds _ _ from st.at_ 2).2.1.lt
  have l3_5 := (show (Fact.cell b3 (Con.nn (k * j + 1) (prods (ns.take j)))).holds _ _ from st.at_ 3).2.1.lt
  refine wp_seq ?_
  refine sym_region st [(10, Fact.eq (.bool (decide ((j : Int) < (ns.length : Int)))))] [] 1 (by kernel_rfl) (by kernel_rfl) (by kernel_rfl) (Nat.le_of_ble_eq_true rfl) (by kernel_rfl) rfl rfl ?_ ?_
  · refine fcn (ob_lt2 9 8 10 .i64 _ _ (j : Int) (ns.length : Int) (decide ((j : Int) < (ns.length : Int))) rfl rfl rfl (.inl rfl) (by kernel_rfl) (by kernel_rfl) rfl rfl rfl) ?_
    exact fnl
  intro a6 w6 st6 hbr6 hfr
  have hs6 := hbr6.size
  have hb := up hb hbr6
  have st : St 18 [(2, Fact.cell b2 (Con.raw 1)), (3, Fact.cell b3 (Con.nn (k * j + 1) (prods (ns.take j)))), (7, Fact.natsAt g k ns), (8, fI (ns.length : Int)), (9, fI (j : Int)), (10, Fact.eq (.bool (decide ((j : Int) < (ns.length : Int)))))] a6 w6 := st6.to (fcs ⟨st6.at_ 2, fcs ⟨st6.at_ 3, fcs ⟨st6.at_ 7, fcs ⟨st6.at_ 8, fcs ⟨st6.at_ 9, fcs ⟨st6.at_ 10, fnl⟩⟩⟩⟩⟩⟩)
  clear st6 hbr6 hfr
  refine wpList_nil ?_
  refine then_normal ?_
  refine wp_seq ?_
  refine wp_cond_split (st.at_ 10) (fun hlt => ?_) (fun hlt => ?_)
  · skip
    have hj : j < ns.length := by have := of_decide_eq_true hlt; omega
    have hm : k * j + k ≤ k * ns.length := by rw [← Nat.mul_succ]; exact Nat.mul_le_mul_left k hj
    refine wp_skip ?_
    refine then_normal ?_
    refine wp_seq ?_
    refine wp_block ?_
    refine wp_seq ?_
    refine sym_region st [(11, Fact.ptr (Con.nn k (ns[j]))), (12, Fact.agg (Con.nn k (ns[j]))), (5, Fact.var' (Con.raw 1))] [5] 3 (by kernel_rfl) (by kernel_rfl) (by kernel_rfl) (Nat.le_of_ble_eq_true rfl) (by kernel_rfl) rfl rfl ?_ ?_
    · refine fcn (ob_indexNats 7 9 11 g k j ns hj rfl rfl (.inl rfl) (by kernel_rfl) (by kernel_rfl) rfl rfl rfl) ?_
      refine fcn (ob_read 24 11 12 (Con.nn k (ns[j])) rfl rfl (.inl rfl) (by kernel_rfl) points_ptr rfl row24 info24) ?_
      refine fcs ⟨obn_new 24 5 _ [.slice none 0 0] rfl rfl rfl rfl rfl alloc24, ?_⟩
      exact fnl
    intro a7 w7 st7 hbr7 hfr
    have hs7 := hbr7.size
    have hb := up hb hbr7
    obtain ⟨b5, c5⟩ := (show (Fact.var' (Con.raw 1)).holds _ _ from st7.at_ 5)
    have g5 := hfr.ge (s := 5) rfl c5.1
    have st : St 18 [(2, Fact.cell b2 (Con.raw 1)), (3, Fact.cell b3 (Con.nn (k * j + 1) (prods (ns.take j)))), (7, Fact.natsAt g k ns), (8, fI (ns.length : Int)), (9, fI (j : Int)), (12, Fact.agg (Con.nn k (ns[j]))), (5, Fact.cell b5 (Con.raw 1))] a7 w7 := st7.to (fcs ⟨st7.at_ 2, fcs ⟨st7.at_ 3, fcs ⟨st7.at_ 7, fcs ⟨st7.at_ 8, fcs ⟨st7.at_ 9, fcs ⟨st7.at_ 12, fcs ⟨c5, fnl⟩⟩⟩⟩⟩⟩⟩)
    clear st7 hbr7 hfr c5
    refine sym_store st 24 5 12 b5 (Con.raw 1) (Con.nn k (ns[j])) [(2, Fact.cell b2 (Con.raw 1)), (3, Fact.cell b3 (Con.nn (k * j + 1) (prods (ns.take j)))), (7, Fact.natsAt g k ns), (8, fI (ns.length : Int)), (9, fI (j : Int)), (5, Fact.cell b5 (Con.nn k (ns[j])))] rfl rfl rfl rfl rfl rfl info24 ?_ ?_
    · exact fcs ⟨.inr ⟨rfl, safe_cell _ (by omega)⟩, fcs ⟨.inr ⟨rfl, safe_cell _ (by omega)⟩, fcs ⟨.inr ⟨rfl, safe_natsAt (by omega)⟩, fcs ⟨.inr ⟨rfl, safe_eq _ _⟩, fcs ⟨.inr ⟨rfl, safe_eq _ _⟩, fcs ⟨.inl rfl, fnl⟩⟩⟩⟩⟩⟩
    clear st; intro w8 hB hsz8 st
    have hb := hB _ _ hb (by omega) (by omega)
    clear hB
    refine wpList_nil ?_
    refine then_normal ?_
    refine sym_region st [(13, Fact.agg (Con.nn (k * j + 1) (prods (ns.take j)))), (14, Fact.agg (Con.nn k (ns[j]))), (15, Fact.agg (Con.nn ((k * j + 1) + k) ((prods (ns.take j)) * (ns[j]))))] [] 3 (by kernel_rfl) (by kernel_rfl) (by kernel_rfl) (Nat.le_of_ble_eq_true rfl) (by kernel_rfl) rfl rfl ?_ ?_
    · refine fcn (ob_read 24 3 13 (Con.nn (k * j + 1) (prods (ns.take j))) rfl rfl (.inl rfl) (by kernel_rfl) points_cell rfl row24 info24) ?_
      refine fcn (ob_read 24 5 14 (Con.nn k (ns[j])) rfl rfl (.inl rfl) (by kernel_rfl) points_cell rfl row24 info24) ?_
      refine fcn (ob_call2 74 13 14 15 _ rfl rfl (.inl rfl) (by kernel_rfl) (by kernel_rfl) (by kernel_rfl) (n_mul (k * j + 1) k (prods (ns.take j)) (ns[j]) (by omega))) ?_
      exact fnl
    intro a9 w9 st9 hbr9 hfr
    have hs9 := hbr9.size
    have hb := up hb hbr9
    have st : St 18 [(2, Fact.cell b2 (Con.raw 1)), (3, Fact.cell b3 (Con.nn (k * j + 1) (prods (ns.take j)))), (7, Fact.natsAt g k ns), (8, fI (ns.length : Int)), (9, fI (j : Int)), (15, Fact.agg (Con.nn ((k * j + 1) + k) ((prods (ns.take j)) * (ns[j]))))] a9 w9 := st9.to (fcs ⟨st9.at_ 2, fcs ⟨st9.at_ 3, fcs ⟨st9.at_ 7, fcs ⟨st9.at_ 8, fcs ⟨st9.at_ 9, fcs ⟨st9.at_ 15, fnl⟩⟩⟩⟩⟩⟩)
    clear st9 hbr9 hfr
    refine sym_store st 24 3 15 b3 (Con.nn (k * j + 1) (prods (ns.take j))) (Con.nn ((k * j + 1) + k) ((prods (ns.take j)) * (ns[j]))) [(2, Fact.cell b2 (Con.raw 1)), (3, Fact.cell b3 (Con.nn ((k * j + 1) + k) ((prods (ns.take j)) * (ns[j])))), (7, Fact.natsAt g k ns), (8, fI (ns.length : Int)), (9, fI (j : Int))] rfl rfl rfl rfl rfl rfl info24 ?_ ?_
    · exact fcs ⟨.inr ⟨rfl, safe_cell _ (by omega)⟩, fcs ⟨.inl rfl, fcs ⟨.inr ⟨rfl, safe_natsAt (by omega)⟩, fcs ⟨.inr ⟨rfl, safe_eq _ _⟩, fcs ⟨.inr ⟨rfl, safe_eq _ _⟩, fnl⟩⟩⟩⟩⟩
    clear st; intro w10 hB hsz10 st
    have hb := hB _ _ hb (by omega) (by omega)
    clear hB
    refine wpList_nil ?_
    refine inBlock_normal ?_
    refine then_normal ?_
    refine wp_region_lit ?_
    refine sym_op st 16 (fI ((j + 1 : Nat) : Int)) rfl (Nat.le_of_ble_eq_true rfl) rfl rfl (by kernel_rfl) (ob_inc 9 16 _ _ j (by omega) rfl rfl (.inl rfl) (by kernel_rfl) rfl rfl) ?_
    clear st; intro a12 w12 hbr st; have hs12 := hbr.size; have hb := up hb hbr; clear hbr
    have st := st.to (ks' := [(2, Fact.cell b2 (Con.raw 1)), (3, Fact.cell b3 (Con.nn ((k * j + 1) + k) ((prods (ns.take j)) * (ns[j])))), (7, Fact.natsAt g k ns), (8, fI (ns.length : Int)), (16, fI ((j + 1 : Nat) : Int))]) (fcs ⟨st.at_ 2, fcs ⟨st.at_ 3, fcs ⟨st.at_ 7, fcs ⟨st.at_ 8, fcs ⟨st.at_ 16, fnl⟩⟩⟩⟩⟩)
    refine sym_op st 9 (fI ((j + 1 : Nat) : Int)) rfl (Nat.le_of_ble_eq_true rfl) rfl rfl (by kernel_rfl) (ob_copy 16 9 (.inl rfl) rfl (.inl rfl) (by kernel_rfl) rfl) ?_
    clear st; intro a13 w13 hbr st; have hs13 := hbr.size; have hb := up hb hbr; clear hbr
    refine wpList_nil ?_
    refine then_normal ⟨_, ?_, j + 1, hj, st.to (fcs ⟨st.at_ 2, fcs ⟨(show (Fact.cell b3 (Con.nn (k * (j + 1) + 1) (prods (ns.take (j + 1))))).holds _ _ by rw [prods_take ns j hj, show k * (j + 1) + 1 = k * j + 1 + k from by rw [Nat.mul_add]; omega]; exact st.at_ 3), fcs ⟨st.at_ 7, fcs ⟨st.at_ 8, fcs ⟨st.at_ 9, fnl⟩⟩⟩⟩⟩), hb, rfl⟩
    · omega
  · skip
    have hj : j = ns.length := by have := of_decide_eq_false hlt; omega
    refine wp_exit ?_
    refine then_exit ?_
    refine then_exit ?_
    refine inBlock_exit ?_
    refine then_normal ?_
    refine wp_seq ?_
    refine sym_region st [(17, Fact.agg (Con.nn (k * j + 1) (prods (ns.take j))))] [] 1 (by kernel_rfl) (by kernel_rfl) (by kernel_rfl) (Nat.le_of_ble_eq_true rfl) (by kernel_rfl) rfl rfl ?_ ?_
    · refine fcn (ob_read 24 3 17 (Con.nn (k * j + 1) (prods (ns.take j))) rfl rfl (.inl rfl) (by kernel_rfl) points_cell rfl row24 info24) ?_
      exact fnl
    intro a14 w14 st14 hbr14 hfr
    have hs14 := hbr14.size
    have hb := up hb hbr14
    have st : St 18 [(2, Fact.cell b2 (Con.raw 1)), (17, Fact.agg (Con.nn (k * j + 1) (prods (ns.take j))))] a14 w14 := st14.to (fcs ⟨st14.at_ 2, fcs ⟨st14.at_ 17, fnl⟩⟩)
    clear st14 hbr14 hfr
    refine sym_store st 24 2 17 b2 (Con.raw 1) (Con.nn (k * j + 1) (prods (ns.take j))) [(2, Fact.cell b2 (Con.nn (k * j + 1) (prods (ns.take j))))] rfl rfl rfl rfl rfl rfl info24 ?_ ?_
    · exact fcs ⟨.inl rfl, fnl⟩
    clear st; intro w15 hB hsz15 st
    have hb := hB _ _ hb (by omega) (by omega)
    clear hB
    refine wpList_nil ?_
    refine then_normal ?_
    refine wp_ret ?_
    exact sym_ret1 rfl st.defers (resAt_cell st 2 b2 24 (Con.nn (k * j + 1) (prods (ns.take j))) rfl row24 info24) hb (fun _ h => by rw [hj, List.take_length] at h; exact h)
theorem q_products (k : Nat) (ns : List Nat) (h0 : ns ≠ []) (hl : ns.length ≤ 100) (hk : k * ns.length + 1 ≤ 400) : ∀ v0 w, (Fact.nats k ns).holds v0 w → Calls Tryz.prog 38 #[v0] w (Ret (Fact.nn (k * ns.length + 1) (prods ns)) w) := by
  rintro v0 w ⟨g, c, rfl, h⟩
  have h1 : 0 < ns.length := List.length_pos_iff.2 h0
  exact q_productAt g k ns hl hk _ w (h 0 _ (List.getElem?_eq_getElem h1)).lt ⟨c, rfl, h⟩
theorem q_product (k p q : Nat) (hk : k * 2 + 1 ≤ 400) : ∀ v0 w, (Fact.nats k [p, q]).holds v0 w → Calls Tryz.prog 38 #[v0] w (Ret (Fact.nn (k + k) (p * q)) w) := by
  intro v0 w h
  obtain ⟨g, c, rfl, h'⟩ := h
  have z : Nm.Sz (k + k) (p * q) := by
    obtain ⟨_, _, _, _, _, _, _, zp⟩ := (h' 0 p rfl)
    obtain ⟨_, _, _, _, _, _, _, zq⟩ := (h' 1 q rfl)
    exact zp.mul zq
  refine (q_products k [p, q] (by simp) (by simp) (by simpa using hk) _ w ⟨g, c, rfl, h'⟩).mono fun e w' h => h.to fun v hv => ?_
  have e1 : prods [p, q] = p * q := by simp [prods]
  rw [e1] at hv
  exact Fact.num_nn (Fact.nn_num hv).1 z
end Go.Proofs.YtjfehdkfogdpgaaGreatDoor
namespace Go.Proofs.YtjfehdkfogdpgaaGreatDoor
open Go.RowKit
set_option maxHeartbeats 400000 in
theorem clone_gen (A : Option Addr) (n c : Nat) (zs : List Nat) (w : World) (h : Rd w A zs) (hc : zs.length = n) (hm : zs.length ≤ 1000) (hnc : n ≤ c) :
    Calls Tryz.prog 49 #[.slice A n c] w fun e w' => ∃ A' c', e = .returned (.slice A' n c') ∧ n ≤ c' ∧ Fr w.heap.size w' A' zs ∧ Below w.heap.size w w' := by
  subst hc
  cases A with
  | none =>
    have hz : zs = [] := by
      rcases h with h | ⟨g, off, h, _⟩
      · exact h
      · cases h
    subst hz
    have hnil := Lib.run_eql_slice_nil (P := Tryz.prog) w 22 59 none 0 c 0 0 Tryz.underlying22
    go_enter Tryz.func49, Tryz.ntmps49
    go_wp2
    go_ret
    exact ⟨none, 0, rfl, Nat.le_refl _, Fr.nil _ _ _, Below.refl _ _⟩
  | some a =>
    have hnil := Lib.run_eql_slice_nil (P := Tryz.prog) w 22 59 (some a) zs.length c 0 0 Tryz.underlying22
    go_enter Tryz.func49, Tryz.ntmps49
    go_wp2_with (at_builtin
                 refine wpList_tight rfl (.tmp 5) (.tmp 6) rfl _ (some a) [] zs 0 c rfl rfl (Rd.nil _ _) rfl (h.alloc _) (by simp) (by omega) (.inr rfl) ?_
                 intro A' c' w' hc hf hb)
    go_ret
    exact ⟨A', c', by simp, by omega, (by simpa using hf : Fr _ _ _ zs).mono (by simp), up (one _ _) hb⟩
def Fact.rown (k p : Nat) : Fact := ⟨fun v w => ∃ A c, v = .slice A (Nm.nat p).length c ∧ Num w A (Nm.nat p).length c (Nm.nat p) ∧ Nm.Sz k p, fun _ _ _ ⟨A, c, h, hn, hz⟩ hb => ⟨A, c, h, hn.below hb, hz⟩⟩
theorem q_clone (k p : Nat) : ∀ v w, (Fact.rown k p).holds v w → Calls Tryz.prog 49 #[v] w (Ret (Fact.rown k p) w) := by
  rintro v w ⟨A, c, rfl, hn, hz⟩
  refine (clone_gen A _ c _ w hn.rd rfl (by have := hn.small; omega) hn.cap).mono fun e w' ⟨A', c', he, hc, hf, hb⟩ => ⟨_, he, hb, A', c', rfl, hf.num hc hn.dig hn.small, hz⟩
theorem load22 (w : World) (b o : Nat) (A : Option Addr) (n c : Nat) (h : w.cell? ⟨b, o, none⟩ = some (.slice A n c)) : (Instr.loadAt 22 (.pointer (some ⟨b, o, none⟩))).run Tryz.prog w = .ok (.slice A n c) w := by go_simp
theorem build24 (w : World) (A : Option Addr) (n c : Nat) : (Instr.build 24 #[(0, .slice A n c)]).run Tryz.prog w = .ok (.agg #[.slice A n c]) w := by go_simp
section
variable {ops : Array Oper} {Q : Exit → Act → World → Prop} {F : Nat → Fact} {base : List Nat} {N : Nat} {o : Oper}
theorem ob_loadrow (t d k p : Nat) (ho : o.op = .load 22 (.tmp t)) (hd : o.dst = some d) (hg : GuardOk ops F base N o) (hk : known ops base o t = true) (hv : Points (F t) (Con.nn k p)) (hF : F d = Fact.rown k p) : Ob ops Q F base N o :=
  ob_val hg fun a w hf => by
    obtain ⟨b, off, h2, _, cs, hc, A, c, rfl, hn, hz⟩ := hv _ _ (hf t hk)
    have h3 : a.eval (.tmp t) = .pointer (some ⟨b, off, none⟩) := h2
    have h4 := load22 w b off A _ c (by simpa using hc 0 _ rfl)
    refine ⟨.slice A (Nm.nat p).length c, w, by simp [execOp, ho, h3, h4], Below.refl _ _, fun s hs => ?_⟩
    rw [hd] at hs; injection hs with hs; subst hs; rw [hF]
    exact ⟨A, c, rfl, hn, hz⟩
theorem ob_buildnn (t d k p : Nat) (ho : o.op = .build 24 #[(0, .tmp t)]) (hd : o.dst = some d) (hg : GuardOk ops F base N o) (hk : known ops base o t = true) (hv : F t = Fact.rown k p) (hF : F d = Fact.agg (Con.nn k p)) : Ob ops Q F base N o :=
  ob_val hg fun a w hf => by
    have h1 := hf t hk
    rw [hv] at h1
    obtain ⟨A, c, h2, hn, hz⟩ := h1
    have h3 : a.eval (.tmp t) = .slice A (Nm.nat p).length c := h2
    refine ⟨.agg #[.slice A (Nm.nat p).length c], w, by simp [execOp, ho, h3, build24], Below.refl _ _, fun s hs => ?_⟩
    rw [hd] at hs; injection hs with hs; subst hs; rw [hF]
    exact ⟨[_], rfl, A, c, rfl, hn, hz⟩
end
theorem len_rown {k p : Nat} : ∀ v w, (Fact.rown k p).holds v w → ∃ A c, v = .slice A (Nm.nat p).length c := fun _ _ ⟨A, c, h, _⟩ => ⟨A, c, h⟩
end Go.Proofs.YtjfehdkfogdpgaaGreatDoor
namespace Go.Proofs.YtjfehdkfogdpgaaGreatDoor
open Go.RowKit
set_option maxRecDepth 100000 in
theorem q_make (k l r : Nat) (s : Bool) (p q : Nat) (hq : q ≠ 0) (hkr : k ≤ r) (hlr : l ≤ r) (hr : r ≤ 400) : ∀ v0 v1 v2 w, (Fact.eq (.bool s)).holds v0 w → (Fact.agg (Con.nn k p)).holds v1 w → (Fact.agg (Con.nn l q)).holds v2 w → Calls Tryz.prog 51 #[v0, v1, v2] w (Ret (Fact.two (Fact.fr r (Rt.of s p q)) (fI 0)) w) := by
  intro v0 v1 v2 w hv0 hv1 hv2
  refine sym_calls 15 [(0, Fact.eq (.bool s)), (1, Fact.agg (Con.nn k p)), (2, Fact.agg (Con.nn l q))] Tryz.func51 rfl rfl (Nat.le_of_ble_eq_true rfl) (fcs ⟨⟨Nat.le_of_ble_eq_true rfl, hv0⟩, fcs ⟨⟨Nat.le_of_ble_eq_true rfl, hv1⟩, fcs ⟨⟨Nat.le_of_ble_eq_true rfl, hv2⟩, fnl⟩⟩⟩) fun a st => ?_
  have hb := Below.refl w.heap.size w
  refine wp_seq ?_
  refine sym_region st [(4, Fact.var' (Con.nn k p)), (5, Fact.var' (Con.nn l q)), (6, Fact.var' (Con.raw 3)), (7, fI 0)] [4, 5, 6] 4 (by kernel_rfl) (by kernel_rfl) (by kernel_rfl) (Nat.le_of_ble_eq_true rfl) (by kernel_rfl) rfl rfl ?_ ?_
  · refine fcs ⟨obn_box 24 1 4 _ (Con.nn k p) rfl rfl rfl (by kernel_rfl) rfl rfl, ?_⟩
    refine fcs ⟨obn_box 24 2 5 _ (Con.nn l q) rfl rfl rfl (by kernel_rfl) rfl rfl, ?_⟩
    refine fcs ⟨obn_new 26 6 _ [.bool false, .slice none 0 0, .slice none 0 0] rfl rfl rfl rfl rfl alloc26, ?_⟩
    refine fcn (ob_const (.int .i64 0) 7 (.inr rfl) rfl (.inl rfl) rfl) ?_
    exact fnl
  intro a1 w1 st1 hbr1 hfr
  have hs1 := hbr1.size
  have hb := up hb hbr1
  obtain ⟨b4, c4⟩ := (show (Fact.var' (Con.nn k p)).holds _ _ from st1.at_ 4)
  have g4 := hfr.ge (s := 4) rfl c4.1
  obtain ⟨b5, c5⟩ := (show (Fact.var' (Con.nn l q)).holds _ _ from st1.at_ 5)
  have g5 := hfr.ge (s := 5) rfl c5.1
  obtain ⟨b6, c6⟩ := (show (Fact.var' (Con.raw 3)).holds _ _ from st1.at_ 6)
  have g6 := hfr.ge (s := 6) rfl c6.1
  have ne4_5 := hfr.apart (s := 4) (t := 5) rfl rfl (by decide) c4.1 c5.1
  have ne4_6 := hfr.apart (s := 4) (t := 6) rfl rfl (by decide) c4.1 c6.1
  have ne5_6 := hfr.apart (s := 5) (t := 6) rfl rfl (by decide) c5.1 c6.1
  have st : St 15 [(0, Fact.eq (.bool s)), (4, Fact.cell b4 (Con.nn k p)), (5, Fact.cell b5 (Con.nn l q)), (6, Fact.cell b6 (Con.raw 3)), (7, fI 0)] a1 w1 := st1.to (fcs ⟨st1.at_ 0, fcs ⟨c4, fcs ⟨c5, fcs ⟨c6, fcs ⟨st1.at_ 7, fnl⟩⟩⟩⟩⟩)
  clear st1 hbr1 hfr c4 c5 c6
  refine wpList_nil ?_
  refine then_normal ?_
  refine wp_seq ?_
  refine wp_seq ?_
  refine sym_region st [(8, Fact.agg (Con.nn l q)), (9, fF)] [] 2 (by kernel_rfl) (by kernel_rfl) (by kernel_rfl) (Nat.le_of_ble_eq_true rfl) (by kernel_rfl) rfl rfl ?_ ?_
  · refine fcn (ob_read 24 5 8 (Con.nn l q) rfl rfl (.inl rfl) (by kernel_rfl) points_cell rfl row24 info24) ?_
    refine fcn (ob_call1 48 8 9 _ rfl rfl (.inl rfl) (by kernel_rfl) (by kernel_rfl) (q_isZero l q false (decide_eq_false hq))) ?_
    exact fnl
  intro a2 w2 st2 hbr2 hfr
  have hs2 := hbr2.size
  have hb := up hb hbr2
  have st : St 15 [(0, Fact.eq (.bool s)), (4, Fact.cell b4 (Con.nn k p)), (5, Fact.cell b5 (Con.nn l q)), (6, Fact.cell b6 (Con.raw 3)), (7, fI 0), (9, fF)] a2 w2 := st2.to (fcs ⟨st2.at_ 0, fcs ⟨st2.at_ 4, fcs ⟨st2.at_ 5, fcs ⟨st2.at_ 6, fcs ⟨st2.at_ 7, fcs ⟨st2.at_ 9, fnl⟩⟩⟩⟩⟩⟩)
  clear st2 hbr2 hfr
  refine wpList_nil ?_
  refine then_normal ?_
  refine wp_cond_false (st.at_ 9) ?_
  refine wp_skip ?_
  refine then_normal ?_
  refine wp_seq ?_
  have st := st.to (ks' := [(0, Fact.eq (.bool s)), (4, Fact.cell b4 (Con.nn k p)), (5, Fact.cell b5 (Con.nn l q)), (6, Fact.cell b6 (Con.raw 3)), (9, fF)]) (fcs ⟨st.at_ 0, fcs ⟨st.at_ 4, fcs ⟨st.at_ 5, fcs ⟨st.at_ 6, fcs ⟨st.at_ 9, fnl⟩⟩⟩⟩⟩)
  refine sym_region st [(11, Fact.eq (.bool s)), (12, Fact.agg (Con.nn k p)), (13, Fact.agg (Con.nn l q)), (14, Fact.agg (Con.fr (max k l) (Rt.of s p q)))] [] 4 (by kernel_rfl) (by kernel_rfl) (by kernel_rfl) (Nat.le_of_ble_eq_true rfl) (by kernel_rfl) rfl rfl ?_ ?_
  · refine fcn (ob_copy 0 11 (.inl rfl) rfl (.inl rfl) (by kernel_rfl) rfl) ?_
    refine fcn (ob_read 24 4 12 (Con.nn k p) rfl rfl (.inl rfl) (by kernel_rfl) points_cell rfl row24 info24) ?_
    refine fcn (ob_read 24 5 13 (Con.nn l q) rfl rfl (.inl rfl) (by kernel_rfl) points_cell rfl row24 info24) ?_
    refine fcn (ob_call3 40 11 12 13 14 _ rfl rfl (.inl rfl) (by kernel_rfl) (by kernel_rfl) (by kernel_rfl) (by kernel_rfl) (q_reduced k l (max k l) s p q hq (by omega) (by omega) (by omega))) ?_
    exact fnl
  intro a3 w3 st3 hbr3 hfr
  have hs3 := hbr3.size
  have hb := up hb hbr3
  have st : St 15 [(6, Fact.cell b6 (Con.raw 3)), (14, Fact.agg (Con.fr (max k l) (Rt.of s p q)))] a3 w3 := st3.to (fcs ⟨st3.at_ 6, fcs ⟨st3.at_ 14, fnl⟩⟩)
  clear st3 hbr3 hfr
  refine sym_store st 26 6 14 b6 (Con.raw 3) (Con.fr (max k l) (Rt.of s p q)) [(6, Fact.cell b6 (Con.fr (max k l) (Rt.of s p q)))] rfl rfl rfl rfl rfl rfl info26 ?_ ?_
  · exact fcs ⟨.inl rfl, fnl⟩
  clear st; intro w4 hB hsz4 st
  have hb := hB _ _ hb (by omega) (by omega)
  clear hB
  refine sym_op st 7 (fI 0) rfl (Nat.le_of_ble_eq_true rfl) rfl rfl (by kernel_rfl) (ob_const (.int .i64 0) 7 (.inr rfl) rfl (.inl rfl) rfl) ?_
  clear st; intro a5 w5 hbr st; have hs5 := hbr.size; have hb := up hb hbr; clear hbr
  refine wpList_nil ?_
  refine then_normal ?_
  refine wp_ret ?_
  exact sym_ret2 rfl st.defers (resAt_cell st 6 b6 26 (Con.fr (max k l) (Rt.of s p q)) rfl row26 info26) (resAt_tmp st 7) hb (fun v u h1 h2 => ⟨v, u, rfl, Fact.fr_up h1 (by omega), h2⟩)
set_option maxRecDepth 100000 in
theorem q_make0 (k l : Nat) (s : Bool) (p q : Nat) (hq : q = 0) : ∀ v0 v1 v2 w, (Fact.eq (.bool s)).holds v0 w → (Fact.agg (Con.nn k p)).holds v1 w → (Fact.agg (Con.nn l q)).holds v2 w → Calls Tryz.prog 51 #[v0, v1, v2] w (Ret (Fact.two (Fact.agg (Con.tri 1 1 false 0 0)) (fI 8)) w) := by
  intro v0 v1 v2 w hv0 hv1 hv2
  refine sym_calls 15 [(0, Fact.eq (.bool s)), (1, Fact.agg (Con.nn k p)), (2, Fact.agg (Con.nn l q))] Tryz.func51 rfl rfl (Nat.le_of_ble_eq_true rfl) (fcs ⟨⟨Nat.le_of_ble_eq_true rfl, hv0⟩, fcs ⟨⟨Nat.le_of_ble_eq_true rfl, hv1⟩, fcs ⟨⟨Nat.le_of_ble_eq_true rfl, hv2⟩, fnl⟩⟩⟩) fun a st => ?_
  have hb := Below.refl w.heap.size w
  refine wp_seq ?_
  refine sym_region st [(4, Fact.var' (Con.nn k p)), (5, Fact.var' (Con.nn l q)), (6, Fact.var' (Con.raw 3)), (7, fI 0)] [4, 5, 6] 4 (by kernel_rfl) (by kernel_rfl) (by kernel_rfl) (Nat.le_of_ble_eq_true rfl) (by kernel_rfl) rfl rfl ?_ ?_
  · refine fcs ⟨obn_box 24 1 4 _ (Con.nn k p) rfl rfl rfl (by kernel_rfl) rfl rfl, ?_⟩
    refine fcs ⟨obn_box 24 2 5 _ (Con.nn l q) rfl rfl rfl (by kernel_rfl) rfl rfl, ?_⟩
    refine fcs ⟨obn_new 26 6 _ [.bool false, .slice none 0 0, .slice none 0 0] rfl rfl rfl rfl rfl alloc26, ?_⟩
    refine fcn (ob_const (.int .i64 0) 7 (.inr rfl) rfl (.inl rfl) rfl) ?_
    exact fnl
  intro a1 w1 st1 hbr1 hfr
  have hs1 := hbr1.size
  have hb := up hb hbr1
  obtain ⟨b4, c4⟩ := (show (Fact.var' (Con.nn k p)).holds _ _ from st1.at_ 4)
  have g4 := hfr.ge (s := 4) rfl c4.1
  obtain ⟨b5, c5⟩ := (show (Fact.var' (Con.nn l q)).holds _ _ from st1.at_ 5)
  have g5 := hfr.ge (s := 5) rfl c5.1
  obtain ⟨b6, c6⟩ := (show (Fact.var' (Con.raw 3)).holds _ _ from st1.at_ 6)
  have g6 := hfr.ge (s := 6) rfl c6.1
  have ne4_5 := hfr.apart (s := 4) (t := 5) rfl rfl (by decide) c4.1 c5.1
  have ne4_6 := hfr.apart (s := 4) (t := 6) rfl rfl (by decide) c4.1 c6.1
  have ne5_6 := hfr.apart (s := 5) (t := 6) rfl rfl (by decide) c5.1 c6.1
  have st : St 15 [(0, Fact.eq (.bool s)), (4, Fact.cell b4 (Con.nn k p)), (5, Fact.cell b5 (Con.nn l q)), (6, Fact.cell b6 (Con.raw 3)), (7, fI 0)] a1 w1 := st1.to (fcs ⟨st1.at_ 0, fcs ⟨c4, fcs ⟨c5, fcs ⟨c6, fcs ⟨st1.at_ 7, fnl⟩⟩⟩⟩⟩)
  clear st1 hbr1 hfr c4 c5 c6
  refine wpList_nil ?_
  refine then_normal ?_
  refine wp_seq ?_
  refine wp_seq ?_
  refine sym_region st [(8, Fact.agg (Con.nn l q)), (9, fT)] [] 2 (by kernel_rfl) (by kernel_rfl) (by kernel_rfl) (Nat.le_of_ble_eq_true rfl) (by kernel_rfl) rfl rfl ?_ ?_
  · refine fcn (ob_read 24 5 8 (Con.nn l q) rfl rfl (.inl rfl) (by kernel_rfl) points_cell rfl row24 info24) ?_
    refine fcn (ob_call1 48 8 9 _ rfl rfl (.inl rfl) (by kernel_rfl) (by kernel_rfl) (q_isZero l q true (decide_eq_true hq))) ?_
    exact fnl
  intro a2 w2 st2 hbr2 hfr
  have hs2 := hbr2.size
  have hb := up hb hbr2
  have st : St 15 [(0, Fact.eq (.bool s)), (4, Fact.cell b4 (Con.nn k p)), (5, Fact.cell b5 (Con.nn l q)), (6, Fact.cell b6 (Con.raw 3)), (7, fI 0), (9, fT)] a2 w2 := st2.to (fcs ⟨st2.at_ 0, fcs ⟨st2.at_ 4, fcs ⟨st2.at_ 5, fcs ⟨st2.at_ 6, fcs ⟨st2.at_ 7, fcs ⟨st2.at_ 9, fnl⟩⟩⟩⟩⟩⟩)
  clear st2 hbr2 hfr
  refine wpList_nil ?_
  refine then_normal ?_
  refine wp_cond_true (st.at_ 9) ?_
  refine wp_seq ?_
  have st := st.to (ks' := [(0, Fact.eq (.bool s)), (4, Fact.cell b4 (Con.nn k p)), (5, Fact.cell b5 (Con.nn l q)), (6, Fact.cell b6 (Con.raw 3)), (9, fT)]) (fcs ⟨st.at_ 0, fcs ⟨st.at_ 4, fcs ⟨st.at_ 5, fcs ⟨st.at_ 6, fcs ⟨st.at_ 9, fnl⟩⟩⟩⟩⟩)
  refine sym_region st [(10, Fact.agg (Con.tri 1 1 false 0 0))] [] 1 (by kernel_rfl) (by kernel_rfl) (by kernel_rfl) (Nat.le_of_ble_eq_true rfl) (by kernel_rfl) rfl rfl ?_ ?_
  · refine fcn (ob_buildzero 10 rfl rfl (.inl rfl) rfl) ?_
    exact fnl
  intro a3 w3 st3 hbr3 hfr
  have hs3 := hbr3.size
  have hb := up hb hbr3
  have st : St 15 [(0, Fact.eq (.bool s)), (4, Fact.cell b4 (Con.nn k p)), (5, Fact.cell b5 (Con.nn l q)), (6, Fact.cell b6 (Con.raw 3)), (10, Fact.agg (Con.tri 1 1 false 0 0))] a3 w3 := st3.to (fcs ⟨st3.at_ 0, fcs ⟨st3.at_ 4, fcs ⟨st3.at_ 5, fcs ⟨st3.at_ 6, fcs ⟨st3.at_ 10, fnl⟩⟩⟩⟩⟩)
  clear st3 hbr3 hfr
  refine sym_store st 26 6 10 b6 (Con.raw 3) (Con.tri 1 1 false 0 0) [(0, Fact.eq (.bool s)), (4, Fact.cell b4 (Con.nn k p)), (5, Fact.cell b5 (Con.nn l q)), (6, Fact.cell b6 (Con.tri 1 1 false 0 0))] rfl rfl rfl rfl rfl rfl info26 ?_ ?_
  · exact fcs ⟨.inr ⟨rfl, safe_eq _ _⟩, fcs ⟨.inr ⟨rfl, safe_cell _ (by omega)⟩, fcs ⟨.inr ⟨rfl, safe_cell _ (by omega)⟩, fcs ⟨.inl rfl, fnl⟩⟩⟩⟩
  clear st; intro w4 hB hsz4 st
  have hb := hB _ _ hb (by omega) (by omega)
  clear hB
  refine sym_op st 7 (fI 8) rfl (Nat.le_of_ble_eq_true rfl) rfl rfl (by kernel_rfl) (ob_const (.int .i64 8) 7 (.inr rfl) rfl (.inl rfl) rfl) ?_
  clear st; intro a5 w5 hbr st; have hs5 := hbr.size; have hb := up hb hbr; clear hbr
  refine wpList_nil ?_
  refine then_normal ?_
  refine wp_ret ?_
  exact sym_ret2 rfl st.defers (resAt_cell st 6 b6 26 (Con.tri 1 1 false 0 0) rfl row26 info26) (resAt_tmp st 7) hb (fun v u h1 h2 => ⟨v, u, rfl, h1, h2⟩)
set_option maxRecDepth 100000 in
theorem q_neg (k : Nat) (x : Rat) : ∀ v0 w, (Fact.agg (Con.fr k x)).holds v0 w → Calls Tryz.prog 15 #[v0] w (Ret (Fact.fr k (-x)) w) := by
  intro v0 w hv0
  cases hng : Rt.ng x with
  | false =>
    refine sym_calls 23 [(0, Fact.agg (Con.fr k x))] Tryz.func15 rfl rfl (Nat.le_of_ble_eq_true rfl) (fcs ⟨⟨Nat.le_of_ble_eq_true rfl, hv0⟩, fnl⟩) fun a st => ?_
    have hb := Below.refl w.heap.size w
    refine wp_seq ?_
    refine sym_region st [(1, Fact.var' (Con.fr k x)), (2, Fact.var' (Con.raw 3))] [1, 2] 2 (by kernel_rfl) (by kernel_rfl) (by kernel_rfl) (Nat.le_of_ble_eq_true rfl) (by kernel_rfl) rfl rfl ?_ ?_
    · refine fcs ⟨obn_box 26 0 1 _ (Con.fr k x) rfl rfl rfl (by kernel_rfl) rfl rfl, ?_⟩
      refine fcs ⟨obn_new 26 2 _ [.bool false, .slice none 0 0, .slice none 0 0] rfl rfl rfl rfl rfl alloc26, ?_⟩
      exact fnl
    intro a1 w1 st1 hbr1 hfr
    have hs1 := hbr1.size
    have hb := up hb hbr1
    obtain ⟨b1, c1⟩ := (show (Fact.var' (Con.fr k x)).holds _ _ from st1.at_ 1)
    have g1 := hfr.ge (s := 1) rfl c1.1
    obtain ⟨b2, c2⟩ := (show (Fact.var' (Con.raw 3)).holds _ _ from st1.at_ 2)
    have g2 := hfr.ge (s := 2) rfl c2.1
    have ne1_2 := hfr.apart (s := 1) (t := 2) rfl rfl (by decide) c1.1 c2.1
    have st : St 23 [(1, Fact.cell b1 (Con.fr k x)), (2, Fact.cell b2 (Con.raw 3))] a1 w1 := st1.to (fcs ⟨c1, fcs ⟨c2, fnl⟩⟩)
    clear st1 hbr1 hfr c1 c2
    refine wpList_nil ?_
    refine then_normal ?_
    refine wp_seq ?_
    refine sym_region st [(3, Fact.ptr (Con.bool (Rt.ng x))), (4, fF), (5, fT), (6, fT), (7, Fact.ptr (Con.nn k (Rt.tp x))), (8, Fact.agg (Con.nn k (Rt.tp x))), (9, Fact.eq (.bool (decide (Rt.tp x = 0)))), (10, Fact.eq (.bool (!(decide (Rt.tp x = 0))))), (11, Fact.eq (.bool (!(decide (Rt.tp x = 0))))), (12, Fact.ptr (Con.nn k (Rt.tp x))), (13, Fact.ptr (Con.nn k (Rt.tp x))), (14, Fact.rown k (Rt.tp x)), (15, Fact.rown k (Rt.tp x)), (16, Fact.agg (Con.nn k (Rt.tp x))), (17, Fact.ptr (Con.nn k (Rat.den x))), (18, Fact.ptr (Con.nn k (Rat.den x))), (19, Fact.rown k (Rat.den x)), (20, Fact.rown k (Rat.den x)), (21, Fact.agg (Con.nn k (Rat.den x))), (22, Fact.agg (Con.tri k k (!(decide (Rt.tp x = 0))) (Rt.tp x) (Rat.den x)))] [] 20 (by kernel_rfl) (by kernel_rfl) (by kernel_rfl) (Nat.le_of_ble_eq_true rfl) (by kernel_rfl) rfl rfl ?_ ?_
    · refine fcn (ob_addr 26 0 1 3 0 (Con.fr k x) (Con.bool (Rt.ng x)) rfl rfl (.inl rfl) (by kernel_rfl) points_cell rfl (Con.fr_ng k x) field26_0) ?_
      refine fcn (ob_readb 3 4 (Rt.ng x) false hng rfl rfl (.inl rfl) (by kernel_rfl) points_ptr rfl) ?_
      refine fcn (ob_not 4 5 false true rfl rfl rfl (.inl rfl) (by kernel_rfl) rfl rfl) ?_
      refine fcn (ob_copy 5 6 (.inl rfl) rfl (.inl rfl) (by kernel_rfl) rfl) ?_
      refine fcn (ob_addr 26 1 1 7 1 (Con.fr k x) (Con.nn k (Rt.tp x)) rfl rfl (.inr ⟨_, _, _, rfl, rfl, by kernel_rfl, by decide, rfl⟩) (by kernel_rfl) points_cell rfl (Con.fr_tp k x) field26_1) ?_
      refine fcn (ob_read 24 7 8 (Con.nn k (Rt.tp x)) rfl rfl (.inr ⟨_, _, _, rfl, rfl, by kernel_rfl, by decide, rfl⟩) (by kernel_rfl) points_ptr rfl row24 info24) ?_
      refine fcn (ob_call1 48 8 9 _ rfl rfl (.inr ⟨_, _, _, rfl, rfl, by kernel_rfl, by decide, rfl⟩) (by kernel_rfl) (by kernel_rfl) (q_isZero k (Rt.tp x) (decide (Rt.tp x = 0)) rfl)) ?_
      refine fcn (ob_not 9 10 (decide (Rt.tp x = 0)) (!(decide (Rt.tp x = 0))) rfl rfl rfl (.inr ⟨_, _, _, rfl, rfl, by kernel_rfl, by decide, rfl⟩) (by kernel_rfl) rfl rfl) ?_
      refine fcn (ob_pick 6 10 11 _ rfl rfl (.inl rfl) (by kernel_rfl) (by kernel_rfl) rfl rfl) ?_
      refine fcn (ob_addr 26 1 1 12 1 (Con.fr k x) (Con.nn k (Rt.tp x)) rfl rfl (.inl rfl) (by kernel_rfl) points_cell rfl (Con.fr_tp k x) field26_1) ?_
      refine fcn (ob_addr 24 0 12 13 0 (Con.nn k (Rt.tp x)) (Con.nn k (Rt.tp x)) rfl rfl (.inl rfl) (by kernel_rfl) points_ptr rfl (Con.Sub.refl _) field24_0) ?_
      refine fcn (ob_loadrow 13 14 k (Rt.tp x) rfl rfl (.inl rfl) (by kernel_rfl) points_ptr rfl) ?_
      refine fcn (ob_call1 49 14 15 _ rfl rfl (.inl rfl) (by kernel_rfl) (by kernel_rfl) (q_clone k (Rt.tp x))) ?_
      refine fcn (ob_buildnn 15 16 k (Rt.tp x) rfl rfl (.inl rfl) (by kernel_rfl) rfl rfl) ?_
      refine fcn (ob_addr 26 2 1 17 2 (Con.fr k x) (Con.nn k (Rat.den x)) rfl rfl (.inl rfl) (by kernel_rfl) points_cell rfl (Con.fr_den k x) field26_2) ?_
      refine fcn (ob_addr 24 0 17 18 0 (Con.nn k (Rat.den x)) (Con.nn k (Rat.den x)) rfl rfl (.inl rfl) (by kernel_rfl) points_ptr rfl (Con.Sub.refl _) field24_0) ?_
      refine fcn (ob_loadrow 18 19 k (Rat.den x) rfl rfl (.inl rfl) (by kernel_rfl) points_ptr rfl) ?_
      refine fcn (ob_call1 49 19 20 _ rfl rfl (.inl rfl) (by kernel_rfl) (by kernel_rfl) (q_clone k (Rat.den x))) ?_
      refine fcn (ob_buildnn 20 21 k (Rat.den x) rfl rfl (.inl rfl) (by kernel_rfl) rfl rfl) ?_
      refine fcn (ob_buildtri 11 16 21 22 k k (Rt.tp x) (Rat.den x) (!(decide (Rt.tp x = 0))) rfl rfl (.inl rfl) (by kernel_rfl) (by kernel_rfl) (by kernel_rfl) rfl rfl rfl rfl) ?_
      exact fnl
    intro a2 w2 st2 hbr2 hfr
    have hs2 := hbr2.size
    have hb := up hb hbr2
    have st : St 23 [(2, Fact.cell b2 (Con.raw 3)), (22, Fact.agg (Con.tri k k (!(decide (Rt.tp x = 0))) (Rt.tp x) (Rat.den x)))] a2 w2 := st2.to (fcs ⟨st2.at_ 2, fcs ⟨st2.at_ 22, fnl⟩⟩)
    clear st2 hbr2 hfr
    refine sym_store st 26 2 22 b2 (Con.raw 3) (Con.tri k k (!(decide (Rt.tp x = 0))) (Rt.tp x) (Rat.den x)) [(2, Fact.cell b2 (Con.tri k k (!(decide (Rt.tp x = 0))) (Rt.tp x) (Rat.den x)))] rfl rfl rfl rfl rfl rfl info26 ?_ ?_
    · exact fcs ⟨.inl rfl, fnl⟩
    clear st; intro w3 hB hsz3 st
    have hb := hB _ _ hb (by omega) (by omega)
    clear hB
    refine wpList_nil ?_
    refine then_normal ?_
    refine wp_ret ?_
    exact sym_ret1 rfl st.defers (resAt_cell st 2 b2 26 (Con.tri k k (!(decide (Rt.tp x = 0))) (Rt.tp x) (Rat.den x)) rfl row26 info26) hb (fun _ h => Fact.tri_eq (x := -x) h ((by rw [Rt.neg_ng, hng]; rfl)) (Rt.neg_tp x).symm rfl)
  | true =>
    refine sym_calls 23 [(0, Fact.agg (Con.fr k x))] Tryz.func15 rfl rfl (Nat.le_of_ble_eq_true rfl) (fcs ⟨⟨Nat.le_of_ble_eq_true rfl, hv0⟩, fnl⟩) fun a st => ?_
    have hb := Below.refl w.heap.size w
    refine wp_seq ?_
    refine sym_region st [(1, Fact.var' (Con.fr k x)), (2, Fact.var' (Con.raw 3))] [1, 2] 2 (by kernel_rfl) (by kernel_rfl) (by kernel_rfl) (Nat.le_of_ble_eq_true rfl) (by kernel_rfl) rfl rfl ?_ ?_
    · refine fcs ⟨obn_box 26 0 1 _ (Con.fr k x) rfl rfl rfl (by kernel_rfl) rfl rfl, ?_⟩
      refine fcs ⟨obn_new 26 2 _ [.bool false, .slice none 0 0, .slice none 0 0] rfl rfl rfl rfl rfl alloc26, ?_⟩
      exact fnl
    intro a1 w1 st1 hbr1 hfr
    have hs1 := hbr1.size
    have hb := up hb hbr1
    obtain ⟨b1, c1⟩ := (show (Fact.var' (Con.fr k x)).holds _ _ from st1.at_ 1)
    have g1 := hfr.ge (s := 1) rfl c1.1
    obtain ⟨b2, c2⟩ := (show (Fact.var' (Con.raw 3)).holds _ _ from st1.at_ 2)
    have g2 := hfr.ge (s := 2) rfl c2.1
    have ne1_2 := hfr.apart (s := 1) (t := 2) rfl rfl (by decide) c1.1 c2.1
    have st : St 23 [(1, Fact.cell b1 (Con.fr k x)), (2, Fact.cell b2 (Con.raw 3))] a1 w1 := st1.to (fcs ⟨c1, fcs ⟨c2, fnl⟩⟩)
    clear st1 hbr1 hfr c1 c2
    refine wpList_nil ?_
    refine then_normal ?_
    refine wp_seq ?_
    refine sym_region st [(3, Fact.ptr (Con.bool (Rt.ng x))), (4, fT), (5, fF), (6, fF), (7, Fact.eq undef), (8, Fact.eq undef), (9, Fact.eq undef), (10, Fact.eq undef), (11, fF), (12, Fact.ptr (Con.nn k (Rt.tp x))), (13, Fact.ptr (Con.nn k (Rt.tp x))), (14, Fact.rown k (Rt.tp x)), (15, Fact.rown k (Rt.tp x)), (16, Fact.agg (Con.nn k (Rt.tp x))), (17, Fact.ptr (Con.nn k (Rat.den x))), (18, Fact.ptr (Con.nn k (Rat.den x))), (19, Fact.rown k (Rat.den x)), (20, Fact.rown k (Rat.den x)), (21, Fact.agg (Con.nn k (Rat.den x))), (22, Fact.agg (Con.tri k k false (Rt.tp x) (Rat.den x)))] [] 20 (by kernel_rfl) (by kernel_rfl) (by kernel_rfl) (Nat.le_of_ble_eq_true rfl) (by kernel_rfl) rfl rfl ?_ ?_
    · refine fcn (ob_addr 26 0 1 3 0 (Con.fr k x) (Con.bool (Rt.ng x)) rfl rfl (.inl rfl) (by kernel_rfl) points_cell rfl (Con.fr_ng k x) field26_0) ?_
      refine fcn (ob_readb 3 4 (Rt.ng x) true hng rfl rfl (.inl rfl) (by kernel_rfl) points_ptr rfl) ?_
      refine fcn (ob_not 4 5 true false rfl rfl rfl (.inl rfl) (by kernel_rfl) rfl rfl) ?_
      refine fcn (ob_copy 5 6 (.inl rfl) rfl (.inl rfl) (by kernel_rfl) rfl) ?_
      refine fcn (ob_skip 3 6 7 true rfl rfl (by kernel_rfl) (by decide) rfl rfl rfl) ?_
      refine fcn (ob_skip 3 6 8 true rfl rfl (by kernel_rfl) (by decide) rfl rfl rfl) ?_
      refine fcn (ob_skip 3 6 9 true rfl rfl (by kernel_rfl) (by decide) rfl rfl rfl) ?_
      refine fcn (ob_skip 3 6 10 true rfl rfl (by kernel_rfl) (by decide) rfl rfl rfl) ?_
      refine fcn (ob_pick_no 6 10 11 (.bool false) rfl rfl (.inl rfl) (by kernel_rfl) rfl rfl) ?_
      refine fcn (ob_addr 26 1 1 12 1 (Con.fr k x) (Con.nn k (Rt.tp x)) rfl rfl (.inl rfl) (by kernel_rfl) points_cell rfl (Con.fr_tp k x) field26_1) ?_
      refine fcn (ob_addr 24 0 12 13 0 (Con.nn k (Rt.tp x)) (Con.nn k (Rt.tp x)) rfl rfl (.inl rfl) (by kernel_rfl) points_ptr rfl (Con.Sub.refl _) field24_0) ?_
      refine fcn (ob_loadrow 13 14 k (Rt.tp x) rfl rfl (.inl rfl) (by kernel_rfl) points_ptr rfl) ?_
      refine fcn (ob_call1 49 14 15 _ rfl rfl (.inl rfl) (by kernel_rfl) (by kernel_rfl) (q_clone k (Rt.tp x))) ?_
      refine fcn (ob_buildnn 15 16 k (Rt.tp x) rfl rfl (.inl rfl) (by kernel_rfl) rfl rfl) ?_
      refine fcn (ob_addr 26 2 1 17 2 (Con.fr k x) (Con.nn k (Rat.den x)) rfl rfl (.inl rfl) (by kernel_rfl) points_cell rfl (Con.fr_den k x) field26_2) ?_
      refine fcn (ob_addr 24 0 17 18 0 (Con.nn k (Rat.den x)) (Con.nn k (Rat.den x)) rfl rfl (.inl rfl) (by kernel_rfl) points_ptr rfl (Con.Sub.refl _) field24_0) ?_
      refine fcn (ob_loadrow 18 19 k (Rat.den x) rfl rfl (.inl rfl) (by kernel_rfl) points_ptr rfl) ?_
      refine fcn (ob_call1 49 19 20 _ rfl rfl (.inl rfl) (by kernel_rfl) (by kernel_rfl) (q_clone k (Rat.den x))) ?_
      refine fcn (ob_buildnn 20 21 k (Rat.den x) rfl rfl (.inl rfl) (by kernel_rfl) rfl rfl) ?_
      refine fcn (ob_buildtri 11 16 21 22 k k (Rt.tp x) (Rat.den x) false rfl rfl (.inl rfl) (by kernel_rfl) (by kernel_rfl) (by kernel_rfl) rfl rfl rfl rfl) ?_
      exact fnl
    intro a2 w2 st2 hbr2 hfr
    have hs2 := hbr2.size
    have hb := up hb hbr2
    have st : St 23 [(2, Fact.cell b2 (Con.raw 3)), (22, Fact.agg (Con.tri k k false (Rt.tp x) (Rat.den x)))] a2 w2 := st2.to (fcs ⟨st2.at_ 2, fcs ⟨st2.at_ 22, fnl⟩⟩)
    clear st2 hbr2 hfr
    refine sym_store st 26 2 22 b2 (Con.raw 3) (Con.tri k k false (Rt.tp x) (Rat.den x)) [(2, Fact.cell b2 (Con.tri k k false (Rt.tp x) (Rat.den x)))] rfl rfl rfl rfl rfl rfl info26 ?_ ?_
    · exact fcs ⟨.inl rfl, fnl⟩
    clear st; intro w3 hB hsz3 st
    have hb := hB _ _ hb (by omega) (by omega)
    clear hB
    refine wpList_nil ?_
    refine then_normal ?_
    refine wp_ret ?_
    exact sym_ret1 rfl st.defers (resAt_cell st 2 b2 26 (Con.tri k k false (Rt.tp x) (Rat.den x)) rfl row26 info26) hb (fun _ h => Fact.tri_eq (x := -x) h ((by rw [Rt.neg_ng, hng]; rfl)) (Rt.neg_tp x).symm rfl)
set_option maxRecDepth 100000 in
theorem q_addm (m : Nat) (x y : Rat) (hm : 2 * m + 1 ≤ 400) : ∀ v0 v1 w, (Fact.agg (Con.fr m x)).holds v0 w → (Fact.agg (Con.fr m y)).holds v1 w → Calls Tryz.prog 10 #[v0, v1] w (Ret (Fact.fr (m + m + 1) (x + y)) w) := by
  intro v0 v1 w hv0 hv1
  refine sym_calls 65 [(0, Fact.agg (Con.fr m x)), (1, Fact.agg (Con.fr m y))] Tryz.func10 rfl rfl (Nat.le_of_ble_eq_true rfl) (fcs ⟨⟨Nat.le_of_ble_eq_true rfl, hv0⟩, fcs ⟨⟨Nat.le_of_ble_eq_true rfl, hv1⟩, fnl⟩⟩) fun a st => ?_
  have hb := Below.refl w.heap.size w
  refine wp_seq ?_
  refine sym_region st [(2, Fact.var' (Con.fr m x)), (3, Fact.var' (Con.fr m y)), (4, Fact.var' (Con.raw 3))] [2, 3, 4] 3 (by kernel_rfl) (by kernel_rfl) (by kernel_rfl) (Nat.le_of_ble_eq_true rfl) (by kernel_rfl) rfl rfl ?_ ?_
  · refine fcs ⟨obn_box 26 0 2 _ (Con.fr m x) rfl rfl rfl (by kernel_rfl) rfl rfl, ?_⟩
    refine fcs ⟨obn_box 26 1 3 _ (Con.fr m y) rfl rfl rfl (by kernel_rfl) rfl rfl, ?_⟩
    refine fcs ⟨obn_new 26 4 _ [.bool false, .slice none 0 0, .slice none 0 0] rfl rfl rfl rfl rfl alloc26, ?_⟩
    exact fnl
  intro a1 w1 st1 hbr1 hfr
  have hs1 := hbr1.size
  have hb := up hb hbr1
  obtain ⟨b2, c2⟩ := (show (Fact.var' (Con.fr m x)).holds _ _ from st1.at_ 2)
  have g2 := hfr.ge (s := 2) rfl c2.1
  obtain ⟨b3, c3⟩ := (show (Fact.var' (Con.fr m y)).holds _ _ from st1.at_ 3)
  have g3 := hfr.ge (s := 3) rfl c3.1
  obtain ⟨b4, c4⟩ := (show (Fact.var' (Con.raw 3)).holds _ _ from st1.at_ 4)
  have g4 := hfr.ge (s := 4) rfl c4.1
  have ne2_3 := hfr.apart (s := 2) (t := 3) rfl rfl (by decide) c2.1 c3.1
  have ne2_4 := hfr.apart (s := 2) (t := 4) rfl rfl (by decide) c2.1 c4.1
  have ne3_4 := hfr.apart (s := 3) (t := 4) rfl rfl (by decide) c3.1 c4.1
  have st : St 65 [(2, Fact.cell b2 (Con.fr m x)), (3, Fact.cell b3 (Con.fr m y)), (4, Fact.cell b4 (Con.raw 3))] a1 w1 := st1.to (fcs ⟨c2, fcs ⟨c3, fcs ⟨c4, fnl⟩⟩⟩)
  clear st1 hbr1 hfr c2 c3 c4
  refine wpList_nil ?_
  refine then_normal ?_
  refine wp_seq ?_
  refine sym_region st [(12, Fact.ptr (Con.nn m (Rt.tp x))), (13, Fact.agg (Con.nn m (Rt.tp x))), (14, Fact.ptr (Con.nn m (Rat.den y))), (15, Fact.agg (Con.nn m (Rat.den y))), (16, Fact.nats m [Rt.tp x, Rat.den y]), (17, Fact.agg (Con.nn (m + m) ((Rt.tp x) * (Rat.den y)))), (18, Fact.ptr (Con.nn m (Rt.tp y))), (19, Fact.agg (Con.nn m (Rt.tp y))), (20, Fact.ptr (Con.nn m (Rat.den x))), (21, Fact.agg (Con.nn m (Rat.den x))), (22, Fact.nats m [Rt.tp y, Rat.den x]), (23, Fact.agg (Con.nn (m + m) ((Rt.tp y) * (Rat.den x)))), (5, Fact.var' (Con.raw 1)), (6, Fact.var' (Con.raw 1))] [5, 6] 14 (by kernel_rfl) (by kernel_rfl) (by kernel_rfl) (Nat.le_of_ble_eq_true rfl) (by kernel_rfl) rfl rfl ?_ ?_
  · refine fcn (ob_addr 26 1 2 12 1 (Con.fr m x) (Con.nn m (Rt.tp x)) rfl rfl (.inl rfl) (by kernel_rfl) points_cell rfl (Con.fr_tp m x) field26_1) ?_
    refine fcn (ob_read 24 12 13 (Con.nn m (Rt.tp x)) rfl rfl (.inl rfl) (by kernel_rfl) points_ptr rfl row24 info24) ?_
    refine fcn (ob_addr 26 2 3 14 2 (Con.fr m y) (Con.nn m (Rat.den y)) rfl rfl (.inl rfl) (by kernel_rfl) points_cell rfl (Con.fr_den m y) field26_2) ?_
    refine fcn (ob_read 24 14 15 (Con.nn m (Rat.den y)) rfl rfl (.inl rfl) (by kernel_rfl) points_ptr rfl row24 info24) ?_
    refine fcn (ob_nats2 13 15 16 m m m (Rt.tp x) (Rat.den y) (by omega) (by omega) rfl rfl (.inl rfl) (by kernel_rfl) (by kernel_rfl) rfl rfl rfl) ?_
    refine fcn (ob_call1 38 16 17 _ rfl rfl (.inl rfl) (by kernel_rfl) (by kernel_rfl) (q_product m (Rt.tp x) (Rat.den y) (by omega))) ?_
    refine fcn (ob_addr 26 1 3 18 1 (Con.fr m y) (Con.nn m (Rt.tp y)) rfl rfl (.inl rfl) (by kernel_rfl) points_cell rfl (Con.fr_tp m y) field26_1) ?_
    refine fcn (ob_read 24 18 19 (Con.nn m (Rt.tp y)) rfl rfl (.inl rfl) (by kernel_rfl) points_ptr rfl row24 info24) ?_
    refine fcn (ob_addr 26 2 2 20 2 (Con.fr m x) (Con.nn m (Rat.den x)) rfl rfl (.inl rfl) (by kernel_rfl) points_cell rfl (Con.fr_den m x) field26_2) ?_
    refine fcn (ob_read 24 20 21 (Con.nn m (Rat.den x)) rfl rfl (.inl rfl) (by kernel_rfl) points_ptr rfl row24 info24) ?_
    refine fcn (ob_nats2 19 21 22 m m m (Rt.tp y) (Rat.den x) (by omega) (by omega) rfl rfl (.inl rfl) (by kernel_rfl) (by kernel_rfl) rfl rfl rfl) ?_
    refine fcn (ob_call1 38 22 23 _ rfl rfl (.inl rfl) (by kernel_rfl) (by kernel_rfl) (q_product m (Rt.tp y) (Rat.den x) (by omega))) ?_
    refine fcs ⟨obn_new 24 5 _ [.slice none 0 0] rfl rfl rfl rfl rfl alloc24, ?_⟩
    refine fcs ⟨obn_new 24 6 _ [.slice none 0 0] rfl rfl rfl rfl rfl alloc24, ?_⟩
    exact fnl
  intro a2 w2 st2 hbr2 hfr
  have hs2 := hbr2.size
  have hb := up hb hbr2
  obtain ⟨b5, c5⟩ := (show (Fact.var' (Con.raw 1)).holds _ _ from st2.at_ 5)
  have g5 := hfr.ge (s := 5) rfl c5.1
  obtain ⟨b6, c6⟩ := (show (Fact.var' (Con.raw 1)).holds _ _ from st2.at_ 6)
  have g6 := hfr.ge (s := 6) rfl c6.1
  have ne5_6 := hfr.apart (s := 5) (t := 6) rfl rfl (by decide) c5.1 c6.1
  have st : St 65 [(2, Fact.cell b2 (Con.fr m x)), (3, Fact.cell b3 (Con.fr m y)), (4, Fact.cell b4 (Con.raw 3)), (17, Fact.agg (Con.nn (m + m) ((Rt.tp x) * (Rat.den y)))), (23, Fact.agg (Con.nn (m + m) ((Rt.tp y) * (Rat.den x)))), (5, Fact.cell b5 (Con.raw 1)), (6, Fact.cell b6 (Con.raw 1))] a2 w2 := st2.to (fcs ⟨st2.at_ 2, fcs ⟨st2.at_ 3, fcs ⟨st2.at_ 4, fcs ⟨st2.at_ 17, fcs ⟨st2.at_ 23, fcs ⟨c5, fcs ⟨c6, fnl⟩⟩⟩⟩⟩⟩⟩)
  clear st2 hbr2 hfr c5 c6
  refine sym_store st 24 5 17 b5 (Con.raw 1) (Con.nn (m + m) ((Rt.tp x) * (Rat.den y))) [(2, Fact.cell b2 (Con.fr m x)), (3, Fact.cell b3 (Con.fr m y)), (4, Fact.cell b4 (Con.raw 3)), (23, Fact.agg (Con.nn (m + m) ((Rt.tp y) * (Rat.den x)))), (5, Fact.cell b5 (Con.nn (m + m) ((Rt.tp x) * (Rat.den y)))), (6, Fact.cell b6 (Con.raw 1))] rfl rfl rfl rfl rfl rfl info24 ?_ ?_
  · exact fcs ⟨.inr ⟨rfl, safe_cell _ (by omega)⟩, fcs ⟨.inr ⟨rfl, safe_cell _ (by omega)⟩, fcs ⟨.inr ⟨rfl, safe_cell _ (by omega)⟩, fcs ⟨.inr ⟨rfl, safe_agg _ _⟩, fcs ⟨.inl rfl, fcs ⟨.inr ⟨rfl, safe_cell _ (by omega)⟩, fnl⟩⟩⟩⟩⟩⟩
  clear st; intro w3 hB hsz3 st
  have hb := hB _ _ hb (by omega) (by omega)
  clear hB
  refine sym_store st 24 6 23 b6 (Con.raw 1) (Con.nn (m + m) ((Rt.tp y) * (Rat.den x))) [(2, Fact.cell b2 (Con.fr m x)), (3, Fact.cell b3 (Con.fr m y)), (4, Fact.cell b4 (Con.raw 3)), (5, Fact.cell b5 (Con.nn (m + m) ((Rt.tp x) * (Rat.den y)))), (6, Fact.cell b6 (Con.nn (m + m) ((Rt.tp y) * (Rat.den x))))] rfl rfl rfl rfl rfl rfl info24 ?_ ?_
  · exact fcs ⟨.inr ⟨rfl, safe_cell _ (by omega)⟩, fcs ⟨.inr ⟨rfl, safe_cell _ (by omega)⟩, fcs ⟨.inr ⟨rfl, safe_cell _ (by omega)⟩, fcs ⟨.inr ⟨rfl, safe_cell _ (by omega)⟩, fcs ⟨.inl rfl, fnl⟩⟩⟩⟩⟩
  clear st; intro w4 hB hsz4 st
  have hb := hB _ _ hb (by omega) (by omega)
  clear hB
  refine wpList_nil ?_
  refine then_normal ?_
  refine wp_seq ?_
  refine sym_region st [(24, Fact.ptr (Con.nn m (Rat.den x))), (25, Fact.agg (Con.nn m (Rat.den x))), (26, Fact.ptr (Con.nn m (Rat.den y))), (27, Fact.agg (Con.nn m (Rat.den y))), (28, Fact.nats m [Rat.den x, Rat.den y]), (29, Fact.agg (Con.nn (m + m) ((Rat.den x) * (Rat.den y)))), (7, Fact.var' (Con.raw 1))] [7] 7 (by kernel_rfl) (by kernel_rfl) (by kernel_rfl) (Nat.le_of_ble_eq_true rfl) (by kernel_rfl) rfl rfl ?_ ?_
  · refine fcn (ob_addr 26 2 2 24 2 (Con.fr m x) (Con.nn m (Rat.den x)) rfl rfl (.inl rfl) (by kernel_rfl) points_cell rfl (Con.fr_den m x) field26_2) ?_
    refine fcn (ob_read 24 24 25 (Con.nn m (Rat.den x)) rfl rfl (.inl rfl) (by kernel_rfl) points_ptr rfl row24 info24) ?_
    refine fcn (ob_addr 26 2 3 26 2 (Con.fr m y) (Con.nn m (Rat.den y)) rfl rfl (.inl rfl) (by kernel_rfl) points_cell rfl (Con.fr_den m y) field26_2) ?_
    refine fcn (ob_read 24 26 27 (Con.nn m (Rat.den y)) rfl rfl (.inl rfl) (by kernel_rfl) points_ptr rfl row24 info24) ?_
    refine fcn (ob_nats2 25 27 28 m m m (Rat.den x) (Rat.den y) (by omega) (by omega) rfl rfl (.inl rfl) (by kernel_rfl) (by kernel_rfl) rfl rfl rfl) ?_
    refine fcn (ob_call1 38 28 29 _ rfl rfl (.inl rfl) (by kernel_rfl) (by kernel_rfl) (q_product m (Rat.den x) (Rat.den y) (by omega))) ?_
    refine fcs ⟨obn_new 24 7 _ [.slice none 0 0] rfl rfl rfl rfl rfl alloc24, ?_⟩
    exact fnl
  intro a5 w5 st5 hbr5 hfr
  have hs5 := hbr5.size
  have hb := up hb hbr5
  obtain ⟨b7, c7⟩ := (show (Fact.var' (Con.raw 1)).holds _ _ from st5.at_ 7)
  have g7 := hfr.ge (s := 7) rfl c7.1
  have st : St 65 [(2, Fact.cell b2 (Con.fr m x)), (3, Fact.cell b3 (Con.fr m y)), (4, Fact.cell b4 (Con.raw 3)), (5, Fact.cell b5 (Con.nn (m + m) ((Rt.tp x) * (Rat.den y)))), (6, Fact.cell b6 (Con.nn (m + m) ((Rt.tp y) * (Rat.den x)))), (29, Fact.agg (Con.nn (m + m) ((Rat.den x) * (Rat.den y)))), (7, Fact.cell b7 (Con.raw 1))] a5 w5 := st5.to (fcs ⟨st5.at_ 2, fcs ⟨st5.at_ 3, fcs ⟨st5.at_ 4, fcs ⟨st5.at_ 5, fcs ⟨st5.at_ 6, fcs ⟨st5.at_ 29, fcs ⟨c7, fnl⟩⟩⟩⟩⟩⟩⟩)
  clear st5 hbr5 hfr c7
  refine sym_store st 24 7 29 b7 (Con.raw 1) (Con.nn (m + m) ((Rat.den x) * (Rat.den y))) [(2, Fact.cell b2 (Con.fr m x)), (3, Fact.cell b3 (Con.fr m y)), (4, Fact.cell b4 (Con.raw 3)), (5, Fact.cell b5 (Con.nn (m + m) ((Rt.tp x) * (Rat.den y)))), (6, Fact.cell b6 (Con.nn (m + m) ((Rt.tp y) * (Rat.den x)))), (7, Fact.cell b7 (Con.nn (m + m) ((Rat.den x) * (Rat.den y))))] rfl rfl rfl rfl rfl rfl info24 ?_ ?_
  · exact fcs ⟨.inr ⟨rfl, safe_cell _ (by omega)⟩, fcs ⟨.inr ⟨rfl, safe_cell _ (by omega)⟩, fcs ⟨.inr ⟨rfl, safe_cell _ (by omega)⟩, fcs ⟨.inr ⟨rfl, safe_cell _ (by omega)⟩, fcs ⟨.inr ⟨rfl, safe_cell _ (by omega)⟩, fcs ⟨.inl rfl, fnl⟩⟩⟩⟩⟩⟩
  clear st; intro w6 hB hsz6 st
  have hb := hB _ _ hb (by omega) (by omega)
  clear hB
  refine wpList_nil ?_
  refine then_normal ?_
  refine wp_seq ?_
  refine wp_seq ?_
  refine sym_region st [(30, Fact.agg (Con.fr m x)), (31, Fact.agg (Con.sgn (Rt.ng x) (decide (Rt.tp x = 0)))), (32, Fact.agg (Con.fr m y)), (33, Fact.agg (Con.sgn (Rt.ng y) (decide (Rt.tp y = 0)))), (34, Fact.eq (.bool ((Rt.ng x) == (Rt.ng y) && (decide (Rt.tp x = 0)) == (decide (Rt.tp y = 0)))))] [] 5 (by kernel_rfl) (by kernel_rfl) (by kernel_rfl) (Nat.le_of_ble_eq_true rfl) (by kernel_rfl) rfl rfl ?_ ?_
  · refine fcn (ob_read 26 2 30 (Con.fr m x) rfl rfl (.inl rfl) (by kernel_rfl) points_cell rfl row26 info26) ?_
    refine fcn (ob_call1 39 30 31 _ rfl rfl (.inl rfl) (by kernel_rfl) (by kernel_rfl) (q_signOf m x)) ?_
    refine fcn (ob_read 26 3 32 (Con.fr m y) rfl rfl (.inl rfl) (by kernel_rfl) points_cell rfl row26 info26) ?_
    refine fcn (ob_call1 39 32 33 _ rfl rfl (.inl rfl) (by kernel_rfl) (by kernel_rfl) (q_signOf m y)) ?_
    refine fcn (ob_eqs 31 33 34 _ (Rt.ng x) (decide (Rt.tp x = 0)) (Rt.ng y) (decide (Rt.tp y = 0)) ((Rt.ng x) == (Rt.ng y) && (decide (Rt.tp x = 0)) == (decide (Rt.tp y = 0))) rfl rfl rfl (.inl rfl) (by kernel_rfl) (by kernel_rfl) rfl rfl rfl) ?_
    exact fnl
  intro a7 w7 st7 hbr7 hfr
  have hs7 := hbr7.size
  have hb := up hb hbr7
  have st : St 65 [(2, Fact.cell b2 (Con.fr m x)), (3, Fact.cell b3 (Con.fr m y)), (4, Fact.cell b4 (Con.raw 3)), (5, Fact.cell b5 (Con.nn (m + m) ((Rt.tp x) * (Rat.den y)))), (6, Fact.cell b6 (Con.nn (m + m) ((Rt.tp y) * (Rat.den x)))), (7, Fact.cell b7 (Con.nn (m + m) ((Rat.den x) * (Rat.den y)))), (34, Fact.eq (.bool ((Rt.ng x) == (Rt.ng y) && (decide (Rt.tp x = 0)) == (decide (Rt.tp y = 0)))))] a7 w7 := st7.to (fcs ⟨st7.at_ 2, fcs ⟨st7.at_ 3, fcs ⟨st7.at_ 4, fcs ⟨st7.at_ 5, fcs ⟨st7.at_ 6, fcs ⟨st7.at_ 7, fcs ⟨st7.at_ 34, fnl⟩⟩⟩⟩⟩⟩⟩)
  clear st7 hbr7 hfr
  refine wpList_nil ?_
  refine then_normal ?_
  refine wp_cond_split (st.at_ 34) (fun h34 => ?_) (fun h34 => ?_)
  · skip
    refine wp_seq ?_
    refine sym_region st [(35, Fact.ptr (Con.bool (Rt.ng x))), (36, Fact.eq (.bool (Rt.ng x))), (37, Fact.agg (Con.nn (m + m) ((Rt.tp x) * (Rat.den y)))), (38, Fact.agg (Con.nn (m + m) ((Rt.tp y) * (Rat.den x)))), (39, Fact.agg (Con.nn ((m + m) + 1) (((Rt.tp x) * (Rat.den y)) + ((Rt.tp y) * (Rat.den x))))), (40, Fact.agg (Con.nn (m + m) ((Rat.den x) * (Rat.den y)))), (41, Fact.agg (Con.fr (max ((m + m) + 1) (m + m)) (Rt.of (Rt.ng x) (((Rt.tp x) * (Rat.den y)) + ((Rt.tp y) * (Rat.den x))) ((Rat.den x) * (Rat.den y)))))] [] 7 (by kernel_rfl) (by kernel_rfl) (by kernel_rfl) (Nat.le_of_ble_eq_true rfl) (by kernel_rfl) rfl rfl ?_ ?_
    · refine fcn (ob_addr 26 0 2 35 0 (Con.fr m x) (Con.bool (Rt.ng x)) rfl rfl (.inl rfl) (by kernel_rfl) points_cell rfl (Con.fr_ng m x) field26_0) ?_
      refine fcn (ob_readb 35 36 (Rt.ng x) (Rt.ng x) rfl rfl rfl (.inl rfl) (by kernel_rfl) points_ptr rfl) ?_
      refine fcn (ob_read 24 5 37 (Con.nn (m + m) ((Rt.tp x) * (Rat.den y))) rfl rfl (.inl rfl) (by kernel_rfl) points_cell rfl row24 info24) ?_
      refine fcn (ob_read 24 6 38 (Con.nn (m + m) ((Rt.tp y) * (Rat.den x))) rfl rfl (.inl rfl) (by kernel_rfl) points_cell rfl row24 info24) ?_
      refine fcn (ob_call2 41 37 38 39 _ rfl rfl (.inl rfl) (by kernel_rfl) (by kernel_rfl) (by kernel_rfl) (n_addr (m + m) (m + m) (m + m) ((Rt.tp x) * (Rat.den y)) ((Rt.tp y) * (Rat.den x)) (by omega) (by omega) (by omega))) ?_
      refine fcn (ob_read 24 7 40 (Con.nn (m + m) ((Rat.den x) * (Rat.den y))) rfl rfl (.inl rfl) (by kernel_rfl) points_cell rfl row24 info24) ?_
      refine fcn (ob_call3 40 36 39 40 41 _ rfl rfl (.inl rfl) (by kernel_rfl) (by kernel_rfl) (by kernel_rfl) (by kernel_rfl) (q_reduced ((m + m) + 1) (m + m) (max ((m + m) + 1) (m + m)) (Rt.ng x) (((Rt.tp x) * (Rat.den y)) + ((Rt.tp y) * (Rat.den x))) ((Rat.den x) * (Rat.den y)) (Rt.den_mul_ne x y) (by omega) (by omega) (by omega))) ?_
      exact fnl
    intro a8 w8 st8 hbr8 hfr
    have hs8 := hbr8.size
    have hb := up hb hbr8
    have st : St 65 [(2, Fact.cell b2 (Con.fr m x)), (3, Fact.cell b3 (Con.fr m y)), (4, Fact.cell b4 (Con.raw 3)), (5, Fact.cell b5 (Con.nn (m + m) ((Rt.tp x) * (Rat.den y)))), (6, Fact.cell b6 (Con.nn (m + m) ((Rt.tp y) * (Rat.den x)))), (7, Fact.cell b7 (Con.nn (m + m) ((Rat.den x) * (Rat.den y)))), (41, Fact.agg (Con.fr (max ((m + m) + 1) (m + m)) (Rt.of (Rt.ng x) (((Rt.tp x) * (Rat.den y)) + ((Rt.tp y) * (Rat.den x))) ((Rat.den x) * (Rat.den y)))))] a8 w8 := st8.to (fcs ⟨st8.at_ 2, fcs ⟨st8.at_ 3, fcs ⟨st8.at_ 4, fcs ⟨st8.at_ 5, fcs ⟨st8.at_ 6, fcs ⟨st8.at_ 7, fcs ⟨st8.at_ 41, fnl⟩⟩⟩⟩⟩⟩⟩)
    clear st8 hbr8 hfr
    refine sym_store st 26 4 41 b4 (Con.raw 3) (Con.fr (max ((m + m) + 1) (m + m)) (Rt.of (Rt.ng x) (((Rt.tp x) * (Rat.den y)) + ((Rt.tp y) * (Rat.den x))) ((Rat.den x) * (Rat.den y)))) [(2, Fact.cell b2 (Con.fr m x)), (3, Fact.cell b3 (Con.fr m y)), (4, Fact.cell b4 (Con.fr (max ((m + m) + 1) (m + m)) (Rt.of (Rt.ng x) (((Rt.tp x) * (Rat.den y)) + ((Rt.tp y) * (Rat.den x))) ((Rat.den x) * (Rat.den y))))), (5, Fact.cell b5 (Con.nn (m + m) ((Rt.tp x) * (Rat.den y)))), (6, Fact.cell b6 (Con.nn (m + m) ((Rt.tp y) * (Rat.den x)))), (7, Fact.cell b7 (Con.nn (m + m) ((Rat.den x) * (Rat.den y))))] rfl rfl rfl rfl rfl rfl info26 ?_ ?_
    · exact fcs ⟨.inr ⟨rfl, safe_cell _ (by omega)⟩, fcs ⟨.inr ⟨rfl, safe_cell _ (by omega)⟩, fcs ⟨.inl rfl, fcs ⟨.inr ⟨rfl, safe_cell _ (by omega)⟩, fcs ⟨.inr ⟨rfl, safe_cell _ (by omega)⟩, fcs ⟨.inr ⟨rfl, safe_cell _ (by omega)⟩, fnl⟩⟩⟩⟩⟩⟩
    clear st; intro w9 hB hsz9 st
    have hb := hB _ _ hb (by omega) (by omega)
    clear hB
    refine wpList_nil ?_
    refine then_normal ?_
    refine wp_ret ?_
    exact sym_ret1 rfl st.defers (resAt_cell st 4 b4 26 (Con.fr (max ((m + m) + 1) (m + m)) (Rt.of (Rt.ng x) (((Rt.tp x) * (Rat.den y)) + ((Rt.tp y) * (Rat.den x))) ((Rat.den x) * (Rat.den y)))) rfl row26 info26) hb (fun v h => by rw [Rt.add_same (Rt.same_ng h34)]; exact Fact.fr_up h (by omega))
  · skip
    refine wp_skip ?_
    refine then_normal ?_
    refine wp_seq ?_
    refine wp_seq ?_
    refine sym_region st [(43, Fact.agg (Con.nn (m + m) ((Rt.tp x) * (Rat.den y)))), (44, Fact.agg (Con.nn (m + m) ((Rt.tp y) * (Rat.den x)))), (45, Fact.two (Fact.agg (Con.nn (m + m) (((Rt.tp x) * (Rat.den y)) - ((Rt.tp y) * (Rat.den x))))) (Fact.eq (.bool (decide ((Rt.tp y) * (Rat.den x) ≤ (Rt.tp x) * (Rat.den y)))))), (42, Fact.two (Fact.agg (Con.nn (m + m) (((Rt.tp x) * (Rat.den y)) - ((Rt.tp y) * (Rat.den x))))) (Fact.eq (.bool (decide ((Rt.tp y) * (Rat.den x) ≤ (Rt.tp x) * (Rat.den y)))))), (46, Fact.agg (Con.nn (m + m) (((Rt.tp x) * (Rat.den y)) - ((Rt.tp y) * (Rat.den x))))), (47, Fact.eq (.bool (decide ((Rt.tp y) * (Rat.den x) ≤ (Rt.tp x) * (Rat.den y))))), (8, Fact.var' (Con.raw 1))] [8] 7 (by kernel_rfl) (by kernel_rfl) (by kernel_rfl) (Nat.le_of_ble_eq_true rfl) (by kernel_rfl) rfl rfl ?_ ?_
    · refine fcn (ob_read 24 5 43 (Con.nn (m + m) ((Rt.tp x) * (Rat.den y))) rfl rfl (.inl rfl) (by kernel_rfl) points_cell rfl row24 info24) ?_
      refine fcn (ob_read 24 6 44 (Con.nn (m + m) ((Rt.tp y) * (Rat.den x))) rfl rfl (.inl rfl) (by kernel_rfl) points_cell rfl row24 info24) ?_
      refine fcn (ob_call2 42 43 44 45 _ rfl rfl (.inl rfl) (by kernel_rfl) (by kernel_rfl) (by kernel_rfl) (n_sub (m + m) (m + m) ((Rt.tp x) * (Rat.den y)) ((Rt.tp y) * (Rat.den x)) (by omega))) ?_
      refine fcn (ob_copy 45 42 (.inl rfl) rfl (.inl rfl) (by kernel_rfl) rfl) ?_
      refine fcn (ob_fst 42 46 (Fact.agg (Con.nn (m + m) (((Rt.tp x) * (Rat.den y)) - ((Rt.tp y) * (Rat.den x))))) (Fact.eq (.bool (decide ((Rt.tp y) * (Rat.den x) ≤ (Rt.tp x) * (Rat.den y))))) rfl rfl (.inl rfl) (by kernel_rfl) rfl rfl) ?_
      refine fcn (ob_snd 42 47 (Fact.agg (Con.nn (m + m) (((Rt.tp x) * (Rat.den y)) - ((Rt.tp y) * (Rat.den x))))) (Fact.eq (.bool (decide ((Rt.tp y) * (Rat.den x) ≤ (Rt.tp x) * (Rat.den y))))) rfl rfl (.inl rfl) (by kernel_rfl) rfl rfl) ?_
      refine fcs ⟨obn_new 24 8 _ [.slice none 0 0] rfl rfl rfl rfl rfl alloc24, ?_⟩
      exact fnl
    intro a10 w10 st10 hbr10 hfr
    have hs10 := hbr10.size
    have hb := up hb hbr10
    obtain ⟨b8, c8⟩ := (show (Fact.var' (Con.raw 1)).holds _ _ from st10.at_ 8)
    have g8 := hfr.ge (s := 8) rfl c8.1
    have st : St 65 [(2, Fact.cell b2 (Con.fr m x)), (3, Fact.cell b3 (Con.fr m y)), (4, Fact.cell b4 (Con.raw 3)), (5, Fact.cell b5 (Con.nn (m + m) ((Rt.tp x) * (Rat.den y)))), (6, Fact.cell b6 (Con.nn (m + m) ((Rt.tp y) * (Rat.den x)))), (7, Fact.cell b7 (Con.nn (m + m) ((Rat.den x) * (Rat.den y)))), (46, Fact.agg (Con.nn (m + m) (((Rt.tp x) * (Rat.den y)) - ((Rt.tp y) * (Rat.den x))))), (47, Fact.eq (.bool (decide ((Rt.tp y) * (Rat.den x) ≤ (Rt.tp x) * (Rat.den y))))), (8, Fact.cell b8 (Con.raw 1))] a10 w10 := st10.to (fcs ⟨st10.at_ 2, fcs ⟨st10.at_ 3, fcs ⟨st10.at_ 4, fcs ⟨st10.at_ 5, fcs ⟨st10.at_ 6, fcs ⟨st10.at_ 7, fcs ⟨st10.at_ 46, fcs ⟨st10.at_ 47, fcs ⟨c8, fnl⟩⟩⟩⟩⟩⟩⟩⟩⟩)
    clear st10 hbr10 hfr c8
    refine sym_store st 24 8 46 b8 (Con.raw 1) (Con.nn (m + m) (((Rt.tp x) * (Rat.den y)) - ((Rt.tp y) * (Rat.den x)))) [(2, Fact.cell b2 (Con.fr m x)), (3, Fact.cell b3 (Con.fr m y)), (4, Fact.cell b4 (Con.raw 3)), (5, Fact.cell b5 (Con.nn (m + m) ((Rt.tp x) * (Rat.den y)))), (6, Fact.cell b6 (Con.nn (m + m) ((Rt.tp y) * (Rat.den x)))), (7, Fact.cell b7 (Con.nn (m + m) ((Rat.den x) * (Rat.den y)))), (47, Fact.eq (.bool (decide ((Rt.tp y) * (Rat.den x) ≤ (Rt.tp x) * (Rat.den y))))), (8, Fact.cell b8 (Con.nn (m + m) (((Rt.tp x) * (Rat.den y)) - ((Rt.tp y) * (Rat.den x)))))] rfl rfl rfl rfl rfl rfl info24 ?_ ?_
    · exact fcs ⟨.inr ⟨rfl, safe_cell _ (by omega)⟩, fcs ⟨.inr ⟨rfl, safe_cell _ (by omega)⟩, fcs ⟨.inr ⟨rfl, safe_cell _ (by omega)⟩, fcs ⟨.inr ⟨rfl, safe_cell _ (by omega)⟩, fcs ⟨.inr ⟨rfl, safe_cell _ (by omega)⟩, fcs ⟨.inr ⟨rfl, safe_cell _ (by omega)⟩, fcs ⟨.inr ⟨rfl, safe_eq _ _⟩, fcs ⟨.inl rfl, fnl⟩⟩⟩⟩⟩⟩⟩⟩
    clear st; intro w11 hB hsz11 st
    have hb := hB _ _ hb (by omega) (by omega)
    clear hB
    refine sym_op st 9 (Fact.eq (.bool (decide ((Rt.tp y) * (Rat.den x) ≤ (Rt.tp x) * (Rat.den y))))) rfl (Nat.le_of_ble_eq_true rfl) rfl rfl (by kernel_rfl) (ob_copy 47 9 (.inr rfl) rfl (.inl rfl) (by kernel_rfl) rfl) ?_
    clear st; intro a12 w12 hbr st; have hs12 := hbr.size; have hb := up hb hbr; clear hbr
    refine wpList_nil ?_
    refine then_normal ?_
    refine wp_seq ?_
    refine sym_region st [(48, Fact.eq (.bool (decide ((Rt.tp y) * (Rat.den x) ≤ (Rt.tp x) * (Rat.den y)))))] [] 1 (by kernel_rfl) (by kernel_rfl) (by kernel_rfl) (Nat.le_of_ble_eq_true rfl) (by kernel_rfl) rfl rfl ?_ ?_
    · refine fcn (ob_copy 9 48 (.inl rfl) rfl (.inl rfl) (by kernel_rfl) rfl) ?_
      exact fnl
    intro a13 w13 st13 hbr13 hfr
    have hs13 := hbr13.size
    have hb := up hb hbr13
    have st : St 65 [(2, Fact.cell b2 (Con.fr m x)), (3, Fact.cell b3 (Con.fr m y)), (4, Fact.cell b4 (Con.raw 3)), (5, Fact.cell b5 (Con.nn (m + m) ((Rt.tp x) * (Rat.den y)))), (6, Fact.cell b6 (Con.nn (m + m) ((Rt.tp y) * (Rat.den x)))), (7, Fact.cell b7 (Con.nn (m + m) ((Rat.den x) * (Rat.den y)))), (8, Fact.cell b8 (Con.nn (m + m) (((Rt.tp x) * (Rat.den y)) - ((Rt.tp y) * (Rat.den x))))), (48, Fact.eq (.bool (decide ((Rt.tp y) * (Rat.den x) ≤ (Rt.tp x) * (Rat.den y)))))] a13 w13 := st13.to (fcs ⟨st13.at_ 2, fcs ⟨st13.at_ 3, fcs ⟨st13.at_ 4, fcs ⟨st13.at_ 5, fcs ⟨st13.at_ 6, fcs ⟨st13.at_ 7, fcs ⟨st13.at_ 8, fcs ⟨st13.at_ 48, fnl⟩⟩⟩⟩⟩⟩⟩⟩)
    clear st13 hbr13 hfr
    refine wpList_nil ?_
    refine then_normal ?_
    refine wp_cond_split (st.at_ 48) (fun h48 => ?_) (fun h48 => ?_)
    · skip
      refine wp_seq ?_
      refine sym_region st [(49, Fact.ptr (Con.bool (Rt.ng x))), (50, Fact.eq (.bool (Rt.ng x))), (51, Fact.agg (Con.nn (m + m) (((Rt.tp x) * (Rat.den y)) - ((Rt.tp y) * (Rat.den x))))), (52, Fact.agg (Con.nn (m + m) ((Rat.den x) * (Rat.den y)))), (53, Fact.agg (Con.fr (m + m) (Rt.of (Rt.ng x) (((Rt.tp x) * (Rat.den y)) - ((Rt.tp y) * (Rat.den x))) ((Rat.den x) * (Rat.den y)))))] [] 5 (by kernel_rfl) (by kernel_rfl) (by kernel_rfl) (Nat.le_of_ble_eq_true rfl) (by kernel_rfl) rfl rfl ?_ ?_
      · refine fcn (ob_addr 26 0 2 49 0 (Con.fr m x) (Con.bool (Rt.ng x)) rfl rfl (.inl rfl) (by kernel_rfl) points_cell rfl (Con.fr_ng m x) field26_0) ?_
        refine fcn (ob_readb 49 50 (Rt.ng x) (Rt.ng x) rfl rfl rfl (.inl rfl) (by kernel_rfl) points_ptr rfl) ?_
        refine fcn (ob_read 24 8 51 (Con.nn (m + m) (((Rt.tp x) * (Rat.den y)) - ((Rt.tp y) * (Rat.den x)))) rfl rfl (.inl rfl) (by kernel_rfl) points_cell rfl row24 info24) ?_
        refine fcn (ob_read 24 7 52 (Con.nn (m + m) ((Rat.den x) * (Rat.den y))) rfl rfl (.inl rfl) (by kernel_rfl) points_cell rfl row24 info24) ?_
        refine fcn (ob_call3 40 50 51 52 53 _ rfl rfl (.inl rfl) (by kernel_rfl) (by kernel_rfl) (by kernel_rfl) (by kernel_rfl) (q_reduced (m + m) (m + m) (m + m) (Rt.ng x) (((Rt.tp x) * (Rat.den y)) - ((Rt.tp y) * (Rat.den x))) ((Rat.den x) * (Rat.den y)) (Rt.den_mul_ne x y) (by omega) (by omega) (by omega))) ?_
        exact fnl
      intro a14 w14 st14 hbr14 hfr
      have hs14 := hbr14.size
      have hb := up hb hbr14
      have st : St 65 [(3, Fact.cell b3 (Con.fr m y)), (4, Fact.cell b4 (Con.raw 3)), (5, Fact.cell b5 (Con.nn (m + m) ((Rt.tp x) * (Rat.den y)))), (6, Fact.cell b6 (Con.nn (m + m) ((Rt.tp y) * (Rat.den x)))), (7, Fact.cell b7 (Con.nn (m + m) ((Rat.den x) * (Rat.den y)))), (53, Fact.agg (Con.fr (m + m) (Rt.of (Rt.ng x) (((Rt.tp x) * (Rat.den y)) - ((Rt.tp y) * (Rat.den x))) ((Rat.den x) * (Rat.den y)))))] a14 w14 := st14.to (fcs ⟨st14.at_ 3, fcs ⟨st14.at_ 4, fcs ⟨st14.at_ 5, fcs ⟨st14.at_ 6, fcs ⟨st14.at_ 7, fcs ⟨st14.at_ 53, fnl⟩⟩⟩⟩⟩⟩)
      clear st14 hbr14 hfr
      refine sym_store st 26 4 53 b4 (Con.raw 3) (Con.fr (m + m) (Rt.of (Rt.ng x) (((Rt.tp x) * (Rat.den y)) - ((Rt.tp y) * (Rat.den x))) ((Rat.den x) * (Rat.den y)))) [(3, Fact.cell b3 (Con.fr m y)), (4, Fact.cell b4 (Con.fr (m + m) (Rt.of (Rt.ng x) (((Rt.tp x) * (Rat.den y)) - ((Rt.tp y) * (Rat.den x))) ((Rat.den x) * (Rat.den y))))), (5, Fact.cell b5 (Con.nn (m + m) ((Rt.tp x) * (Rat.den y)))), (6, Fact.cell b6 (Con.nn (m + m) ((Rt.tp y) * (Rat.den x)))), (7, Fact.cell b7 (Con.nn (m + m) ((Rat.den x) * (Rat.den y))))] rfl rfl rfl rfl rfl rfl info26 ?_ ?_
      · exact fcs ⟨.inr ⟨rfl, safe_cell _ (by omega)⟩, fcs ⟨.inl rfl, fcs ⟨.inr ⟨rfl, safe_cell _ (by omega)⟩, fcs ⟨.inr ⟨rfl, safe_cell _ (by omega)⟩, fcs ⟨.inr ⟨rfl, safe_cell _ (by omega)⟩, fnl⟩⟩⟩⟩⟩
      clear st; intro w15 hB hsz15 st
      have hb := hB _ _ hb (by omega) (by omega)
      clear hB
      refine wpList_nil ?_
      refine then_normal ?_
      refine wp_ret ?_
      exact sym_ret1 rfl st.defers (resAt_cell st 4 b4 26 (Con.fr (m + m) (Rt.of (Rt.ng x) (((Rt.tp x) * (Rat.den y)) - ((Rt.tp y) * (Rat.den x))) ((Rat.den x) * (Rat.den y)))) rfl row26 info26) hb (fun v h => by rw [Rt.add_mixed_ge h34 (of_decide_eq_true h48)]; exact Fact.fr_up h (by omega))
    · skip
      refine wp_skip ?_
      refine then_normal ?_
      refine wp_seq ?_
      refine sym_region st [(55, Fact.agg (Con.nn (m + m) ((Rt.tp y) * (Rat.den x)))), (56, Fact.agg (Con.nn (m + m) ((Rt.tp x) * (Rat.den y)))), (57, Fact.two (Fact.agg (Con.nn (m + m) (((Rt.tp y) * (Rat.den x)) - ((Rt.tp x) * (Rat.den y))))) (Fact.eq (.bool (decide ((Rt.tp x) * (Rat.den y) ≤ (Rt.tp y) * (Rat.den x)))))), (54, Fact.two (Fact.agg (Con.nn (m + m) (((Rt.tp y) * (Rat.den x)) - ((Rt.tp x) * (Rat.den y))))) (Fact.eq (.bool (decide ((Rt.tp x) * (Rat.den y) ≤ (Rt.tp y) * (Rat.den x)))))), (58, Fact.agg (Con.nn (m + m) (((Rt.tp y) * (Rat.den x)) - ((Rt.tp x) * (Rat.den y))))), (59, Fact.eq (.bool (decide ((Rt.tp x) * (Rat.den y) ≤ (Rt.tp y) * (Rat.den x))))), (10, Fact.var' (Con.raw 1))] [10] 7 (by kernel_rfl) (by kernel_rfl) (by kernel_rfl) (Nat.le_of_ble_eq_true rfl) (by kernel_rfl) rfl rfl ?_ ?_
      · refine fcn (ob_read 24 6 55 (Con.nn (m + m) ((Rt.tp y) * (Rat.den x))) rfl rfl (.inl rfl) (by kernel_rfl) points_cell rfl row24 info24) ?_
        refine fcn (ob_read 24 5 56 (Con.nn (m + m) ((Rt.tp x) * (Rat.den y))) rfl rfl (.inl rfl) (by kernel_rfl) points_cell rfl row24 info24) ?_
        refine fcn (ob_call2 42 55 56 57 _ rfl rfl (.inl rfl) (by kernel_rfl) (by kernel_rfl) (by kernel_rfl) (n_sub (m + m) (m + m) ((Rt.tp y) * (Rat.den x)) ((Rt.tp x) * (Rat.den y)) (by omega))) ?_
        refine fcn (ob_copy 57 54 (.inl rfl) rfl (.inl rfl) (by kernel_rfl) rfl) ?_
        refine fcn (ob_fst 54 58 (Fact.agg (Con.nn (m + m) (((Rt.tp y) * (Rat.den x)) - ((Rt.tp x) * (Rat.den y))))) (Fact.eq (.bool (decide ((Rt.tp x) * (Rat.den y) ≤ (Rt.tp y) * (Rat.den x))))) rfl rfl (.inl rfl) (by kernel_rfl) rfl rfl) ?_
        refine fcn (ob_snd 54 59 (Fact.agg (Con.nn (m + m) (((Rt.tp y) * (Rat.den x)) - ((Rt.tp x) * (Rat.den y))))) (Fact.eq (.bool (decide ((Rt.tp x) * (Rat.den y) ≤ (Rt.tp y) * (Rat.den x))))) rfl rfl (.inl rfl) (by kernel_rfl) rfl rfl) ?_
        refine fcs ⟨obn_new 24 10 _ [.slice none 0 0] rfl rfl rfl rfl rfl alloc24, ?_⟩
        exact fnl
      intro a16 w16 st16 hbr16 hfr
      have hs16 := hbr16.size
      have hb := up hb hbr16
      obtain ⟨b10, c10⟩ := (show (Fact.var' (Con.raw 1)).holds _ _ from st16.at_ 10)
      have g10 := hfr.ge (s := 10) rfl c10.1
      have st : St 65 [(3, Fact.cell b3 (Con.fr m y)), (4, Fact.cell b4 (Con.raw 3)), (7, Fact.cell b7 (Con.nn (m + m) ((Rat.den x) * (Rat.den y)))), (58, Fact.agg (Con.nn (m + m) (((Rt.tp y) * (Rat.den x)) - ((Rt.tp x) * (Rat.den y))))), (59, Fact.eq (.bool (decide ((Rt.tp x) * (Rat.den y) ≤ (Rt.tp y) * (Rat.den x))))), (10, Fact.cell b10 (Con.raw 1))] a16 w16 := st16.to (fcs ⟨st16.at_ 3, fcs ⟨st16.at_ 4, fcs ⟨st16.at_ 7, fcs ⟨st16.at_ 58, fcs ⟨st16.at_ 59, fcs ⟨c10, fnl⟩⟩⟩⟩⟩⟩)
      clear st16 hbr16 hfr c10
      refine sym_store st 24 10 58 b10 (Con.raw 1) (Con.nn (m + m) (((Rt.tp y) * (Rat.den x)) - ((Rt.tp x) * (Rat.den y)))) [(3, Fact.cell b3 (Con.fr m y)), (4, Fact.cell b4 (Con.raw 3)), (7, Fact.cell b7 (Con.nn (m + m) ((Rat.den x) * (Rat.den y)))), (59, Fact.eq (.bool (decide ((Rt.tp x) * (Rat.den y) ≤ (Rt.tp y) * (Rat.den x))))), (10, Fact.cell b10 (Con.nn (m + m) (((Rt.tp y) * (Rat.den x)) - ((Rt.tp x) * (Rat.den y)))))] rfl rfl rfl rfl rfl rfl info24 ?_ ?_
      · exact fcs ⟨.inr ⟨rfl, safe_cell _ (by omega)⟩, fcs ⟨.inr ⟨rfl, safe_cell _ (by omega)⟩, fcs ⟨.inr ⟨rfl, safe_cell _ (by omega)⟩, fcs ⟨.inr ⟨rfl, safe_eq _ _⟩, fcs ⟨.inl rfl, fnl⟩⟩⟩⟩⟩
      clear st; intro w17 hB hsz17 st
      have hb := hB _ _ hb (by omega) (by omega)
      clear hB
      refine sym_op st 11 (Fact.eq (.bool (decide ((Rt.tp x) * (Rat.den y) ≤ (Rt.tp y) * (Rat.den x))))) rfl (Nat.le_of_ble_eq_true rfl) rfl rfl (by kernel_rfl) (ob_copy 59 11 (.inr rfl) rfl (.inl rfl) (by kernel_rfl) rfl) ?_
      clear st; intro a18 w18 hbr st; have hs18 := hbr.size; have hb := up hb hbr; clear hbr
      refine wpList_nil ?_
      refine then_normal ?_
      refine wp_seq ?_
      refine sym_region st [(60, Fact.ptr (Con.bool (Rt.ng y))), (61, Fact.eq (.bool (Rt.ng y))), (62, Fact.agg (Con.nn (m + m) (((Rt.tp y) * (Rat.den x)) - ((Rt.tp x) * (Rat.den y))))), (63, Fact.agg (Con.nn (m + m) ((Rat.den x) * (Rat.den y)))), (64, Fact.agg (Con.fr (m + m) (Rt.of (Rt.ng y) (((Rt.tp y) * (Rat.den x)) - ((Rt.tp x) * (Rat.den y))) ((Rat.den x) * (Rat.den y)))))] [] 5 (by kernel_rfl) (by kernel_rfl) (by kernel_rfl) (Nat.le_of_ble_eq_true rfl) (by kernel_rfl) rfl rfl ?_ ?_
      · refine fcn (ob_addr 26 0 3 60 0 (Con.fr m y) (Con.bool (Rt.ng y)) rfl rfl (.inl rfl) (by kernel_rfl) points_cell rfl (Con.fr_ng m y) field26_0) ?_
        refine fcn (ob_readb 60 61 (Rt.ng y) (Rt.ng y) rfl rfl rfl (.inl rfl) (by kernel_rfl) points_ptr rfl) ?_
        refine fcn (ob_read 24 10 62 (Con.nn (m + m) (((Rt.tp y) * (Rat.den x)) - ((Rt.tp x) * (Rat.den y)))) rfl rfl (.inl rfl) (by kernel_rfl) points_cell rfl row24 info24) ?_
        refine fcn (ob_read 24 7 63 (Con.nn (m + m) ((Rat.den x) * (Rat.den y))) rfl rfl (.inl rfl) (by kernel_rfl) points_cell rfl row24 info24) ?_
        refine fcn (ob_call3 40 61 62 63 64 _ rfl rfl (.inl rfl) (by kernel_rfl) (by kernel_rfl) (by kernel_rfl) (by kernel_rfl) (q_reduced (m + m) (m + m) (m + m) (Rt.ng y) (((Rt.tp y) * (Rat.den x)) - ((Rt.tp x) * (Rat.den y))) ((Rat.den x) * (Rat.den y)) (Rt.den_mul_ne x y) (by omega) (by omega) (by omega))) ?_
        exact fnl
      intro a19 w19 st19 hbr19 hfr
      have hs19 := hbr19.size
      have hb := up hb hbr19
      have st : St 65 [(4, Fact.cell b4 (Con.raw 3)), (64, Fact.agg (Con.fr (m + m) (Rt.of (Rt.ng y) (((Rt.tp y) * (Rat.den x)) - ((Rt.tp x) * (Rat.den y))) ((Rat.den x) * (Rat.den y)))))] a19 w19 := st19.to (fcs ⟨st19.at_ 4, fcs ⟨st19.at_ 64, fnl⟩⟩)
      clear st19 hbr19 hfr
      refine sym_store st 26 4 64 b4 (Con.raw 3) (Con.fr (m + m) (Rt.of (Rt.ng y) (((Rt.tp y) * (Rat.den x)) - ((Rt.tp x) * (Rat.den y))) ((Rat.den x) * (Rat.den y)))) [(4, Fact.cell b4 (Con.fr (m + m) (Rt.of (Rt.ng y) (((Rt.tp y) * (Rat.den x)) - ((Rt.tp x) * (Rat.den y))) ((Rat.den x) * (Rat.den y)))))] rfl rfl rfl rfl rfl rfl info26 ?_ ?_
      · exact fcs ⟨.inl rfl, fnl⟩
      clear st; intro w20 hB hsz20 st
      have hb := hB _ _ hb (by omega) (by omega)
      clear hB
      refine wpList_nil ?_
      refine then_normal ?_
      refine wp_ret ?_
      exact sym_ret1 rfl st.defers (resAt_cell st 4 b4 26 (Con.fr (m + m) (Rt.of (Rt.ng y) (((Rt.tp y) * (Rat.den x)) - ((Rt.tp x) * (Rat.den y))) ((Rat.den x) * (Rat.den y)))) rfl row26 info26) hb (fun v h => by rw [Rt.add_mixed_lt h34 (of_decide_eq_false h48)]; exact Fact.fr_up h (by omega))
theorem q_add (k l : Nat) (x y : Rat) (hk : 2 * max k l + 1 ≤ 400) : ∀ v0 v1 w, (Fact.fr k x).holds v0 w → (Fact.fr l y).holds v1 w → Calls Tryz.prog 10 #[v0, v1] w (Ret (Fact.fr (k + l + 1) (x + y)) w) := by
  intro v0 v1 w hv0 hv1
  have z := Rt.Sz.add (Fact.fr_sz hv0) (Fact.fr_sz hv1)
  exact (q_addm (max k l) x y (by omega) v0 v1 w (Fact.fr_up hv0 (Nat.le_max_left k l)) (Fact.fr_up hv1 (Nat.le_max_right k l))).mono fun _ _ h => h.to fun _ h => Fact.fr_is h z
end Go.Proofs.YtjfehdkfogdpgaaGreatDoor
namespace Go.Proofs.YtjfehdkfogdpgaaGreatDoor
open Go.RowKit
section
variable {ops : Array Oper} {Q : Exit → Act → World → Prop} {F : Nat → Fact} {base : List Nat} {N : Nat} {o : Oper}
theorem ob_callm (f : FuncId) (t s d : Nat) (v : Value) (tys : Array TypeId) (ho : o.op = .call { callee := .value (.func f), args := #[.tmp t, .const v, .tmp s], argTypes := tys }) (hd : o.dst = some d) (hg : GuardOk ops F base N o) (hk : known ops base o t = true) (hk2 : known ops base o s = true) (hfn : fnOk f = true)
    (hc : ∀ x u w, (F t).holds x w → (F s).holds u w → Calls Tryz.prog f #[x, v, u] w (Ret (F d) w)) : Ob ops Q F base N o :=
  ob_enter hg fun a w hf => ⟨f, #[a.tmps.getD t undef, v, a.tmps.getD s undef], by simpa [execOp, ho, resolve, Act.eval] using run_invoke hfn _ w, (hc _ _ w (hf t hk) (hf s hk2)).mono fun e w' ⟨u, he, hb, hr⟩ => ⟨u, he, hb, fun s hs => by
    rw [hd] at hs; injection hs with hs; subst hs; exact hr⟩⟩
theorem go_index_str (s : ByteArray) (k c : Nat) (hk : k < s.size) (hc : s[k].toNat = c) (a : Act) (w : World) (t u : Nat) (o : Oper) (ho : o.op = .index 9 (.tmp t) (.tmp u)) (h1 : a.eval (.tmp t) = .string s) (h2 : a.eval (.tmp u) = .int .i64 (k : Int)) :
    (execOp a.eval o).run Tryz.prog w = .ok (.value (.int .u8 (c : Int))) w := by
  subst hc
  simp [execOp, ho, h1, h2]
  go_simp
theorem go_sub_u8 (c r : Nat) (hr : c = r + 48) (hlt : c < 256) (a : Act) (w : World) (t : Nat) (o : Oper) (ho : o.op = .binOp .sub 5 (.tmp t) (.const (.int .u8 48)) 5) (h1 : a.eval (.tmp t) = .int .u8 (c : Int)) :
    (execOp a.eval o).run Tryz.prog w = .ok (.value (.int .u8 (r : Int))) w := by
  have h2 : a.eval (.const (.int .u8 48)) = .int .u8 48 := rfl
  subst hr
  simp [execOp, ho, h1, h2]
  go_simp
  simp [IntKind.wrap, IntKind.signed, IntKind.bits]
  omega
theorem go_conv_u8 (r : Nat) (hr : r < 256) (a : Act) (w : World) (t : Nat) (o : Oper) (ho : o.op = .convert 5 57 (.tmp t)) (h1 : a.eval (.tmp t) = .int .u8 (r : Int)) :
    (execOp a.eval o).run Tryz.prog w = .ok (.value (.int .u64 (r : Int))) w := by
  have hw : IntKind.u64.wrap (r : Int) = (r : Int) := by
    simp [IntKind.wrap, IntKind.signed, IntKind.bits]
    omega
  simp [execOp, ho, h1]
  go_simp
end
end Go.Proofs.YtjfehdkfogdpgaaGreatDoor
namespace Go.Proofs.YtjfehdkfogdpgaaGreatDoor
open Go.RowKit
theorem c_small (zs rs : List Nat) (r : Nat) (hr : r < 4294967296) (hz : zs.length ≤ 390) (hv : Nm.nat (Nm.val zs * 10 + r) = rs) : ∀ x u w, (Fact.num zs).holds x w → (Fact.eq (.int .u64 (r : Int))).holds u w → Calls Tryz.prog 94 #[x, .int .u64 10, u] w (Ret (Fact.num rs) w) := by
  rintro x u w ⟨A, c, rfl, h⟩ rfl
  exact (small_n h hz 10 r (Lib.hid (by decide)) hr rs hv).mono fun e w' ⟨A', c', he, hn, hb⟩ => ⟨_, he, hb, ⟨A', c', rfl, hn⟩⟩
def parseF (s : ByteArray) (zs rs : List Nat) (k c r : Nat) (t : Nat) : Fact := (([(0, Fact.eq (.string s)), (4, Fact.var zs), (5, fI (k : Int)), (40, Fact.num zs), (41, Fact.eq (.string s)), (42, fI (k : Int)), (43, Fact.eq (.int .u8 (c : Int))), (44, Fact.eq (.int .u8 (r : Int))), (45, Fact.eq (.int .u64 (r : Int))), (46, Fact.num rs)] : List (Nat × Fact)).lookup t).getD Fact.any
def ParseRet (s : ByteArray) (e : Ending) (w' : World) : Prop :=
  ∃ A n c zs, e = .returned (.tuple #[nt A n c, .int .i64 (Nm.chk (Bt s) : Int)]) ∧ Num w' A n c zs ∧ (Nm.chk (Bt s) ≠ 0 → zs = []) ∧ (Nm.chk (Bt s) = 0 → zs = Nm.nat (Nm.dval (Bt s)))
theorem parse_err {s : ByteArray} {e : Ending} {w' : World} {n : Nat} (hn : Nm.chk (Bt s) = n) (h0 : n ≠ 0) (he : e = .returned (.tuple #[nt none 0 0, .int .i64 (n : Int)])) : ParseRet s e w' := by
  subst hn
  exact ⟨none, 0, 0, [], he, ⟨.inl rfl, rfl, Nat.le_refl _, Nm.Dig.nil, by decide⟩, fun _ => rfl, fun h => absurd h h0⟩
def RParseRel (b : Nat) (s : ByteArray) (w : World) (iv : Value) (wr : World) : Prop :=
  ∃ (k : Nat) (A : Option Addr) (n c : Nat) (zs : List Nat), k ≤ s.size ∧ iv = .int .i64 (k : Int) ∧ Var wr b A n c zs ∧ wr.frozen? ⟨b, 0, none⟩ = false ∧ Hid (zs = Nm.nat (Nm.dval ((Bt s).take k))) ∧ Hid (Nm.alldec ((Bt s).take k)) ∧ Hid (zs.length ≤ 45) ∧ Below w.heap.size w wr ∧ w.heap.size ≤ wr.heap.size
theorem emp_iff (s : ByteArray) : s.toList.isEmpty = decide (s.size = 0) := by
  rw [ByteArray.toList_eq]
  obtain ⟨⟨l⟩⟩ := s
  cases l <;> simp [ByteArray.size]
theorem ten_small : 10 ^ 400 ≤ 4294967296 ^ 42 := by decide +kernel
theorem chk_bad {l : List Nat} (h0 : l.length ≠ 0) (h4 : ¬ 400 < l.length) (hd : ¬ Nm.alldec l) : Nm.chk l = 2 := by
  unfold Nm.chk
  rw [if_neg h0, if_neg h4, if_pos hd]
theorem chk_lead {l : List Nat} (h0 : l.length ≠ 0) (h4 : ¬ 400 < l.length) (h : l.head? = some 48 ∧ 1 < l.length) : Nm.chk l = 2 := by
  unfold Nm.chk
  rw [if_neg h0, if_neg h4]
  by_cases hd : Nm.alldec l
  · rw [if_neg (by simpa using hd), if_pos h]
  · rw [if_pos hd]
theorem chk_ok {l : List Nat} (h0 : l.length ≠ 0) (h4 : ¬ 400 < l.length) (hd : Nm.alldec l) (h : ¬ (l.head? = some 48 ∧ 1 < l.length)) : Nm.chk l = 0 := by
  unfold Nm.chk
  rw [if_neg h0, if_neg h4, if_neg (by simpa using hd), if_neg h]
set_option maxRecDepth 100000 in
set_option maxHeartbeats 2000000 in
theorem refParse_any (s : ByteArray) (w : World) (hs : s.size ≤ 1000000) :
    Calls Tryz.prog 71 #[.string s] w fun e w' => ParseRet s e w' ∧ Below w.heap.size w w' := by
  have hl := Bt_length s
  have he := emp_iff s
  by_cases h0 : s.size = 0
  · have hc : Nm.chk (Bt s) = 1 := by unfold Nm.chk; rw [if_pos (by omega)]
    have Hc := Lib.hid hc
    rw [decide_eq_true h0] at he
    clear hl hc
    go_enter Tryz.func71, Tryz.ntmps71
    go_wp2_with fail
    refine bodyPost_ret (v := .tuple #[nt none 0 0, .int .i64 1]) (by simp [results, Tryz.results71, go_sem]) rfl ⟨parse_err Hc.out (by decide) rfl, ?_⟩
    exact one _ _
  rw [decide_eq_false h0] at he
  by_cases h4 : 400 < s.size
  · have hc : Nm.chk (Bt s) = 3 := by unfold Nm.chk; rw [if_neg (by omega), if_pos (by omega)]
    have Hc := Lib.hid hc
    clear hl hc
    go_enter Tryz.func71, Tryz.ntmps71
    go_wp2_with fail
    refine bodyPost_ret (v := .tuple #[nt none 0 0, .int .i64 3]) (by simp [results, Tryz.results71, go_sem]) rfl ⟨parse_err Hc.out (by decide) rfl, ?_⟩
    exact one _ _
  have hs0 : 0 < s.size := by omega
  have hat0 := Bt_at s 0 hs0
  obtain ⟨d, hd⟩ : ∃ d : Nat, s[0].toNat = d := ⟨_, rfl⟩
  rw [hd] at hat0
  have hhead : (Bt s).head? = some d := by rw [List.head?_eq_getElem?]; exact hat0
  have Hhead := Lib.hid hhead
  clear hat0 hhead
  by_cases h48 : d = 48
  · subst h48
    by_cases h1 : 1 < s.size
    · have hc : Nm.chk (Bt s) = 2 := chk_lead (by omega) (by omega) ⟨Hhead.out, by omega⟩
      have Hc := Lib.hid hc
      clear hl hc
      go_enter Tryz.func71, Tryz.ntmps71
      go_wp2_with fail
      refine bodyPost_ret (v := .tuple #[nt none 0 0, .int .i64 2]) (by simp [results, Tryz.results71, go_sem]) rfl ⟨parse_err Hc.out (by decide) rfl, ?_⟩
      exact one _ _
    · go_enter Tryz.func71, Tryz.ntmps71
      go_wp2_with fail
      have va : Var ((w.alloc (Obj.cells #[Value.slice none 0 0] 24)).alloc (Obj.cells #[Value.slice none 0 0] 24)) (w.heap.size + 1) none 0 0 [] := Var.at_ ⟨.inl rfl, rfl, Nat.le_refl _, Nm.Dig.nil, by decide⟩ (by simp)
      have fa : ((w.alloc (Obj.cells #[Value.slice none 0 0] 24)).alloc (Obj.cells #[Value.slice none 0 0] 24)).frozen? ⟨w.heap.size + 1, 0, none⟩ = false := new_soft _ _ _ _ (by simp)
      have hb0 := one w (Obj.cells #[Value.slice none 0 0] 24)
      have hcell0 : (w.alloc (Obj.cells #[Value.slice none 0 0] 24)).cell? ⟨w.heap.size, 0, none⟩ = some (.slice none 0 0) := new_cell _ _ _ _ rfl
      have hfz0 : (w.alloc (Obj.cells #[Value.slice none 0 0] 24)).frozen? ⟨w.heap.size, 0, none⟩ = false := new_soft _ _ _ _ rfl
      have hb1 := one (w.alloc (Obj.cells #[Value.slice none 0 0] 24)) (Obj.cells #[Value.slice none 0 0] 24)
      have hs0 : (w.alloc (Obj.cells #[Value.slice none 0 0] 24)).heap.size = w.heap.size + 1 := by simp
      go_loopw [5] (fun iv wr => RParseRel (w.heap.size + 1) s (w.alloc (Obj.cells #[Value.slice none 0 0] 24)) iv wr) (fun i _ => s.size - (intOf i).toNat)
      case atStart => exact ⟨0, none, 0, 0, [], Nat.zero_le _, rfl, va, fa, by show _ = _; simp [Nm.dval, Nm.nat_zero], fun _ h => by simp at h, by show _ ≤ _; decide, hb1, hb1.size⟩
      case round =>
        obtain ⟨k, A, n, c1, zs, hk, rfl, va, fa, hzv, hdec, Hzl, hbj, hBj⟩ := hrel
        obtain rfl := va.num.len
        obtain ⟨k1, k2⟩ := seen hbj
        have hcr : wr.cell? ⟨w.heap.size, 0, none⟩ = some (.slice none 0 0) := by rw [k1 _ _ (by omega)]; exact hcell0
        have hfr : wr.frozen? ⟨w.heap.size, 0, none⟩ = false := by rw [k2 _ _ (by omega)]; exact hfz0
        have kva := va.cell
        clear k1 k2
        by_cases hlt : k < s.size
        · have hat := Bt_at s k hlt
          obtain ⟨c, hc⟩ : ∃ c : Nat, s[k].toNat = c := ⟨_, rfl⟩
          rw [hc] at hat
          by_cases hlo : c < 48
          · have hfin : Nm.chk (Bt s) = 2 := chk_bad (by omega) (by omega) fun h => by
              have := h c (List.mem_of_getElem? hat)
              omega
            have Hf := Lib.hid hfin
            have hlo2 : (c : Int) < 48 := by omega
            clear hat hfin
            go_wp2_with fail
            refine bodyPost_ret (v := .tuple #[nt none 0 0, .int .i64 2]) (by simp [results, Tryz.results71, go_sem, hcr]) rfl ⟨parse_err Hf.out (by decide) rfl, (hb0.trans (hbj.mono (by omega))).setCell (Nat.le_refl _) _⟩
          · by_cases hhi : 57 < c
            · have hfin : Nm.chk (Bt s) = 2 := chk_bad (by omega) (by omega) fun h => by
                have := h c (List.mem_of_getElem? hat)
                omega
              have Hf := Lib.hid hfin
              have hlo2 : ¬ (c : Int) < 48 := by omega
              have hhi2 : (57 : Int) < (c : Int) := by omega
              clear hat hfin
              go_wp2_with fail
              refine bodyPost_ret (v := .tuple #[nt none 0 0, .int .i64 2]) (by simp [results, Tryz.results71, go_sem, hcr]) rfl ⟨parse_err Hf.out (by decide) rfl, (hb0.trans (hbj.mono (by omega))).setCell (Nat.le_refl _) _⟩
            · have hlo2 : ¬ (c : Int) < 48 := by omega
              have hhi2 : ¬ (57 : Int) < (c : Int) := by omega
              obtain ⟨r, hr⟩ : ∃ r, c = r + 48 := ⟨c - 48, by omega⟩
              have hr9 : c = r + 48 ∧ r < 10 := ⟨hr, by omega⟩
              have hdec2 : Nm.alldec ((Bt s).take (k + 1)) := by
                rw [List.take_add_one, hat]
                intro x hx
                rcases List.mem_append.1 hx with h | h
                · exact hdec.out x h
                · simp at h; omega
              have hdv : Nm.dval ((Bt s).take (k + 1)) = 10 * Nm.dval ((Bt s).take k) + r := by
                rw [Nm.dval_take_succ _ _ _ hat]
                omega
              obtain ⟨rs, hrs⟩ : ∃ rs, Nm.nat (Nm.val zs * 10 + r) = rs := ⟨_, rfl⟩
              have hrv : rs = Nm.nat (Nm.dval ((Bt s).take (k + 1))) := by rw [← hrs, hdv, hzv.out, Nm.val_nat, Nat.mul_comm]
              have hrl : rs.length ≤ 45 := by
                rw [hrv]
                refine Nat.le_trans (Nm.nat_len (k := 42) (Nat.lt_of_lt_of_le (Nm.dval_lt _ hdec2) ?_)) (by decide)
                refine Nat.le_trans (Nat.pow_le_pow_right (by omega) (?_ : _ ≤ 400)) ten_small
                rw [List.length_take]
                omega
              have Hr := Lib.hid hr9
              have HR := Lib.hid hrs
              have Hrv := Lib.hid hrv
              have Hrl := Lib.hid hrl
              have Hdec2 := Lib.hid hdec2
              clear hat hr hr9 hdec2 hdv hrs hrv hrl
              go_wp2_with fail
              refine wp_region_then (by kernel_rfl) (parseF s zs rs k c r) [4, 0, 5] 48 7 [40, 41, 42, 43, 44, 45, 46] rfl (by kernel_rfl) (by kernel_rfl) (by decide) (by kernel_rfl) ?_ ?_ ?_
              · intro t ht
                simp only [List.mem_cons, List.not_mem_nil, or_false] at ht
                rcases ht with rfl | rfl | rfl
                · exact ⟨_, _, _, rfl, va⟩
                · rfl
                · rfl
              · refine List.forall_mem_cons.2 ⟨ob_load 4 40 zs rfl rfl (by first | exact .inl rfl | exact .inr ⟨_, _, _, rfl, rfl, by kernel_rfl, by decide, rfl⟩) (by kernel_rfl) rfl rfl, ?_⟩
                refine List.forall_mem_cons.2 ⟨ob_copy 0 41 (.inl rfl) rfl (by first | exact .inl rfl | exact .inr ⟨_, _, _, rfl, rfl, by kernel_rfl, by decide, rfl⟩) (by kernel_rfl) rfl, ?_⟩
                refine List.forall_mem_cons.2 ⟨ob_copy 5 42 (.inl rfl) rfl (by first | exact .inl rfl | exact .inr ⟨_, _, _, rfl, rfl, by kernel_rfl, by decide, rfl⟩) (by kernel_rfl) rfl, ?_⟩
                refine List.forall_mem_cons.2 ⟨ob_two 41 42 43 _ _ _ rfl (by first | exact .inl rfl | exact .inr ⟨_, _, _, rfl, rfl, by kernel_rfl, by decide, rfl⟩) (by kernel_rfl) (by kernel_rfl) rfl rfl rfl (fun a w h1 h2 => go_index_str s k c hlt hc a w 41 42 _ rfl h1 h2), ?_⟩
                refine List.forall_mem_cons.2 ⟨ob_one 43 44 _ _ rfl (by first | exact .inl rfl | exact .inr ⟨_, _, _, rfl, rfl, by kernel_rfl, by decide, rfl⟩) (by kernel_rfl) rfl rfl (fun a w h1 => go_sub_u8 c r (by have := Hr.out; omega) (by have := Hr.out; omega) a w 43 _ rfl h1), ?_⟩
                refine List.forall_mem_cons.2 ⟨ob_one 44 45 _ _ rfl (by first | exact .inl rfl | exact .inr ⟨_, _, _, rfl, rfl, by kernel_rfl, by decide, rfl⟩) (by kernel_rfl) rfl rfl (fun a w h1 => go_conv_u8 r (by have := Hr.out; omega) a w 44 _ rfl h1), ?_⟩
                refine List.forall_mem_cons.2 ⟨ob_callm 94 40 45 46 _ _ rfl rfl (by first | exact .inl rfl | exact .inr ⟨_, _, _, rfl, rfl, by kernel_rfl, by decide, rfl⟩) (by kernel_rfl) (by kernel_rfl) (by kernel_rfl) (c_small zs rs r (by have := Hr.out; omega) (by have := Hzl.out; omega) HR.out), ?_⟩
                exact fun _ h => absurd h List.not_mem_nil
              intro vv wv hvv hbv
              obtain ⟨Ar, cr, hv46, nr⟩ := hvv 46 (by decide)
              simp only [lay, List.foldl_cons, List.foldl_nil, List.setIfInBounds_toArray, List.set_cons_succ, List.set_cons_zero, List.drop_succ_cons, List.drop_zero, hv46]
              have hvlt := va.lt
              have va := va.below hbv
              obtain ⟨k1, k2⟩ := seen hbv
              have fa2 : wv.frozen? ⟨w.heap.size + 1, 0, none⟩ = false := by rw [k2 _ _ hvlt]; exact fa
              clear k1 k2 kva
              have kva := va.cell
              go_wp2_with fail
              refine ⟨⟨k + 1, Ar, rs.length, cr, rs, by omega, by go_num, ⟨by simpa using va.lt, World.cell?_setCell_same (u := _) _ _ _ kva, ⟨nr.rd.setCell kva (by simp), rfl, nr.cap, nr.dig, nr.small⟩⟩, by rw [World.frozen?_setCell]; exact fa2, Hrv, Hdec2, Hrl, (up hbj hbv).setCell (by show _ ≤ w.heap.size + 1; omega) _, ?_⟩, by simp [intOf]; omega⟩
              simpa using Nat.le_trans hBj hbv.size
        · have hkk : k = s.size := by omega
          have hfin : Nm.chk (Bt s) = 0 ∧ zs = Nm.nat (Nm.dval (Bt s)) := by
            have h1 : (Bt s).take k = Bt s := List.take_of_length_le (by omega)
            refine ⟨chk_ok (by omega) (by omega) (h1 ▸ hdec.out) ?_, ?_⟩
            · intro h
              omega
            · rw [hzv.out, h1]
          have Hf := Lib.hid hfin
          clear hfin hkk
          go_wp2_with fail
          refine bodyPost_ret (v := .tuple #[nt A zs.length c1, .int .i64 0]) (by simp [results, Tryz.results71, go_sem, hcr]) rfl ⟨⟨A, zs.length, c1, zs, by rw [Hf.out.1]; rfl, ⟨va.num.rd.setCell hcr (by simp), rfl, va.num.cap, va.num.dig, va.num.small⟩, fun h => absurd Hf.out.1 h, fun _ => Hf.out.2⟩, (hb0.trans (hbj.mono (by omega))).setCell (Nat.le_refl _) _⟩
  · have hb48 : ((d : Int) == 48) = false := by rw [beq_eq_false_iff_ne]; omega
    go_enter Tryz.func71, Tryz.ntmps71
    go_wp2_with fail
    have va : Var ((w.alloc (Obj.cells #[Value.slice none 0 0] 24)).alloc (Obj.cells #[Value.slice none 0 0] 24)) (w.heap.size + 1) none 0 0 [] := Var.at_ ⟨.inl rfl, rfl, Nat.le_refl _, Nm.Dig.nil, by decide⟩ (by simp)
    have fa : ((w.alloc (Obj.cells #[Value.slice none 0 0] 24)).alloc (Obj.cells #[Value.slice none 0 0] 24)).frozen? ⟨w.heap.size + 1, 0, none⟩ = false := new_soft _ _ _ _ (by simp)
    have hb0 := one w (Obj.cells #[Value.slice none 0 0] 24)
    have hcell0 : (w.alloc (Obj.cells #[Value.slice none 0 0] 24)).cell? ⟨w.heap.size, 0, none⟩ = some (.slice none 0 0) := new_cell _ _ _ _ rfl
    have hfz0 : (w.alloc (Obj.cells #[Value.slice none 0 0] 24)).frozen? ⟨w.heap.size, 0, none⟩ = false := new_soft _ _ _ _ rfl
    have hb1 := one (w.alloc (Obj.cells #[Value.slice none 0 0] 24)) (Obj.cells #[Value.slice none 0 0] 24)
    have hs0 : (w.alloc (Obj.cells #[Value.slice none 0 0] 24)).heap.size = w.heap.size + 1 := by simp
    go_loopw [5] (fun iv wr => RParseRel (w.heap.size + 1) s (w.alloc (Obj.cells #[Value.slice none 0 0] 24)) iv wr) (fun i _ => s.size - (intOf i).toNat)
    case atStart => exact ⟨0, none, 0, 0, [], Nat.zero_le _, rfl, va, fa, by show _ = _; simp [Nm.dval, Nm.nat_zero], fun _ h => by simp at h, by show _ ≤ _; decide, hb1, hb1.size⟩
    case round =>
      obtain ⟨k, A, n, c1, zs, hk, rfl, va, fa, hzv, hdec, Hzl, hbj, hBj⟩ := hrel
      obtain rfl := va.num.len
      obtain ⟨k1, k2⟩ := seen hbj
      have hcr : wr.cell? ⟨w.heap.size, 0, none⟩ = some (.slice none 0 0) := by rw [k1 _ _ (by omega)]; exact hcell0
      have hfr : wr.frozen? ⟨w.heap.size, 0, none⟩ = false := by rw [k2 _ _ (by omega)]; exact hfz0
      have kva := va.cell
      clear k1 k2
      by_cases hlt : k < s.size
      · have hat := Bt_at s k hlt
        obtain ⟨c, hc⟩ : ∃ c : Nat, s[k].toNat = c := ⟨_, rfl⟩
        rw [hc] at hat
        by_cases hlo : c < 48
        · have hfin : Nm.chk (Bt s) = 2 := chk_bad (by omega) (by omega) fun h => by
            have := h c (List.mem_of_getElem? hat)
            omega
          have Hf := Lib.hid hfin
          have hlo2 : (c : Int) < 48 := by omega
          clear hat hfin
          go_wp2_with fail
          refine bodyPost_ret (v := .tuple #[nt none 0 0, .int .i64 2]) (by simp [results, Tryz.results71, go_sem, hcr]) rfl ⟨parse_err Hf.out (by decide) rfl, (hb0.trans (hbj.mono (by omega))).setCell (Nat.le_refl _) _⟩
        · by_cases hhi : 57 < c
          · have hfin : Nm.chk (Bt s) = 2 := chk_bad (by omega) (by omega) fun h => by
              have := h c (List.mem_of_getElem? hat)
              omega
            have Hf := Lib.hid hfin
            have hlo2 : ¬ (c : Int) < 48 := by omega
            have hhi2 : (57 : Int) < (c : Int) := by omega
            clear hat hfin
            go_wp2_with fail
            refine bodyPost_ret (v := .tuple #[nt none 0 0, .int .i64 2]) (by simp [results, Tryz.results71, go_sem, hcr]) rfl ⟨parse_err Hf.out (by decide) rfl, (hb0.trans (hbj.mono (by omega))).setCell (Nat.le_refl _) _⟩
          · have hlo2 : ¬ (c : Int) < 48 := by omega
            have hhi2 : ¬ (57 : Int) < (c : Int) := by omega
            obtain ⟨r, hr⟩ : ∃ r, c = r + 48 := ⟨c - 48, by omega⟩
            have hr9 : c = r + 48 ∧ r < 10 := ⟨hr, by omega⟩
            have hdec2 : Nm.alldec ((Bt s).take (k + 1)) := by
              rw [List.take_add_one, hat]
              intro x hx
              rcases List.mem_append.1 hx with h | h
              · exact hdec.out x h
              · simp at h; omega
            have hdv : Nm.dval ((Bt s).take (k + 1)) = 10 * Nm.dval ((Bt s).take k) + r := by
              rw [Nm.dval_take_succ _ _ _ hat]
              omega
            obtain ⟨rs, hrs⟩ : ∃ rs, Nm.nat (Nm.val zs * 10 + r) = rs := ⟨_, rfl⟩
            have hrv : rs = Nm.nat (Nm.dval ((Bt s).take (k + 1))) := by rw [← hrs, hdv, hzv.out, Nm.val_nat, Nat.mul_comm]
            have hrl : rs.length ≤ 45 := by
              rw [hrv]
              refine Nat.le_trans (Nm.nat_len (k := 42) (Nat.lt_of_lt_of_le (Nm.dval_lt _ hdec2) ?_)) (by decide)
              refine Nat.le_trans (Nat.pow_le_pow_right (by omega) (?_ : _ ≤ 400)) ten_small
              rw [List.length_take]
              omega
            have Hr := Lib.hid hr9
            have HR := Lib.hid hrs
            have Hrv := Lib.hid hrv
            have Hrl := Lib.hid hrl
            have Hdec2 := Lib.hid hdec2
            clear hat hr hr9 hdec2 hdv hrs hrv hrl
            go_wp2_with fail
            refine wp_region_then (by kernel_rfl) (parseF s zs rs k c r) [4, 0, 5] 48 7 [40, 41, 42, 43, 44, 45, 46] rfl (by kernel_rfl) (by kernel_rfl) (by decide) (by kernel_rfl) ?_ ?_ ?_
            · intro t ht
              simp only [List.mem_cons, List.not_mem_nil, or_false] at ht
              rcases ht with rfl | rfl | rfl
              · exact ⟨_, _, _, rfl, va⟩
              · rfl
              · rfl
            · refine List.forall_mem_cons.2 ⟨ob_load 4 40 zs rfl rfl (by first | exact .inl rfl | exact .inr ⟨_, _, _, rfl, rfl, by kernel_rfl, by decide, rfl⟩) (by kernel_rfl) rfl rfl, ?_⟩
              refine List.forall_mem_cons.2 ⟨ob_copy 0 41 (.inl rfl) rfl (by first | exact .inl rfl | exact .inr ⟨_, _, _, rfl, rfl, by kernel_rfl, by decide, rfl⟩) (by kernel_rfl) rfl, ?_⟩
              refine List.forall_mem_cons.2 ⟨ob_copy 5 42 (.inl rfl) rfl (by first | exact .inl rfl | exact .inr ⟨_, _, _, rfl, rfl, by kernel_rfl, by decide, rfl⟩) (by kernel_rfl) rfl, ?_⟩
              refine List.forall_mem_cons.2 ⟨ob_two 41 42 43 _ _ _ rfl (by first | exact .inl rfl | exact .inr ⟨_, _, _, rfl, rfl, by kernel_rfl, by decide, rfl⟩) (by kernel_rfl) (by kernel_rfl) rfl rfl rfl (fun a w h1 h2 => go_index_str s k c hlt hc a w 41 42 _ rfl h1 h2), ?_⟩
              refine List.forall_mem_cons.2 ⟨ob_one 43 44 _ _ rfl (by first | exact .inl rfl | exact .inr ⟨_, _, _, rfl, rfl, by kernel_rfl, by decide, rfl⟩) (by kernel_rfl) rfl rfl (fun a w h1 => go_sub_u8 c r (by have := Hr.out; omega) (by have := Hr.out; omega) a w 43 _ rfl h1), ?_⟩
              refine List.forall_mem_cons.2 ⟨ob_one 44 45 _ _ rfl (by first | exact .inl rfl | exact .inr ⟨_, _, _, rfl, rfl, by kernel_rfl, by decide, rfl⟩) (by kernel_rfl) rfl rfl (fun a w h1 => go_conv_u8 r (by have := Hr.out; omega) a w 44 _ rfl h1), ?_⟩
              refine List.forall_mem_cons.2 ⟨ob_callm 94 40 45 46 _ _ rfl rfl (by first | exact .inl rfl | exact .inr ⟨_, _, _, rfl, rfl, by kernel_rfl, by decide, rfl⟩) (by kernel_rfl) (by kernel_rfl) (by kernel_rfl) (c_small zs rs r (by have := Hr.out; omega) (by have := Hzl.out; omega) HR.out), ?_⟩
              exact fun _ h => absurd h List.not_mem_nil
            intro vv wv hvv hbv
            obtain ⟨Ar, cr, hv46, nr⟩ := hvv 46 (by decide)
            simp only [lay, List.foldl_cons, List.foldl_nil, List.setIfInBounds_toArray, List.set_cons_succ, List.set_cons_zero, List.drop_succ_cons, List.drop_zero, hv46]
            have hvlt := va.lt
            have va := va.below hbv
            obtain ⟨k1, k2⟩ := seen hbv
            have fa2 : wv.frozen? ⟨w.heap.size + 1, 0, none⟩ = false := by rw [k2 _ _ hvlt]; exact fa
            clear k1 k2 kva
            have kva := va.cell
            go_wp2_with fail
            refine ⟨⟨k + 1, Ar, rs.length, cr, rs, by omega, by go_num, ⟨by simpa using va.lt, World.cell?_setCell_same (u := _) _ _ _ kva, ⟨nr.rd.setCell kva (by simp), rfl, nr.cap, nr.dig, nr.small⟩⟩, by rw [World.frozen?_setCell]; exact fa2, Hrv, Hdec2, Hrl, (up hbj hbv).setCell (by show _ ≤ w.heap.size + 1; omega) _, ?_⟩, by simp [intOf]; omega⟩
            simpa using Nat.le_trans hBj hbv.size
      · have hkk : k = s.size := by omega
        have hfin : Nm.chk (Bt s) = 0 ∧ zs = Nm.nat (Nm.dval (Bt s)) := by
          have h1 : (Bt s).take k = Bt s := List.take_of_length_le (by omega)
          refine ⟨chk_ok (by omega) (by omega) (h1 ▸ hdec.out) ?_, ?_⟩
          · intro h
            exact h48 (Option.some.inj (Hhead.out.symm.trans h.1))
          · rw [hzv.out, h1]
        have Hf := Lib.hid hfin
        clear hfin hkk
        go_wp2_with fail
        refine bodyPost_ret (v := .tuple #[nt A zs.length c1, .int .i64 0]) (by simp [results, Tryz.results71, go_sem, hcr]) rfl ⟨⟨A, zs.length, c1, zs, by rw [Hf.out.1]; rfl, ⟨va.num.rd.setCell hcr (by simp), rfl, va.num.cap, va.num.dig, va.num.small⟩, fun h => absurd Hf.out.1 h, fun _ => Hf.out.2⟩, (hb0.trans (hbj.mono (by omega))).setCell (Nat.le_refl _) _⟩
end Go.Proofs.YtjfehdkfogdpgaaGreatDoor
namespace Go.Proofs.YtjfehdkfogdpgaaGreatDoor
namespace Nm
theorem dval_cons (c : Nat) (l : List Nat) : dval (c :: l) = 10 ^ l.length * (c - 48) + dval l := by
  have h := dval_append [c] l
  have h1 : dval [c] = c - 48 := by simp [dval]
  rw [h1] at h
  exact h
theorem dval_digs (k v : Nat) : dval (digs k v).reverse = v % 10 ^ k := by
  induction k with
  | zero => simp [digs, dval, Nat.mod_one]
  | succ k ih =>
    rw [digs_succ, List.reverse_append]
    show dval ((48 + v / 10 ^ k % 10) :: (digs k v).reverse) = _
    rw [dval_cons, ih, List.length_reverse, digs_length, Nat.add_sub_cancel_left, Nat.mod_pow_succ, Nat.add_comm]
theorem dval_dec (v : Nat) : dval (dec v) = v := by
  unfold dec
  split
  · rename_i h; subst h; rfl
  · rw [dval_digs, Nat.mod_eq_of_lt (lt_nd v)]
theorem digs_dval : ∀ (m : List Nat), alldec m → digs m.length (dval m.reverse) = m := by
  intro m
  induction m with
  | nil => intro _; rfl
  | cons c m ih =>
    intro h
    have h1 := h c (by simp)
    have h2 := ih fun x hx => h x (by simp [hx])
    rw [List.reverse_cons, dval_snoc, List.length_cons, Nat.add_comm m.length 1, digs_add]
    have h3 : (10 * dval m.reverse + (c - 48)) / 10 ^ 1 = dval m.reverse := by omega
    have h4 : digs 1 (10 * dval m.reverse + (c - 48)) = [c] := by
      simp [digs]
      omega
    rw [h3, h2, h4]
    rfl
theorem dec_dval {l : List Nat} (h0 : l.length ≠ 0) (hd : alldec l) (h : ¬ (l.head? = some 48 ∧ 1 < l.length)) : dec (dval l) = l := by
  have hg : (digs l.length (dval l)).reverse = l := by
    have h1 := digs_dval l.reverse fun x hx => hd x (by simpa using hx)
    rw [List.length_reverse, List.reverse_reverse] at h1
    rw [h1, List.reverse_reverse]
  cases l with
  | nil => exact absurd rfl h0
  | cons c m =>
    have hc := hd c (by simp)
    by_cases h48 : c = 48
    · have hm : m = [] := by
        refine List.eq_nil_of_length_eq_zero ?_
        rcases Nat.eq_zero_or_pos m.length with h5 | h5
        · exact h5
        · exact absurd ⟨by simp [h48], by simp; omega⟩ h
      subst hm h48
      rfl
    · have h1 := dval_cons c m
      have h2 : 10 ^ m.length ≤ dval (c :: m) := by
        have : 10 ^ m.length * 1 ≤ 10 ^ m.length * (c - 48) := Nat.mul_le_mul_left _ (by omega)
        omega
      have h3 := dval_lt _ hd
      have hn : nd (dval (c :: m)) = (c :: m).length := nd_eq (k := m.length) h2 h3
      have hp : 0 < 10 ^ m.length := Nat.pow_pos (by omega)
      unfold dec
      rw [if_neg (by omega), hn]
      exact hg
theorem dec_len (v : Nat) : (dec v).length ≠ 0 := by
  unfold dec
  split
  · decide
  · rename_i h
    rw [List.length_reverse, digs_length]
    have := nd_gt h
    omega
theorem dec_alldec (v : Nat) : alldec (dec v) := by
  unfold dec
  split
  · intro c hc; simp at hc; omega
  · intro c hc; exact digs_lt _ _ c (by simpa using hc)
theorem dec_lead (v : Nat) : ¬ ((dec v).head? = some 48 ∧ 1 < (dec v).length) := by
  unfold dec
  split
  · simp
  · rename_i h
    rintro ⟨h1, _⟩
    have h3 := nd_gt h
    obtain ⟨k, hk⟩ : ∃ k, nd v = k + 1 := ⟨nd v - 1, by omega⟩
    have h4 := top_ne h
    rw [hk, Nat.add_sub_cancel] at h4
    rw [hk, digs_succ, List.reverse_append] at h1
    have h5 : 48 + v / 10 ^ k % 10 = 48 := by
      have : some (48 + v / 10 ^ k % 10) = some 48 := h1
      exact Option.some.inj this
    omega
theorem dec_short {v : Nat} (h : v < 10 ^ 400) : ¬ 400 < (dec v).length := by
  unfold dec
  split
  · decide
  · rw [List.length_reverse, digs_length]
    have := nd_le_of_lt h
    omega
end Nm
end Go.Proofs.YtjfehdkfogdpgaaGreatDoor
namespace Go.Proofs.YtjfehdkfogdpgaaGreatDoor
open Go.RowKit
def RFmtRel (V b : Nat) (w : World) (gk : Nat) (sv : Value) (wr : World) : Prop :=
  ∃ (j : Nat) (A : Option Addr) (n c : Nat) (zs : List Nat) (s : ByteArray), sv = .string s ∧ Hid (Bt s = (Nm.digs j V).reverse) ∧ Var wr b A n c zs ∧ wr.frozen? ⟨b, 0, none⟩ = false ∧ Hid (Nm.val zs = V / 10 ^ j) ∧ Hid (Nm.nat (Nm.val zs) = zs) ∧ Hid (gk = Nm.val zs) ∧ Below w.heap.size w wr ∧ Hid (j = 0 ∨ V / 10 ^ (j - 1) ≠ 0) ∧ s.size ≤ 100000
def RTenRel (G n : Nat) (zs : List Nat) (w : World) (cv iv : Value) (wr : World) : Prop :=
  ∃ (k r : Nat) (qs : List Nat), k ≤ n ∧ iv = .int .i64 ((k : Int) - 1) ∧ cv = .int .u64 (r : Int) ∧ r < 10 ∧ Hid (qs.length = n) ∧ Nm.Dig qs ∧ Hid (Nm.val (qs.drop k) * 10 + r = Nm.val (zs.drop k)) ∧ Own wr G 0 qs ∧ Below w.heap.size w wr
theorem Nm.drop_set (qs : List Nat) (j d : Nat) (h : j < qs.length) : Nm.val ((qs.set j d).drop j) = d + 4294967296 * Nm.val (qs.drop (j + 1)) := by
  rw [List.drop_eq_getElem_cons (by simpa using h), List.getElem_set_self, List.drop_set_of_lt (by omega)]
  rfl
theorem Bt_append (s t : ByteArray) : Bt (s ++ t) = Bt s ++ Bt t := by
  simp [Bt]
set_option maxRecDepth 100000 in
set_option maxHeartbeats 2000000 in
theorem refFormat_n {w : World} {A : Option Addr} {n c : Nat} {xs : List Nat} (hx : Num w A n c xs) (he : Nm.nat (Nm.val xs) = xs) :
    Calls Tryz.prog 73 #[nt A n c] w fun e w' => ∃ s : ByteArray, e = .returned (.string s) ∧ Bt s = Nm.dec (Nm.val xs) ∧ Below w.heap.size w w' := by
  obtain rfl := hx.len
  obtain ⟨V, hV⟩ : ∃ V, Nm.val xs = V := ⟨_, rfl⟩
  have He := Lib.hid he
  have HV := Lib.hid hV
  rw [hV]
  have hsm := hx.small
  rcases Nat.eq_zero_or_pos xs.length with h0 | h0
  · have hV0 : V = 0 := by rw [← hV, List.eq_nil_of_length_eq_zero h0]; rfl
    subst hV0
    clear he hV
    go_enter Tryz.func73, Tryz.ntmps73
    go_wp2_with fail
    go_ret
    exact ⟨⟨#[48]⟩, rfl, rfl, one _ _⟩
  · have hVn : V ≠ 0 := by
      intro e
      rw [hV, e, Nm.nat_zero] at he
      rw [← he] at h0
      simp at h0
    have HVn := Lib.hid hVn
    obtain ⟨L, hL, HVL⟩ : ∃ L, L ≤ 12800 ∧ Hid (V < 2 ^ L) := ⟨32 * xs.length, by omega, by
      show _ < _
      rw [← Nm.pow_two, ← hV]; exact Nm.val_lt hx.dig⟩
    have va := Var.new hx
    have hb1 := one w (Obj.cells #[Value.slice A xs.length c] 24)
    have fa : (w.alloc (Obj.cells #[Value.slice A xs.length c] 24)).frozen? ⟨w.heap.size, 0, none⟩ = false := new_soft _ _ _ _ rfl
    have hb0 : ((xs.length : Int) == 0) = false := digit_ne (by omega)
    clear he hV hVn hx h0
    go_enter Tryz.func73, Tryz.ntmps73
    go_wp2_with fail
    go_loopg [3] V (fun gk sv wr => RFmtRel V w.heap.size w gk sv wr)
    case atStart => exact ⟨0, A, xs.length, c, xs, ⟨#[]⟩, rfl, rfl, va, fa, by show _ = _; rw [HV.out]; simp, He.out, HV.out.symm, hb1, .inl rfl, by decide⟩
    case round =>
      obtain ⟨j, A1, n1, c1, zs, s, rfl, hs, va, fa, hzv, hzc, hgk, hbj, hjV, hsz⟩ := hrel
      obtain rfl := va.num.len
      have kva := va.cell
      have hzs := va.num.small
      rcases Nat.eq_zero_or_pos zs.length with h0 | h0
      · have hfin : Bt s = Nm.dec V := by
          have h1 := hzv.out
          rw [List.eq_nil_of_length_eq_zero h0] at h1
          have h2 : V / 10 ^ j = 0 := h1.symm
          have hV0 := HVn.out
          have hj0 : j ≠ 0 := by
            rintro rfl
            simp at h2
            exact hV0 h2
          have h3 : V < 10 ^ j := by
            rcases Nat.lt_or_ge V (10 ^ j) with h4 | h4
            · exact h4
            · have := Nat.div_pos h4 (Nat.pow_pos (by omega))
              omega
          have h5 : 10 ^ (j - 1) ≤ V := by
            rcases Nat.lt_or_ge V (10 ^ (j - 1)) with h4 | h4
            · rcases hjV.out with h6 | h6
              · exact absurd h6 hj0
              · exact absurd (Nat.div_eq_of_lt h4) h6
            · exact h4
          have h6 : Nm.nd V = j := by
            have := nd_eq (k := j - 1) h5 (by rwa [show j - 1 + 1 = j from by omega])
            omega
          unfold Nm.dec
          rw [if_neg hV0, h6]
          exact hs.out
        have Hf := Lib.hid hfin
        clear hfin
        go_wp2_with fail
        go_ret
        exact ⟨s, rfl, Hf.out, hbj⟩
      · have hmk := fun W => make32 zs.length zs.length (Nat.le_refl _) (by omega) (zs.length : Int) (zs.length : Int) rfl rfl W
        have h0i : (0 : Int) < (zs.length : Int) := by omega
        rename World => w0
        have va2 := va.below (one _ (Obj.cells (madeCells #[Value.int IntKind.u32 0] zs.length) 59))
        have kva2 := va2.cell
        have ho := own_made w0 zs.length
        have hb2 := one w0 (Obj.cells (madeCells #[Value.int IntKind.u32 0] zs.length) 59)
        go_wp2_with fail
        clear va2 kva2 kva
        go_loopw [4, 6] (fun cv iv wr2 => RTenRel w0.heap.size zs.length zs w0 cv iv wr2) (fun _ i _ => (intOf i + 1).toNat)
        case atStart => exact ⟨zs.length, 0, List.replicate zs.length 0, Nat.le_refl _, rfl, rfl, by decide, by show _ = _; simp, Nm.dig_replicate _, by show _ = _; rw [List.drop_of_length_le (by simp), List.drop_of_length_le (Nat.le_refl _)]; rfl, ho, hb2⟩
        case round =>
          obtain ⟨k, r, qs, hk, rfl, rfl, hr, hql, hqd, hqv, hown, hb3⟩ := hrel
          have va3 := va.below hb3
          have kva3 := va3.cell
          rcases Nat.eq_zero_or_pos k with hk0 | hk0
          · subst hk0
            have fa3 : wr.frozen? ⟨w.heap.size, 0, none⟩ = false := by rw [(seen hb3).2 _ _ va.lt]; exact fa
            have hval : Nm.val qs * 10 + r = V / 10 ^ j := by
              have h1 := hqv.out
              rw [List.drop_zero, List.drop_zero, hzv.out] at h1
              exact h1
            have hdiv : Nm.val qs = V / 10 ^ (j + 1) := by
              rw [Nat.pow_succ, ← Nat.div_div_eq_div_mul, ← hval]
              omega
            have hmod : V / 10 ^ j % 10 = r := by rw [← hval]; omega
            have hlt2 : Nm.val qs < Nm.val zs := by
              rw [hzv.out, ← hval]
              have h3 : Nm.val zs ≠ 0 := by
                intro e
                have h2 := hzc.out
                rw [e, Nm.nat_zero] at h2
                rw [← h2] at h0
                simp at h0
              rw [hzv.out, ← hval] at h3
              omega
            have Hdiv := Lib.hid hdiv
            have Hmod := Lib.hid hmod
            have Hlt2 := Lib.hid hlt2
            have Hval := Lib.hid hval
            have hu5 : Tryz.prog.underlying 5 = some (.int .u8) := by kernel_rfl
            have hu9 : Tryz.prog.underlying 9 = some .string := by kernel_rfl
            have hconv := run_convert_bytes_arg (P := Tryz.prog) (wr.alloc (Obj.cells #[Value.int IntKind.u8 (48 + (r : Int))] 5)) 91 5 u62 hu5 wr.heap.size 0 1 1 [48 + (r : Int)] rfl (fun i hi => by
              obtain rfl : i = 0 := by omega
              exact new_cell _ _ _ _ rfl) 9 hu9
            obtain ⟨st, hst⟩ : ∃ st, strOfNums [48 + (r : Int)] = st := ⟨_, rfl⟩
            rw [hst] at hconv
            have hBt : Bt st = [48 + r] := by
              rw [← hst]
              unfold Bt
              rw [strOfNums_data]
              simp
              omega
            have hst1 : st.size = 1 := by rw [← Bt_length, hBt]; rfl
            have HBt := Lib.hid hBt
            clear hval hdiv hmod hlt2 hst hBt
            go_wp2_with fail
            refine (refTrim_n (Rd.alloc (.inr ⟨_, _, rfl, hown.1⟩) _) hql.out (by omega) hqd rfl).mono ?_
            rintro e w5 ⟨A5, c5, rfl, hc5, hf5, hb5⟩
            have hb6 := up (up hb3 (one _ _)) hb5
            have va5 := va.below hb6
            have kva5 := va5.cell
            have fa5 : w5.frozen? ⟨w.heap.size, 0, none⟩ = false := by rw [(seen hb6).2 _ _ va.lt]; exact fa
            go_wp2_with fail
            go_roundg (Nm.val qs)
            case measure => have := hgk.out; have := Hlt2.out; omega
            case rel =>
              have hne : V / 10 ^ j ≠ 0 := by have h1 := hzv.out; have h2 := Hlt2.out; omega
              have hj : j < L := pow_bound (V := V) (by
                rcases Nat.lt_or_ge V (10 ^ j) with h3 | h3
                · exact absurd (Nat.div_eq_of_lt h3) hne
                · exact h3) HVL.out
              have hBs : Bt (st ++ s) = (Nm.digs (j + 1) V).reverse := by
                rw [Bt_append, HBt.out, hs.out, Nm.digs_succ, List.reverse_append, Hmod.out]
                rfl
              refine ⟨j + 1, A5, (Nm.nat (Nm.val qs)).length, c5, Nm.nat (Nm.val qs), st ++ s, rfl, hBs, ⟨by simpa using va5.lt, World.cell?_setCell_same (u := _) _ _ _ kva5, ⟨hf5.rd.setCell kva5 (by simp), rfl, hc5, Nm.dig_nat _, ?_⟩⟩, by rw [World.frozen?_setCell]; exact fa5, ?_, ?_, ?_, (up hbj hb6).setCell (Nat.le_refl _) _, .inr hne, ?_⟩
              · rw [← Nm.tlen_eq hqd]
                exact Nat.le_trans (Nm.tlen_le _) (by rw [hql.out]; exact hzs)
              · show _ = _; rw [Nm.val_nat, Hdiv.out]
              · show _ = _; rw [Nm.val_nat]
              · show _ = _; rw [Nm.val_nat]
              · rw [← Bt_length, hBs, List.length_reverse, Nm.digs_length]; omega
          · obtain ⟨t, rfl⟩ : ∃ t, k = t + 1 := ⟨k - 1, by omega⟩
            have hji : ((t + 1 : Nat) : Int) - 1 = (t : Int) := by omega
            rw [hji]
            have htz : t < zs.length := by omega
            have htq : t < qs.length := by rw [hql.out]; omega
            obtain ⟨g, off, hA, hcell⟩ := va3.num.rd.at_ htz
            have c1' := hcell t htz
            obtain ⟨z, hz⟩ : ∃ z, zs[t] = z := ⟨_, rfl⟩
            rw [hz] at c1'
            have hzlt : z < 4294967296 := by rw [← hz]; exact va.num.dig.at_ htz
            have c2' := hown.1 t htq
            have f2' := hown.2 t htq
            rw [Nat.zero_add] at c2' f2'
            have hdz : Nm.val (zs.drop t) = z + 4294967296 * Nm.val (zs.drop (t + 1)) := by rw [List.drop_eq_getElem_cons htz, hz]; rfl
            obtain ⟨p, hp⟩ : ∃ p, r * 4294967296 = p := ⟨_, rfl⟩
            obtain ⟨X, hX⟩ : ∃ X, p + z = X := ⟨_, rfl⟩
            have hpi : (r : Int) * 4294967296 = (p : Int) := by rw [← hp]; simp
            have hXi : (p : Int) + (z : Int) = (X : Int) := by rw [← hX]; simp
            have hp9 : p ≤ 38654705664 := by omega
            have hX9 : X ≤ 42949672959 := by omega
            have hstep : Nm.val ((qs.set t (X / 10)).drop t) * 10 + X % 10 = Nm.val (zs.drop t) := by
              rw [Nm.drop_set qs t _ htq, hdz]
              have h1 := hqv.out
              omega
            have Hstep := Lib.hid hstep
            have HX9 := Lib.hid hX9
            subst hA
            clear hcell hz hdz hp hX hstep
            go_wp2_with fail
            have hm : (X : Int) % 10 = ((X % 10 : Nat) : Int) := by simp
            have hq : (X : Int) / 10 = ((X / 10 : Nat) : Int) := by simp
            rw [hm, hq]
            refine ⟨⟨t, X % 10, qs.set t (X / 10), by omega, rfl, rfl, by omega, ?_, hqd.set _ (by have := HX9.out; omega), Hstep, ?_, hb3.setCell (Nat.le_refl _) _⟩, by simp [intOf]⟩
            · show _ = _
              rw [List.length_set]; exact hql.out
            · have := hown.set t (X / 10)
              rwa [Nat.zero_add] at this
end Go.Proofs.YtjfehdkfogdpgaaGreatDoor
namespace Go.Proofs.YtjfehdkfogdpgaaGreatDoor
open Go.RowKit
theorem r_cmp (k l p q : Nat) (z : Int) (hz : cmpI p q = z) : ∀ v u w, (Fact.nn k p).holds v w → (Fact.nn l q).holds u w → Calls Tryz.prog 56 #[v, u] w (Ret (fI z) w) := by
  intro v u w hv hu
  subst hz
  exact (c_refCmp _ _ v u w (Fact.nn_num hv).1 (Fact.nn_num hu).1).mono fun _ _ h => by rw [nn_val, nn_val] at h; exact h
theorem r_gcd (k l p q : Nat) (h0 : q ≠ 0) (hk : k ≤ 300) (h : l ≤ 300) : ∀ v u w, (Fact.nn k p).holds v w → (Fact.nn l q).holds u w → Calls Tryz.prog 46 #[v, u] w (Ret (Fact.nn l (Nat.gcd p q)) w) := by
  intro v u w hv hu
  obtain ⟨hv, zv⟩ := Fact.nn_num hv
  obtain ⟨hu, zu⟩ := Fact.nn_num hu
  have z := gcd_sz_right (p := p) zu h0
  exact (c_refGcd _ _ (Nm.nat (Nat.gcd p q)) (by rw [nn_val]) (by rw [nn_val]) (Nat.le_trans (Nm.nat_len zv) hk) (Nat.le_trans (Nm.nat_len zu) h) (by rw [nn_val, nn_val]) v u w hv hu).mono fun _ _ h => Fact.ret_nn h z
theorem r_of (k n : Nat) (h : n < 18446744073709551616) (hz : Nm.Sz k n) : ∀ v w, (Fact.eq (.int .u64 (n : Int))).holds v w → Calls Tryz.prog 47 #[v] w (Ret (Fact.nn k n) w) := fun v w hv =>
  (c_refOf n h v w hv).mono fun _ _ h => Fact.ret_nn h hz
theorem r_ofc (k n : Nat) (h : n < 18446744073709551616) (hz : Nm.Sz k n) : ∀ w, Calls Tryz.prog 47 #[.int .u64 n] w (Ret (Fact.nn k n) w) := fun w => r_of k n h hz _ w rfl
theorem n_ofv (k n : Nat) (h : n < 18446744073709551616) (hz : Nm.Sz k n) (hk : k ≤ 400) : ∀ v w, (Fact.eq (.int .u64 (n : Int))).holds v w → Calls Tryz.prog 61 #[v] w (Ret (Fact.nn k n) w) := by
  rintro v w rfl
  exact n_of k n h hz hk w
theorem r_same (k l p q : Nat) (b : Bool) (hb : decide (p = q) = b) : ∀ v u w, (Fact.nn k p).holds v w → (Fact.nn l q).holds u w → Calls Tryz.prog 45 #[v, u] w (Ret (Fact.eq (.bool b)) w) := by
  intro v u w hv hu
  refine c_same _ _ b ?_ v u w (Fact.nn_num hv).1 (Fact.nn_num hu).1
  subst hb
  by_cases h : p = q
  · subst h; simp
  · rw [decide_eq_false h, decide_eq_false (fun e => h (Nm.nat_inj e))]
theorem r_valid (k p : Nat) : ∀ v w, (Fact.nn k p).holds v w → Calls Tryz.prog 43 #[v] w (Ret (fT) w) := by
  rintro v w ⟨cs, rfl, A, c, rfl, hn, hz⟩
  exact (refValid_any A c _ w hn.rd (by have := hn.small; omega)).mono fun _ _ ⟨he, hb⟩ => ⟨_, he, hb, by rw [decide_eq_true (Nm.tlen_nat p)]; rfl⟩
theorem n_valid (k p : Nat) : ∀ v w, (Fact.nn k p).holds v w → Calls Tryz.prog 93 #[v] w (Ret (fT) w) := by
  rintro v w ⟨cs, rfl, A, c, rfl, hn, hz⟩
  exact (valid_any A c _ w hn.rd hn.cap (by have := hn.small; omega)).mono fun _ _ ⟨he, hb⟩ => ⟨_, he, hb, by rw [decide_eq_true (Nm.tlen_nat p)]; rfl⟩
end Go.Proofs.YtjfehdkfogdpgaaGreatDoor
namespace Go.Proofs.YtjfehdkfogdpgaaGreatDoor
open Go.RowKit
theorem Con.tri_0 (k l : Nat) (s : Bool) (p q : Nat) : (Con.tri k l s p q).Sub 0 (Con.bool s) := (Con.Sub.refl _).left
theorem Con.tri_1 (k l : Nat) (s : Bool) (p q : Nat) : (Con.tri k l s p q).Sub 1 (Con.nn k p) := ((Con.Sub.refl _).left (D := Con.nn l q)).right (C := Con.bool s)
theorem Con.tri_2 (k l : Nat) (s : Bool) (p q : Nat) : (Con.tri k l s p q).Sub 2 (Con.nn l q) := ((Con.Sub.refl _).right (C := Con.nn k p)).right (C := Con.bool s)
theorem natlen_zero (p : Nat) : (((Nm.nat p).length : Int) == 0) = decide (p = 0) := by
  by_cases h : p = 0
  · subst h; rw [Nm.nat_zero]; rfl
  · have : (Nm.nat p).length ≠ 0 := fun e => h ((Nm.nat_nil_iff p).1 (List.eq_nil_of_length_eq_zero e))
    rw [decide_eq_false h, beq_eq_false_iff_ne]; omega
set_option maxRecDepth 100000 in
theorem z_zero (k p : Nat) (b : Bool) (hbd : decide (p = 0) = b) : ∀ v0 w, (Fact.agg (Con.nn k p)).holds v0 w → Calls Tryz.prog 44 #[v0] w (Ret (Fact.eq (.bool b)) w) := by
  intro v0 w hv0
  refine sym_calls 7 [(0, Fact.agg (Con.nn k p))] Tryz.func44 rfl rfl (Nat.le_of_ble_eq_true rfl) (fcs ⟨⟨Nat.le_of_ble_eq_true rfl, hv0⟩, fnl⟩) fun a st => ?_
  have hb := Below.refl w.heap.size w
  refine wp_seq ?_
  refine sym_region st [(1, Fact.var' (Con.nn k p)), (2, fF)] [1] 2 (by kernel_rfl) (by kernel_rfl) (by kernel_rfl) (Nat.le_of_ble_eq_true rfl) (by kernel_rfl) rfl rfl ?_ ?_
  · refine fcs ⟨obn_box 24 0 1 _ (Con.nn k p) rfl rfl rfl (by kernel_rfl) rfl rfl, ?_⟩
    refine fcn (ob_const (.bool false) 2 (.inr rfl) rfl (.inl rfl) rfl) ?_
    exact fnl
  intro a1 w1 st1 hbr1 hfr
  have hs1 := hbr1.size
  have hb := up hb hbr1
  obtain ⟨b1, c1⟩ := (show (Fact.var' (Con.nn k p)).holds _ _ from st1.at_ 1)
  have g1 := hfr.ge (s := 1) rfl c1.1
  have st : St 7 [(1, Fact.cell b1 (Con.nn k p)), (2, fF)] a1 w1 := st1.to (fcs ⟨c1, fcs ⟨st1.at_ 2, fnl⟩⟩)
  clear st1 hbr1 hfr c1
  refine wpList_nil ?_
  refine then_normal ?_
  refine wp_seq ?_
  have st := st.to (ks' := [(1, Fact.cell b1 (Con.nn k p))]) (fcs ⟨st.at_ 1, fnl⟩)
  refine sym_region st [(3, Fact.ptr (Con.nn k p)), (4, Fact.rown k p), (5, fI ((Nm.nat p).length : Int)), (6, Fact.eq (.bool b)), (2, Fact.eq (.bool b))] [] 5 (by kernel_rfl) (by kernel_rfl) (by kernel_rfl) (Nat.le_of_ble_eq_true rfl) (by kernel_rfl) rfl rfl ?_ ?_
  · refine fcn (ob_addr 24 0 1 3 0 (Con.nn k p) (Con.nn k p) rfl rfl (.inl rfl) (by kernel_rfl) points_cell rfl (Con.Sub.refl _) field24_0) ?_
    refine fcn (ob_loadrow 3 4 k p rfl rfl (.inl rfl) (by kernel_rfl) points_ptr rfl) ?_
    refine fcn (ob_len 4 5 (Nm.nat p).length 22 rfl (by kernel_rfl) rfl (.inl rfl) (by kernel_rfl) len_rown rfl) ?_
    refine fcn (ob_eqc 5 6 .i64 3 _ ((Nm.nat p).length : Int) 0 b ((natlen_zero p).trans hbd) rfl rfl (.inl rfl) (by kernel_rfl) rfl rfl) ?_
    refine fcn (ob_copy 6 2 (.inr rfl) rfl (.inl rfl) (by kernel_rfl) rfl) ?_
    exact fnl
  intro a2 w2 st2 hbr2 hfr
  have hs2 := hbr2.size
  have hb := up hb hbr2
  have st : St 7 [(2, Fact.eq (.bool b))] a2 w2 := st2.to (fcs ⟨st2.at_ 2, fnl⟩)
  clear st2 hbr2 hfr
  refine wpList_nil ?_
  refine then_normal ?_
  refine wp_ret ?_
  exact sym_ret1 rfl st.defers (resAt_tmp st 2) hb (fun _ h => h)
set_option maxRecDepth 100000 in
theorem z_same (k l : Nat) (x y : Rat) (b : Bool) (hbd : decide (x = y) = b) : ∀ v0 v1 w, (Fact.agg (Con.fr k x)).holds v0 w → (Fact.agg (Con.fr l y)).holds v1 w → Calls Tryz.prog 13 #[v0, v1] w (Ret (Fact.eq (.bool b)) w) := by
  intro v0 v1 w hv0 hv1
  cases h1 : (Rt.ng x == Rt.ng y) with
  | false =>
    refine sym_calls 24 [(0, Fact.agg (Con.fr k x)), (1, Fact.agg (Con.fr l y))] Tryz.func13 rfl rfl (Nat.le_of_ble_eq_true rfl) (fcs ⟨⟨Nat.le_of_ble_eq_true rfl, hv0⟩, fcs ⟨⟨Nat.le_of_ble_eq_true rfl, hv1⟩, fnl⟩⟩) fun a st => ?_
    have hb := Below.refl w.heap.size w
    refine wp_seq ?_
    refine sym_region st [(2, Fact.var' (Con.fr k x)), (3, Fact.var' (Con.fr l y)), (4, fF)] [2, 3] 3 (by kernel_rfl) (by kernel_rfl) (by kernel_rfl) (Nat.le_of_ble_eq_true rfl) (by kernel_rfl) rfl rfl ?_ ?_
    · refine fcs ⟨obn_box 26 0 2 _ (Con.fr k x) rfl rfl rfl (by kernel_rfl) rfl rfl, ?_⟩
      refine fcs ⟨obn_box 26 1 3 _ (Con.fr l y) rfl rfl rfl (by kernel_rfl) rfl rfl, ?_⟩
      refine fcn (ob_const (.bool false) 4 (.inr rfl) rfl (.inl rfl) rfl) ?_
      exact fnl
    intro a1 w1 st1 hbr1 hfr
    have hs1 := hbr1.size
    have hb := up hb hbr1
    obtain ⟨b2, c2⟩ := (show (Fact.var' (Con.fr k x)).holds _ _ from st1.at_ 2)
    have g2 := hfr.ge (s := 2) rfl c2.1
    obtain ⟨b3, c3⟩ := (show (Fact.var' (Con.fr l y)).holds _ _ from st1.at_ 3)
    have g3 := hfr.ge (s := 3) rfl c3.1
    have ne2_3 := hfr.apart (s := 2) (t := 3) rfl rfl (by decide) c2.1 c3.1
    have st : St 24 [(2, Fact.cell b2 (Con.fr k x)), (3, Fact.cell b3 (Con.fr l y)), (4, fF)] a1 w1 := st1.to (fcs ⟨c2, fcs ⟨c3, fcs ⟨st1.at_ 4, fnl⟩⟩⟩)
    clear st1 hbr1 hfr c2 c3
    refine wpList_nil ?_
    refine then_normal ?_
    refine wp_seq ?_
    have st := st.to (ks' := [(2, Fact.cell b2 (Con.fr k x)), (3, Fact.cell b3 (Con.fr l y))]) (fcs ⟨st.at_ 2, fcs ⟨st.at_ 3, fnl⟩⟩)
    refine sym_region st [(5, Fact.ptr (Con.bool (Rt.ng x))), (6, Fact.eq (.bool (Rt.ng x))), (7, Fact.ptr (Con.bool (Rt.ng y))), (8, Fact.eq (.bool (Rt.ng y))), (9, fF), (10, fF), (11, Fact.eq undef), (12, Fact.eq undef), (13, Fact.eq undef), (14, Fact.eq undef), (15, Fact.eq undef), (16, fF), (17, fF), (18, Fact.eq undef), (19, Fact.eq undef), (20, Fact.eq undef), (21, Fact.eq undef), (22, Fact.eq undef), (23, fF), (4, fF)] [] 20 (by kernel_rfl) (by kernel_rfl) (by kernel_rfl) (Nat.le_of_ble_eq_true rfl) (by kernel_rfl) rfl rfl ?_ ?_
    · refine fcn (ob_addr 26 0 2 5 0 (Con.fr k x) (Con.bool (Rt.ng x)) rfl rfl (.inl rfl) (by kernel_rfl) points_cell rfl (Con.fr_ng k x) field26_0) ?_
      refine fcn (ob_readb 5 6 (Rt.ng x) (Rt.ng x) rfl rfl rfl (.inl rfl) (by kernel_rfl) points_ptr rfl) ?_
      refine fcn (ob_addr 26 0 3 7 0 (Con.fr l y) (Con.bool (Rt.ng y)) rfl rfl (.inl rfl) (by kernel_rfl) points_cell rfl (Con.fr_ng l y) field26_0) ?_
      refine fcn (ob_readb 7 8 (Rt.ng y) (Rt.ng y) rfl rfl rfl (.inl rfl) (by kernel_rfl) points_ptr rfl) ?_
      refine fcn (ob_eqb 6 8 9 (Rt.ng x) (Rt.ng y) false h1 rfl rfl (.inl rfl) (by kernel_rfl) (by kernel_rfl) rfl rfl rfl) ?_
      refine fcn (ob_copy 9 10 (.inl rfl) rfl (.inl rfl) (by kernel_rfl) rfl) ?_
      refine fcn (ob_skip 5 10 11 true rfl rfl (by kernel_rfl) (by decide) rfl rfl rfl) ?_
      refine fcn (ob_skip 5 10 12 true rfl rfl (by kernel_rfl) (by decide) rfl rfl rfl) ?_
      refine fcn (ob_skip 5 10 13 true rfl rfl (by kernel_rfl) (by decide) rfl rfl rfl) ?_
      refine fcn (ob_skip 5 10 14 true rfl rfl (by kernel_rfl) (by decide) rfl rfl rfl) ?_
      refine fcn (ob_skip 5 10 15 true rfl rfl (by kernel_rfl) (by decide) rfl rfl rfl) ?_
      refine fcn (ob_pick_no 10 15 16 (.bool false) rfl rfl (.inl rfl) (by kernel_rfl) rfl rfl) ?_
      refine fcn (ob_copy 16 17 (.inl rfl) rfl (.inl rfl) (by kernel_rfl) rfl) ?_
      refine fcn (ob_skip 12 17 18 true rfl rfl (by kernel_rfl) (by decide) rfl rfl rfl) ?_
      refine fcn (ob_skip 12 17 19 true rfl rfl (by kernel_rfl) (by decide) rfl rfl rfl) ?_
      refine fcn (ob_skip 12 17 20 true rfl rfl (by kernel_rfl) (by decide) rfl rfl rfl) ?_
      refine fcn (ob_skip 12 17 21 true rfl rfl (by kernel_rfl) (by decide) rfl rfl rfl) ?_
      refine fcn (ob_skip 12 17 22 true rfl rfl (by kernel_rfl) (by decide) rfl rfl rfl) ?_
      refine fcn (ob_pick_no 17 22 23 (.bool false) rfl rfl (.inl rfl) (by kernel_rfl) rfl rfl) ?_
      refine fcn (ob_copy 23 4 (.inr rfl) rfl (.inl rfl) (by kernel_rfl) rfl) ?_
      exact fnl
    intro a2 w2 st2 hbr2 hfr
    have hs2 := hbr2.size
    have hb := up hb hbr2
    have st : St 24 [(4, fF)] a2 w2 := st2.to (fcs ⟨st2.at_ 4, fnl⟩)
    clear st2 hbr2 hfr
    refine wpList_nil ?_
    refine then_normal ?_
    refine wp_ret ?_
    exact sym_ret1 rfl st.defers (resAt_tmp st 4) hb (fun v h => by subst hbd; rw [decide_eq_false (fun e => by rw [e, beq_self_eq_true] at h1; cases h1)]; exact h)
  | true =>
  cases h2 : decide (Rt.tp x = Rt.tp y) with
  | false =>
    refine sym_calls 24 [(0, Fact.agg (Con.fr k x)), (1, Fact.agg (Con.fr l y))] Tryz.func13 rfl rfl (Nat.le_of_ble_eq_true rfl) (fcs ⟨⟨Nat.le_of_ble_eq_true rfl, hv0⟩, fcs ⟨⟨Nat.le_of_ble_eq_true rfl, hv1⟩, fnl⟩⟩) fun a st => ?_
    have hb := Below.refl w.heap.size w
    refine wp_seq ?_
    refine sym_region st [(2, Fact.var' (Con.fr k x)), (3, Fact.var' (Con.fr l y)), (4, fF)] [2, 3] 3 (by kernel_rfl) (by kernel_rfl) (by kernel_rfl) (Nat.le_of_ble_eq_true rfl) (by kernel_rfl) rfl rfl ?_ ?_
    · refine fcs ⟨obn_box 26 0 2 _ (Con.fr k x) rfl rfl rfl (by kernel_rfl) rfl rfl, ?_⟩
      refine fcs ⟨obn_box 26 1 3 _ (Con.fr l y) rfl rfl rfl (by kernel_rfl) rfl rfl, ?_⟩
      refine fcn (ob_const (.bool false) 4 (.inr rfl) rfl (.inl rfl) rfl) ?_
      exact fnl
    intro a1 w1 st1 hbr1 hfr
    have hs1 := hbr1.size
    have hb := up hb hbr1
    obtain ⟨b2, c2⟩ := (show (Fact.var' (Con.fr k x)).holds _ _ from st1.at_ 2)
    have g2 := hfr.ge (s := 2) rfl c2.1
    obtain ⟨b3, c3⟩ := (show (Fact.var' (Con.fr l y)).holds _ _ from st1.at_ 3)
    have g3 := hfr.ge (s := 3) rfl c3.1
    have ne2_3 := hfr.apart (s := 2) (t := 3) rfl rfl (by decide) c2.1 c3.1
    have st : St 24 [(2, Fact.cell b2 (Con.fr k x)), (3, Fact.cell b3 (Con.fr l y)), (4, fF)] a1 w1 := st1.to (fcs ⟨c2, fcs ⟨c3, fcs ⟨st1.at_ 4, fnl⟩⟩⟩)
    clear st1 hbr1 hfr c2 c3
    refine wpList_nil ?_
    refine then_normal ?_
    refine wp_seq ?_
    have st := st.to (ks' := [(2, Fact.cell b2 (Con.fr k x)), (3, Fact.cell b3 (Con.fr l y))]) (fcs ⟨st.at_ 2, fcs ⟨st.at_ 3, fnl⟩⟩)
    refine sym_region st [(5, Fact.ptr (Con.bool (Rt.ng x))), (6, Fact.eq (.bool (Rt.ng x))), (7, Fact.ptr (Con.bool (Rt.ng y))), (8, Fact.eq (.bool (Rt.ng y))), (9, fT), (10, fT), (11, Fact.ptr (Con.nn k (Rt.tp x))), (12, Fact.agg (Con.nn k (Rt.tp x))), (13, Fact.ptr (Con.nn l (Rt.tp y))), (14, Fact.agg (Con.nn l (Rt.tp y))), (15, fF), (16, fF), (17, fF), (18, Fact.eq undef), (19, Fact.eq undef), (20, Fact.eq undef), (21, Fact.eq undef), (22, Fact.eq undef), (23, fF), (4, fF)] [] 20 (by kernel_rfl) (by kernel_rfl) (by kernel_rfl) (Nat.le_of_ble_eq_true rfl) (by kernel_rfl) rfl rfl ?_ ?_
    · refine fcn (ob_addr 26 0 2 5 0 (Con.fr k x) (Con.bool (Rt.ng x)) rfl rfl (.inl rfl) (by kernel_rfl) points_cell rfl (Con.fr_ng k x) field26_0) ?_
      refine fcn (ob_readb 5 6 (Rt.ng x) (Rt.ng x) rfl rfl rfl (.inl rfl) (by kernel_rfl) points_ptr rfl) ?_
      refine fcn (ob_addr 26 0 3 7 0 (Con.fr l y) (Con.bool (Rt.ng y)) rfl rfl (.inl rfl) (by kernel_rfl) points_cell rfl (Con.fr_ng l y) field26_0) ?_
      refine fcn (ob_readb 7 8 (Rt.ng y) (Rt.ng y) rfl rfl rfl (.inl rfl) (by kernel_rfl) points_ptr rfl) ?_
      refine fcn (ob_eqb 6 8 9 (Rt.ng x) (Rt.ng y) true h1 rfl rfl (.inl rfl) (by kernel_rfl) (by kernel_rfl) rfl rfl rfl) ?_
      refine fcn (ob_copy 9 10 (.inl rfl) rfl (.inl rfl) (by kernel_rfl) rfl) ?_
      refine fcn (ob_addr 26 1 2 11 1 (Con.fr k x) (Con.nn k (Rt.tp x)) rfl rfl (.inr ⟨_, _, _, rfl, rfl, by kernel_rfl, by decide, rfl⟩) (by kernel_rfl) points_cell rfl (Con.fr_tp k x) field26_1) ?_
      refine fcn (ob_read 24 11 12 (Con.nn k (Rt.tp x)) rfl rfl (.inr ⟨_, _, _, rfl, rfl, by kernel_rfl, by decide, rfl⟩) (by kernel_rfl) points_ptr rfl row24 info24) ?_
      refine fcn (ob_addr 26 1 3 13 1 (Con.fr l y) (Con.nn l (Rt.tp y)) rfl rfl (.inr ⟨_, _, _, rfl, rfl, by kernel_rfl, by decide, rfl⟩) (by kernel_rfl) points_cell rfl (Con.fr_tp l y) field26_1) ?_
      refine fcn (ob_read 24 13 14 (Con.nn l (Rt.tp y)) rfl rfl (.inr ⟨_, _, _, rfl, rfl, by kernel_rfl, by decide, rfl⟩) (by kernel_rfl) points_ptr rfl row24 info24) ?_
      refine fcn (ob_call2 45 12 14 15 _ rfl rfl (.inr ⟨_, _, _, rfl, rfl, by kernel_rfl, by decide, rfl⟩) (by kernel_rfl) (by kernel_rfl) (by kernel_rfl) (r_same k l (Rt.tp x) (Rt.tp y) false h2)) ?_
      refine fcn (ob_pick 10 15 16 _ rfl rfl (.inl rfl) (by kernel_rfl) (by kernel_rfl) rfl rfl) ?_
      refine fcn (ob_copy 16 17 (.inl rfl) rfl (.inl rfl) (by kernel_rfl) rfl) ?_
      refine fcn (ob_skip 12 17 18 true rfl rfl (by kernel_rfl) (by decide) rfl rfl rfl) ?_
      refine fcn (ob_skip 12 17 19 true rfl rfl (by kernel_rfl) (by decide) rfl rfl rfl) ?_
      refine fcn (ob_skip 12 17 20 true rfl rfl (by kernel_rfl) (by decide) rfl rfl rfl) ?_
      refine fcn (ob_skip 12 17 21 true rfl rfl (by kernel_rfl) (by decide) rfl rfl rfl) ?_
      refine fcn (ob_skip 12 17 22 true rfl rfl (by kernel_rfl) (by decide) rfl rfl rfl) ?_
      refine fcn (ob_pick_no 17 22 23 (.bool false) rfl rfl (.inl rfl) (by kernel_rfl) rfl rfl) ?_
      refine fcn (ob_copy 23 4 (.inr rfl) rfl (.inl rfl) (by kernel_rfl) rfl) ?_
      exact fnl
    intro a2 w2 st2 hbr2 hfr
    have hs2 := hbr2.size
    have hb := up hb hbr2
    have st : St 24 [(4, fF)] a2 w2 := st2.to (fcs ⟨st2.at_ 4, fnl⟩)
    clear st2 hbr2 hfr
    refine wpList_nil ?_
    refine then_normal ?_
    refine wp_ret ?_
    exact sym_ret1 rfl st.defers (resAt_tmp st 4) hb (fun v h => by subst hbd; rw [decide_eq_false (fun e => of_decide_eq_false h2 (by rw [e]))]; exact h)
  | true =>
  cases h3 : decide (x.den = y.den) with
  | false =>
    refine sym_calls 24 [(0, Fact.agg (Con.fr k x)), (1, Fact.agg (Con.fr l y))] Tryz.func13 rfl rfl (Nat.le_of_ble_eq_true rfl) (fcs ⟨⟨Nat.le_of_ble_eq_true rfl, hv0⟩, fcs ⟨⟨Nat.le_of_ble_eq_true rfl, hv1⟩, fnl⟩⟩) fun a st => ?_
    have hb := Below.refl w.heap.size w
    refine wp_seq ?_
    refine sym_region st [(2, Fact.var' (Con.fr k x)), (3, Fact.var' (Con.fr l y)), (4, fF)] [2, 3] 3 (by kernel_rfl) (by kernel_rfl) (by kernel_rfl) (Nat.le_of_ble_eq_true rfl) (by kernel_rfl) rfl rfl ?_ ?_
    · refine fcs ⟨obn_box 26 0 2 _ (Con.fr k x) rfl rfl rfl (by kernel_rfl) rfl rfl, ?_⟩
      refine fcs ⟨obn_box 26 1 3 _ (Con.fr l y) rfl rfl rfl (by kernel_rfl) rfl rfl, ?_⟩
      refine fcn (ob_const (.bool false) 4 (.inr rfl) rfl (.inl rfl) rfl) ?_
      exact fnl
    intro a1 w1 st1 hbr1 hfr
    have hs1 := hbr1.size
    have hb := up hb hbr1
    obtain ⟨b2, c2⟩ := (show (Fact.var' (Con.fr k x)).holds _ _ from st1.at_ 2)
    have g2 := hfr.ge (s := 2) rfl c2.1
    obtain ⟨b3, c3⟩ := (show (Fact.var' (Con.fr l y)).holds _ _ from st1.at_ 3)
    have g3 := hfr.ge (s := 3) rfl c3.1
    have ne2_3 := hfr.apart (s := 2) (t := 3) rfl rfl (by decide) c2.1 c3.1
    have st : St 24 [(2, Fact.cell b2 (Con.fr k x)), (3, Fact.cell b3 (Con.fr l y)), (4, fF)] a1 w1 := st1.to (fcs ⟨c2, fcs ⟨c3, fcs ⟨st1.at_ 4, fnl⟩⟩⟩)
    clear st1 hbr1 hfr c2 c3
    refine wpList_nil ?_
    refine then_normal ?_
    refine wp_seq ?_
    have st := st.to (ks' := [(2, Fact.cell b2 (Con.fr k x)), (3, Fact.cell b3 (Con.fr l y))]) (fcs ⟨st.at_ 2, fcs ⟨st.at_ 3, fnl⟩⟩)
    refine sym_region st [(5, Fact.ptr (Con.bool (Rt.ng x))), (6, Fact.eq (.bool (Rt.ng x))), (7, Fact.ptr (Con.bool (Rt.ng y))), (8, Fact.eq (.bool (Rt.ng y))), (9, fT), (10, fT), (11, Fact.ptr (Con.nn k (Rt.tp x))), (12, Fact.agg (Con.nn k (Rt.tp x))), (13, Fact.ptr (Con.nn l (Rt.tp y))), (14, Fact.agg (Con.nn l (Rt.tp y))), (15, fT), (16, fT), (17, fT), (18, Fact.ptr (Con.nn k (Rat.den x))), (19, Fact.agg (Con.nn k (Rat.den x))), (20, Fact.ptr (Con.nn l (Rat.den y))), (21, Fact.agg (Con.nn l (Rat.den y))), (22, fF), (23, fF), (4, fF)] [] 20 (by kernel_rfl) (by kernel_rfl) (by kernel_rfl) (Nat.le_of_ble_eq_true rfl) (by kernel_rfl) rfl rfl ?_ ?_
    · refine fcn (ob_addr 26 0 2 5 0 (Con.fr k x) (Con.bool (Rt.ng x)) rfl rfl (.inl rfl) (by kernel_rfl) points_cell rfl (Con.fr_ng k x) field26_0) ?_
      refine fcn (ob_readb 5 6 (Rt.ng x) (Rt.ng x) rfl rfl rfl (.inl rfl) (by kernel_rfl) points_ptr rfl) ?_
      refine fcn (ob_addr 26 0 3 7 0 (Con.fr l y) (Con.bool (Rt.ng y)) rfl rfl (.inl rfl) (by kernel_rfl) points_cell rfl (Con.fr_ng l y) field26_0) ?_
      refine fcn (ob_readb 7 8 (Rt.ng y) (Rt.ng y) rfl rfl rfl (.inl rfl) (by kernel_rfl) points_ptr rfl) ?_
      refine fcn (ob_eqb 6 8 9 (Rt.ng x) (Rt.ng y) true h1 rfl rfl (.inl rfl) (by kernel_rfl) (by kernel_rfl) rfl rfl rfl) ?_
      refine fcn (ob_copy 9 10 (.inl rfl) rfl (.inl rfl) (by kernel_rfl) rfl) ?_
      refine fcn (ob_addr 26 1 2 11 1 (Con.fr k x) (Con.nn k (Rt.tp x)) rfl rfl (.inr ⟨_, _, _, rfl, rfl, by kernel_rfl, by decide, rfl⟩) (by kernel_rfl) points_cell rfl (Con.fr_tp k x) field26_1) ?_
      refine fcn (ob_read 24 11 12 (Con.nn k (Rt.tp x)) rfl rfl (.inr ⟨_, _, _, rfl, rfl, by kernel_rfl, by decide, rfl⟩) (by kernel_rfl) points_ptr rfl row24 info24) ?_
      refine fcn (ob_addr 26 1 3 13 1 (Con.fr l y) (Con.nn l (Rt.tp y)) rfl rfl (.inr ⟨_, _, _, rfl, rfl, by kernel_rfl, by decide, rfl⟩) (by kernel_rfl) points_cell rfl (Con.fr_tp l y) field26_1) ?_
      refine fcn (ob_read 24 13 14 (Con.nn l (Rt.tp y)) rfl rfl (.inr ⟨_, _, _, rfl, rfl, by kernel_rfl, by decide, rfl⟩) (by kernel_rfl) points_ptr rfl row24 info24) ?_
      refine fcn (ob_call2 45 12 14 15 _ rfl rfl (.inr ⟨_, _, _, rfl, rfl, by kernel_rfl, by decide, rfl⟩) (by kernel_rfl) (by kernel_rfl) (by kernel_rfl) (r_same k l (Rt.tp x) (Rt.tp y) true h2)) ?_
      refine fcn (ob_pick 10 15 16 _ rfl rfl (.inl rfl) (by kernel_rfl) (by kernel_rfl) rfl rfl) ?_
      refine fcn (ob_copy 16 17 (.inl rfl) rfl (.inl rfl) (by kernel_rfl) rfl) ?_
      refine fcn (ob_addr 26 2 2 18 2 (Con.fr k x) (Con.nn k (Rat.den x)) rfl rfl (.inr ⟨_, _, _, rfl, rfl, by kernel_rfl, by decide, rfl⟩) (by kernel_rfl) points_cell rfl (Con.fr_den k x) field26_2) ?_
      refine fcn (ob_read 24 18 19 (Con.nn k (Rat.den x)) rfl rfl (.inr ⟨_, _, _, rfl, rfl, by kernel_rfl, by decide, rfl⟩) (by kernel_rfl) points_ptr rfl row24 info24) ?_
      refine fcn (ob_addr 26 2 3 20 2 (Con.fr l y) (Con.nn l (Rat.den y)) rfl rfl (.inr ⟨_, _, _, rfl, rfl, by kernel_rfl, by decide, rfl⟩) (by kernel_rfl) points_cell rfl (Con.fr_den l y) field26_2) ?_
      refine fcn (ob_read 24 20 21 (Con.nn l (Rat.den y)) rfl rfl (.inr ⟨_, _, _, rfl, rfl, by kernel_rfl, by decide, rfl⟩) (by kernel_rfl) points_ptr rfl row24 info24) ?_
      refine fcn (ob_call2 45 19 21 22 _ rfl rfl (.inr ⟨_, _, _, rfl, rfl, by kernel_rfl, by decide, rfl⟩) (by kernel_rfl) (by kernel_rfl) (by kernel_rfl) (r_same k l (Rat.den x) (Rat.den y) false h3)) ?_
      refine fcn (ob_pick 17 22 23 _ rfl rfl (.inl rfl) (by kernel_rfl) (by kernel_rfl) rfl rfl) ?_
      refine fcn (ob_copy 23 4 (.inr rfl) rfl (.inl rfl) (by kernel_rfl) rfl) ?_
      exact fnl
    intro a2 w2 st2 hbr2 hfr
    have hs2 := hbr2.size
    have hb := up hb hbr2
    have st : St 24 [(4, fF)] a2 w2 := st2.to (fcs ⟨st2.at_ 4, fnl⟩)
    clear st2 hbr2 hfr
    refine wpList_nil ?_
    refine then_normal ?_
    refine wp_ret ?_
    exact sym_ret1 rfl st.defers (resAt_tmp st 4) hb (fun v h => by subst hbd; rw [decide_eq_false (fun e => of_decide_eq_false h3 (by rw [e]))]; exact h)
  | true =>
    refine sym_calls 24 [(0, Fact.agg (Con.fr k x)), (1, Fact.agg (Con.fr l y))] Tryz.func13 rfl rfl (Nat.le_of_ble_eq_true rfl) (fcs ⟨⟨Nat.le_of_ble_eq_true rfl, hv0⟩, fcs ⟨⟨Nat.le_of_ble_eq_true rfl, hv1⟩, fnl⟩⟩) fun a st => ?_
    have hb := Below.refl w.heap.size w
    refine wp_seq ?_
    refine sym_region st [(2, Fact.var' (Con.fr k x)), (3, Fact.var' (Con.fr l y)), (4, fF)] [2, 3] 3 (by kernel_rfl) (by kernel_rfl) (by kernel_rfl) (Nat.le_of_ble_eq_true rfl) (by kernel_rfl) rfl rfl ?_ ?_
    · refine fcs ⟨obn_box 26 0 2 _ (Con.fr k x) rfl rfl rfl (by kernel_rfl) rfl rfl, ?_⟩
      refine fcs ⟨obn_box 26 1 3 _ (Con.fr l y) rfl rfl rfl (by kernel_rfl) rfl rfl, ?_⟩
      refine fcn (ob_const (.bool false) 4 (.inr rfl) rfl (.inl rfl) rfl) ?_
      exact fnl
    intro a1 w1 st1 hbr1 hfr
    have hs1 := hbr1.size
    have hb := up hb hbr1
    obtain ⟨b2, c2⟩ := (show (Fact.var' (Con.fr k x)).holds _ _ from st1.at_ 2)
    have g2 := hfr.ge (s := 2) rfl c2.1
    obtain ⟨b3, c3⟩ := (show (Fact.var' (Con.fr l y)).holds _ _ from st1.at_ 3)
    have g3 := hfr.ge (s := 3) rfl c3.1
    have ne2_3 := hfr.apart (s := 2) (t := 3) rfl rfl (by decide) c2.1 c3.1
    have st : St 24 [(2, Fact.cell b2 (Con.fr k x)), (3, Fact.cell b3 (Con.fr l y)), (4, fF)] a1 w1 := st1.to (fcs ⟨c2, fcs ⟨c3, fcs ⟨st1.at_ 4, fnl⟩⟩⟩)
    clear st1 hbr1 hfr c2 c3
    refine wpList_nil ?_
    refine then_normal ?_
    refine wp_seq ?_
    have st := st.to (ks' := [(2, Fact.cell b2 (Con.fr k x)), (3, Fact.cell b3 (Con.fr l y))]) (fcs ⟨st.at_ 2, fcs ⟨st.at_ 3, fnl⟩⟩)
    refine sym_region st [(5, Fact.ptr (Con.bool (Rt.ng x))), (6, Fact.eq (.bool (Rt.ng x))), (7, Fact.ptr (Con.bool (Rt.ng y))), (8, Fact.eq (.bool (Rt.ng y))), (9, fT), (10, fT), (11, Fact.ptr (Con.nn k (Rt.tp x))), (12, Fact.agg (Con.nn k (Rt.tp x))), (13, Fact.ptr (Con.nn l (Rt.tp y))), (14, Fact.agg (Con.nn l (Rt.tp y))), (15, fT), (16, fT), (17, fT), (18, Fact.ptr (Con.nn k (Rat.den x))), (19, Fact.agg (Con.nn k (Rat.den x))), (20, Fact.ptr (Con.nn l (Rat.den y))), (21, Fact.agg (Con.nn l (Rat.den y))), (22, fT), (23, fT), (4, fT)] [] 20 (by kernel_rfl) (by kernel_rfl) (by kernel_rfl) (Nat.le_of_ble_eq_true rfl) (by kernel_rfl) rfl rfl ?_ ?_
    · refine fcn (ob_addr 26 0 2 5 0 (Con.fr k x) (Con.bool (Rt.ng x)) rfl rfl (.inl rfl) (by kernel_rfl) points_cell rfl (Con.fr_ng k x) field26_0) ?_
      refine fcn (ob_readb 5 6 (Rt.ng x) (Rt.ng x) rfl rfl rfl (.inl rfl) (by kernel_rfl) points_ptr rfl) ?_
      refine fcn (ob_addr 26 0 3 7 0 (Con.fr l y) (Con.bool (Rt.ng y)) rfl rfl (.inl rfl) (by kernel_rfl) points_cell rfl (Con.fr_ng l y) field26_0) ?_
      refine fcn (ob_readb 7 8 (Rt.ng y) (Rt.ng y) rfl rfl rfl (.inl rfl) (by kernel_rfl) points_ptr rfl) ?_
      refine fcn (ob_eqb 6 8 9 (Rt.ng x) (Rt.ng y) true h1 rfl rfl (.inl rfl) (by kernel_rfl) (by kernel_rfl) rfl rfl rfl) ?_
      refine fcn (ob_copy 9 10 (.inl rfl) rfl (.inl rfl) (by kernel_rfl) rfl) ?_
      refine fcn (ob_addr 26 1 2 11 1 (Con.fr k x) (Con.nn k (Rt.tp x)) rfl rfl (.inr ⟨_, _, _, rfl, rfl, by kernel_rfl, by decide, rfl⟩) (by kernel_rfl) points_cell rfl (Con.fr_tp k x) field26_1) ?_
      refine fcn (ob_read 24 11 12 (Con.nn k (Rt.tp x)) rfl rfl (.inr ⟨_, _, _, rfl, rfl, by kernel_rfl, by decide, rfl⟩) (by kernel_rfl) points_ptr rfl row24 info24) ?_
      refine fcn (ob_addr 26 1 3 13 1 (Con.fr l y) (Con.nn l (Rt.tp y)) rfl rfl (.inr ⟨_, _, _, rfl, rfl, by kernel_rfl, by decide, rfl⟩) (by kernel_rfl) points_cell rfl (Con.fr_tp l y) field26_1) ?_
      refine fcn (ob_read 24 13 14 (Con.nn l (Rt.tp y)) rfl rfl (.inr ⟨_, _, _, rfl, rfl, by kernel_rfl, by decide, rfl⟩) (by kernel_rfl) points_ptr rfl row24 info24) ?_
      refine fcn (ob_call2 45 12 14 15 _ rfl rfl (.inr ⟨_, _, _, rfl, rfl, by kernel_rfl, by decide, rfl⟩) (by kernel_rfl) (by kernel_rfl) (by kernel_rfl) (r_same k l (Rt.tp x) (Rt.tp y) true h2)) ?_
      refine fcn (ob_pick 10 15 16 _ rfl rfl (.inl rfl) (by kernel_rfl) (by kernel_rfl) rfl rfl) ?_
      refine fcn (ob_copy 16 17 (.inl rfl) rfl (.inl rfl) (by kernel_rfl) rfl) ?_
      refine fcn (ob_addr 26 2 2 18 2 (Con.fr k x) (Con.nn k (Rat.den x)) rfl rfl (.inr ⟨_, _, _, rfl, rfl, by kernel_rfl, by decide, rfl⟩) (by kernel_rfl) points_cell rfl (Con.fr_den k x) field26_2) ?_
      refine fcn (ob_read 24 18 19 (Con.nn k (Rat.den x)) rfl rfl (.inr ⟨_, _, _, rfl, rfl, by kernel_rfl, by decide, rfl⟩) (by kernel_rfl) points_ptr rfl row24 info24) ?_
      refine fcn (ob_addr 26 2 3 20 2 (Con.fr l y) (Con.nn l (Rat.den y)) rfl rfl (.inr ⟨_, _, _, rfl, rfl, by kernel_rfl, by decide, rfl⟩) (by kernel_rfl) points_cell rfl (Con.fr_den l y) field26_2) ?_
      refine fcn (ob_read 24 20 21 (Con.nn l (Rat.den y)) rfl rfl (.inr ⟨_, _, _, rfl, rfl, by kernel_rfl, by decide, rfl⟩) (by kernel_rfl) points_ptr rfl row24 info24) ?_
      refine fcn (ob_call2 45 19 21 22 _ rfl rfl (.inr ⟨_, _, _, rfl, rfl, by kernel_rfl, by decide, rfl⟩) (by kernel_rfl) (by kernel_rfl) (by kernel_rfl) (r_same k l (Rat.den x) (Rat.den y) true h3)) ?_
      refine fcn (ob_pick 17 22 23 _ rfl rfl (.inl rfl) (by kernel_rfl) (by kernel_rfl) rfl rfl) ?_
      refine fcn (ob_copy 23 4 (.inr rfl) rfl (.inl rfl) (by kernel_rfl) rfl) ?_
      exact fnl
    intro a2 w2 st2 hbr2 hfr
    have hs2 := hbr2.size
    have hb := up hb hbr2
    have st : St 24 [(4, fT)] a2 w2 := st2.to (fcs ⟨st2.at_ 4, fnl⟩)
    clear st2 hbr2 hfr
    refine wpList_nil ?_
    refine then_normal ?_
    refine wp_ret ?_
    exact sym_ret1 rfl st.defers (resAt_tmp st 4) hb (fun v h => by subst hbd; rw [decide_eq_true (Rt.ext' (eq_of_beq h1) (of_decide_eq_true h2) (of_decide_eq_true h3))]; exact h)
set_option maxRecDepth 100000 in
theorem z_same3 (k l i j : Nat) (s : Bool) (p q : Nat) : ∀ v0 v1 w, (Fact.agg (Con.tri k l s p q)).holds v0 w → (Fact.agg (Con.tri i j s p q)).holds v1 w → Calls Tryz.prog 13 #[v0, v1] w (Ret (fT) w) := by
  intro v0 v1 w hv0 hv1
  refine sym_calls 24 [(0, Fact.agg (Con.tri k l s p q)), (1, Fact.agg (Con.tri i j s p q))] Tryz.func13 rfl rfl (Nat.le_of_ble_eq_true rfl) (fcs ⟨⟨Nat.le_of_ble_eq_true rfl, hv0⟩, fcs ⟨⟨Nat.le_of_ble_eq_true rfl, hv1⟩, fnl⟩⟩) fun a st => ?_
  have hb := Below.refl w.heap.size w
  refine wp_seq ?_
  refine sym_region st [(2, Fact.var' (Con.tri k l s p q)), (3, Fact.var' (Con.tri i j s p q)), (4, fF)] [2, 3] 3 (by kernel_rfl) (by kernel_rfl) (by kernel_rfl) (Nat.le_of_ble_eq_true rfl) (by kernel_rfl) rfl rfl ?_ ?_
  · refine fcs ⟨obn_box 26 0 2 _ (Con.tri k l s p q) rfl rfl rfl (by kernel_rfl) rfl rfl, ?_⟩
    refine fcs ⟨obn_box 26 1 3 _ (Con.tri i j s p q) rfl rfl rfl (by kernel_rfl) rfl rfl, ?_⟩
    refine fcn (ob_const (.bool false) 4 (.inr rfl) rfl (.inl rfl) rfl) ?_
    exact fnl
  intro a1 w1 st1 hbr1 hfr
  have hs1 := hbr1.size
  have hb := up hb hbr1
  obtain ⟨b2, c2⟩ := (show (Fact.var' (Con.tri k l s p q)).holds _ _ from st1.at_ 2)
  have g2 := hfr.ge (s := 2) rfl c2.1
  obtain ⟨b3, c3⟩ := (show (Fact.var' (Con.tri i j s p q)).holds _ _ from st1.at_ 3)
  have g3 := hfr.ge (s := 3) rfl c3.1
  have ne2_3 := hfr.apart (s := 2) (t := 3) rfl rfl (by decide) c2.1 c3.1
  have st : St 24 [(2, Fact.cell b2 (Con.tri k l s p q)), (3, Fact.cell b3 (Con.tri i j s p q)), (4, fF)] a1 w1 := st1.to (fcs ⟨c2, fcs ⟨c3, fcs ⟨st1.at_ 4, fnl⟩⟩⟩)
  clear st1 hbr1 hfr c2 c3
  refine wpList_nil ?_
  refine then_normal ?_
  refine wp_seq ?_
  have st := st.to (ks' := [(2, Fact.cell b2 (Con.tri k l s p q)), (3, Fact.cell b3 (Con.tri i j s p q))]) (fcs ⟨st.at_ 2, fcs ⟨st.at_ 3, fnl⟩⟩)
  refine sym_region st [(5, Fact.ptr (Con.bool s)), (6, Fact.eq (.bool s)), (7, Fact.ptr (Con.bool s)), (8, Fact.eq (.bool s)), (9, fT), (10, fT), (11, Fact.ptr (Con.nn k p)), (12, Fact.agg (Con.nn k p)), (13, Fact.ptr (Con.nn i p)), (14, Fact.agg (Con.nn i p)), (15, fT), (16, fT), (17, fT), (18, Fact.ptr (Con.nn l q)), (19, Fact.agg (Con.nn l q)), (20, Fact.ptr (Con.nn j q)), (21, Fact.agg (Con.nn j q)), (22, fT), (23, fT), (4, fT)] [] 20 (by kernel_rfl) (by kernel_rfl) (by kernel_rfl) (Nat.le_of_ble_eq_true rfl) (by kernel_rfl) rfl rfl ?_ ?_
  · refine fcn (ob_addr 26 0 2 5 0 (Con.tri k l s p q) (Con.bool s) rfl rfl (.inl rfl) (by kernel_rfl) points_cell rfl (Con.tri_0 k l s p q) field26_0) ?_
    refine fcn (ob_readb 5 6 s s rfl rfl rfl (.inl rfl) (by kernel_rfl) points_ptr rfl) ?_
    refine fcn (ob_addr 26 0 3 7 0 (Con.tri i j s p q) (Con.bool s) rfl rfl (.inl rfl) (by kernel_rfl) points_cell rfl (Con.tri_0 i j s p q) field26_0) ?_
    refine fcn (ob_readb 7 8 s s rfl rfl rfl (.inl rfl) (by kernel_rfl) points_ptr rfl) ?_
    refine fcn (ob_eqb 6 8 9 s s true (beq_self_eq_true s) rfl rfl (.inl rfl) (by kernel_rfl) (by kernel_rfl) rfl rfl rfl) ?_
    refine fcn (ob_copy 9 10 (.inl rfl) rfl (.inl rfl) (by kernel_rfl) rfl) ?_
    refine fcn (ob_addr 26 1 2 11 1 (Con.tri k l s p q) (Con.nn k p) rfl rfl (.inr ⟨_, _, _, rfl, rfl, by kernel_rfl, by decide, rfl⟩) (by kernel_rfl) points_cell rfl (Con.tri_1 k l s p q) field26_1) ?_
    refine fcn (ob_read 24 11 12 (Con.nn k p) rfl rfl (.inr ⟨_, _, _, rfl, rfl, by kernel_rfl, by decide, rfl⟩) (by kernel_rfl) points_ptr rfl row24 info24) ?_
    refine fcn (ob_addr 26 1 3 13 1 (Con.tri i j s p q) (Con.nn i p) rfl rfl (.inr ⟨_, _, _, rfl, rfl, by kernel_rfl, by decide, rfl⟩) (by kernel_rfl) points_cell rfl (Con.tri_1 i j s p q) field26_1) ?_
    refine fcn (ob_read 24 13 14 (Con.nn i p) rfl rfl (.inr ⟨_, _, _, rfl, rfl, by kernel_rfl, by decide, rfl⟩) (by kernel_rfl) points_ptr rfl row24 info24) ?_
    refine fcn (ob_call2 45 12 14 15 _ rfl rfl (.inr ⟨_, _, _, rfl, rfl, by kernel_rfl, by decide, rfl⟩) (by kernel_rfl) (by kernel_rfl) (by kernel_rfl) (r_same k i p p true (decide_eq_true rfl))) ?_
    refine fcn (ob_pick 10 15 16 _ rfl rfl (.inl rfl) (by kernel_rfl) (by kernel_rfl) rfl rfl) ?_
    refine fcn (ob_copy 16 17 (.inl rfl) rfl (.inl rfl) (by kernel_rfl) rfl) ?_
    refine fcn (ob_addr 26 2 2 18 2 (Con.tri k l s p q) (Con.nn l q) rfl rfl (.inr ⟨_, _, _, rfl, rfl, by kernel_rfl, by decide, rfl⟩) (by kernel_rfl) points_cell rfl (Con.tri_2 k l s p q) field26_2) ?_
    refine fcn (ob_read 24 18 19 (Con.nn l q) rfl rfl (.inr ⟨_, _, _, rfl, rfl, by kernel_rfl, by decide, rfl⟩) (by kernel_rfl) points_ptr rfl row24 info24) ?_
    refine fcn (ob_addr 26 2 3 20 2 (Con.tri i j s p q) (Con.nn j q) rfl rfl (.inr ⟨_, _, _, rfl, rfl, by kernel_rfl, by decide, rfl⟩) (by kernel_rfl) points_cell rfl (Con.tri_2 i j s p q) field26_2) ?_
    refine fcn (ob_read 24 20 21 (Con.nn j q) rfl rfl (.inr ⟨_, _, _, rfl, rfl, by kernel_rfl, by decide, rfl⟩) (by kernel_rfl) points_ptr rfl row24 info24) ?_
    refine fcn (ob_call2 45 19 21 22 _ rfl rfl (.inr ⟨_, _, _, rfl, rfl, by kernel_rfl, by decide, rfl⟩) (by kernel_rfl) (by kernel_rfl) (by kernel_rfl) (r_same l j q q true (decide_eq_true rfl))) ?_
    refine fcn (ob_pick 17 22 23 _ rfl rfl (.inl rfl) (by kernel_rfl) (by kernel_rfl) rfl rfl) ?_
    refine fcn (ob_copy 23 4 (.inr rfl) rfl (.inl rfl) (by kernel_rfl) rfl) ?_
    exact fnl
  intro a2 w2 st2 hbr2 hfr
  have hs2 := hbr2.size
  have hb := up hb hbr2
  have st : St 24 [(4, fT)] a2 w2 := st2.to (fcs ⟨st2.at_ 4, fnl⟩)
  clear st2 hbr2 hfr
  refine wpList_nil ?_
  refine then_normal ?_
  refine wp_ret ?_
  exact sym_ret1 rfl st.defers (resAt_tmp st 4) hb (fun _ h => h)
set_option maxRecDepth 100000 in
theorem z_valid (k : Nat) (x : Rat) (hk : k ≤ 300) : ∀ v0 w, (Fact.agg (Con.fr k x)).holds v0 w → Calls Tryz.prog 12 #[v0] w (Ret (fT) w) := by
  intro v0 w hv0
  cases hng : Rt.ng x with
  | false =>
    refine sym_calls 34 [(0, Fact.agg (Con.fr k x))] Tryz.func12 rfl rfl (Nat.le_of_ble_eq_true rfl) (fcs ⟨⟨Nat.le_of_ble_eq_true rfl, hv0⟩, fnl⟩) fun a st => ?_
    have hb := Below.refl w.heap.size w
    refine wp_seq ?_
    refine sym_region st [(1, Fact.var' (Con.fr k x)), (2, fF)] [1] 2 (by kernel_rfl) (by kernel_rfl) (by kernel_rfl) (Nat.le_of_ble_eq_true rfl) (by kernel_rfl) rfl rfl ?_ ?_
    · refine fcs ⟨obn_box 26 0 1 _ (Con.fr k x) rfl rfl rfl (by kernel_rfl) rfl rfl, ?_⟩
      refine fcn (ob_const (.bool false) 2 (.inr rfl) rfl (.inl rfl) rfl) ?_
      exact fnl
    intro a1 w1 st1 hbr1 hfr
    have hs1 := hbr1.size
    have hb := up hb hbr1
    obtain ⟨b1, c1⟩ := (show (Fact.var' (Con.fr k x)).holds _ _ from st1.at_ 1)
    have g1 := hfr.ge (s := 1) rfl c1.1
    have st : St 34 [(1, Fact.cell b1 (Con.fr k x)), (2, fF)] a1 w1 := st1.to (fcs ⟨c1, fcs ⟨st1.at_ 2, fnl⟩⟩)
    clear st1 hbr1 hfr c1
    refine wpList_nil ?_
    refine then_normal ?_
    refine wp_seq ?_
    refine wp_seq ?_
    refine sym_region st [(3, Fact.ptr (Con.nn k (Rt.tp x))), (4, Fact.agg (Con.nn k (Rt.tp x))), (5, fT), (6, fF), (7, fF), (8, Fact.ptr (Con.nn k (Rat.den x))), (9, Fact.agg (Con.nn k (Rat.den x))), (10, fT), (11, fF), (12, fF), (13, fF), (14, Fact.ptr (Con.nn k (Rat.den x))), (15, Fact.agg (Con.nn k (Rat.den x))), (16, fF), (17, fF), (18, fF), (19, Fact.ptr (Con.bool (Rt.ng x))), (20, fF), (21, fF), (22, Fact.eq undef), (23, Fact.eq undef), (24, Fact.eq undef), (25, fF), (26, fF)] [] 24 (by kernel_rfl) (by kernel_rfl) (by kernel_rfl) (Nat.le_of_ble_eq_true rfl) (by kernel_rfl) rfl rfl ?_ ?_
    · refine fcn (ob_addr 26 1 1 3 1 (Con.fr k x) (Con.nn k (Rt.tp x)) rfl rfl (.inl rfl) (by kernel_rfl) points_cell rfl (Con.fr_tp k x) field26_1) ?_
      refine fcn (ob_read 24 3 4 (Con.nn k (Rt.tp x)) rfl rfl (.inl rfl) (by kernel_rfl) points_ptr rfl row24 info24) ?_
      refine fcn (ob_call1 43 4 5 _ rfl rfl (.inl rfl) (by kernel_rfl) (by kernel_rfl) (r_valid k (Rt.tp x))) ?_
      refine fcn (ob_not 5 6 true false rfl rfl rfl (.inl rfl) (by kernel_rfl) rfl rfl) ?_
      refine fcn (ob_copy 6 7 (.inl rfl) rfl (.inl rfl) (by kernel_rfl) rfl) ?_
      refine fcn (ob_addr 26 2 1 8 2 (Con.fr k x) (Con.nn k (Rat.den x)) rfl rfl (.inr ⟨_, _, _, rfl, rfl, by kernel_rfl, by decide, rfl⟩) (by kernel_rfl) points_cell rfl (Con.fr_den k x) field26_2) ?_
      refine fcn (ob_read 24 8 9 (Con.nn k (Rat.den x)) rfl rfl (.inr ⟨_, _, _, rfl, rfl, by kernel_rfl, by decide, rfl⟩) (by kernel_rfl) points_ptr rfl row24 info24) ?_
      refine fcn (ob_call1 43 9 10 _ rfl rfl (.inr ⟨_, _, _, rfl, rfl, by kernel_rfl, by decide, rfl⟩) (by kernel_rfl) (by kernel_rfl) (r_valid k (Rat.den x))) ?_
      refine fcn (ob_not 10 11 true false rfl rfl rfl (.inr ⟨_, _, _, rfl, rfl, by kernel_rfl, by decide, rfl⟩) (by kernel_rfl) rfl rfl) ?_
      refine fcn (ob_pick_else 7 11 12 (.bool true) rfl rfl (.inl rfl) (by kernel_rfl) (by kernel_rfl) rfl rfl) ?_
      refine fcn (ob_copy 12 13 (.inl rfl) rfl (.inl rfl) (by kernel_rfl) rfl) ?_
      refine fcn (ob_addr 26 2 1 14 2 (Con.fr k x) (Con.nn k (Rat.den x)) rfl rfl (.inr ⟨_, _, _, rfl, rfl, by kernel_rfl, by decide, rfl⟩) (by kernel_rfl) points_cell rfl (Con.fr_den k x) field26_2) ?_
      refine fcn (ob_read 24 14 15 (Con.nn k (Rat.den x)) rfl rfl (.inr ⟨_, _, _, rfl, rfl, by kernel_rfl, by decide, rfl⟩) (by kernel_rfl) points_ptr rfl row24 info24) ?_
      refine fcn (ob_call1 44 15 16 _ rfl rfl (.inr ⟨_, _, _, rfl, rfl, by kernel_rfl, by decide, rfl⟩) (by kernel_rfl) (by kernel_rfl) (z_zero k (Rat.den x) false (decide_eq_false x.den_nz))) ?_
      refine fcn (ob_pick_else 13 16 17 (.bool true) rfl rfl (.inl rfl) (by kernel_rfl) (by kernel_rfl) rfl rfl) ?_
      refine fcn (ob_copy 17 18 (.inl rfl) rfl (.inl rfl) (by kernel_rfl) rfl) ?_
      refine fcn (ob_addr 26 0 1 19 0 (Con.fr k x) (Con.bool (Rt.ng x)) rfl rfl (.inr ⟨_, _, _, rfl, rfl, by kernel_rfl, by decide, rfl⟩) (by kernel_rfl) points_cell rfl (Con.fr_ng k x) field26_0) ?_
      refine fcn (ob_readb 19 20 (Rt.ng x) false hng rfl rfl (.inr ⟨_, _, _, rfl, rfl, by kernel_rfl, by decide, rfl⟩) (by kernel_rfl) points_ptr rfl) ?_
      refine fcn (ob_copy 20 21 (.inl rfl) rfl (.inr ⟨_, _, _, rfl, rfl, by kernel_rfl, by decide, rfl⟩) (by kernel_rfl) rfl) ?_
      refine fcn (ob_skip 18 21 22 true rfl rfl (by kernel_rfl) (by decide) rfl rfl rfl) ?_
      refine fcn (ob_skip 18 21 23 true rfl rfl (by kernel_rfl) (by decide) rfl rfl rfl) ?_
      refine fcn (ob_skip 18 21 24 true rfl rfl (by kernel_rfl) (by decide) rfl rfl rfl) ?_
      refine fcn (ob_pick_no 21 24 25 (.bool false) rfl rfl (.inr ⟨_, _, _, rfl, rfl, by kernel_rfl, by decide, rfl⟩) (by kernel_rfl) rfl rfl) ?_
      refine fcn (ob_pick_else 18 25 26 (.bool true) rfl rfl (.inl rfl) (by kernel_rfl) (by kernel_rfl) rfl rfl) ?_
      exact fnl
    intro a2 w2 st2 hbr2 hfr
    have hs2 := hbr2.size
    have hb := up hb hbr2
    have st : St 34 [(1, Fact.cell b1 (Con.fr k x)), (2, fF), (26, fF)] a2 w2 := st2.to (fcs ⟨st2.at_ 1, fcs ⟨st2.at_ 2, fcs ⟨st2.at_ 26, fnl⟩⟩⟩)
    clear st2 hbr2 hfr
    refine wpList_nil ?_
    refine then_normal ?_
    refine wp_cond_false (st.at_ 26) ?_
    refine wp_skip ?_
    refine then_normal ?_
    refine wp_seq ?_
    have st := st.to (ks' := [(1, Fact.cell b1 (Con.fr k x)), (26, fF)]) (fcs ⟨st.at_ 1, fcs ⟨st.at_ 26, fnl⟩⟩)
    refine sym_region st [(27, Fact.ptr (Con.nn k (Rt.tp x))), (28, Fact.agg (Con.nn k (Rt.tp x))), (29, Fact.ptr (Con.nn k (Rat.den x))), (30, Fact.agg (Con.nn k (Rat.den x))), (31, Fact.agg (Con.nn k (Nat.gcd (Rt.tp x) (Rat.den x)))), (32, Fact.agg (Con.nn 1 1)), (33, fT), (2, fT)] [] 8 (by kernel_rfl) (by kernel_rfl) (by kernel_rfl) (Nat.le_of_ble_eq_true rfl) (by kernel_rfl) rfl rfl ?_ ?_
    · refine fcn (ob_addr 26 1 1 27 1 (Con.fr k x) (Con.nn k (Rt.tp x)) rfl rfl (.inl rfl) (by kernel_rfl) points_cell rfl (Con.fr_tp k x) field26_1) ?_
      refine fcn (ob_read 24 27 28 (Con.nn k (Rt.tp x)) rfl rfl (.inl rfl) (by kernel_rfl) points_ptr rfl row24 info24) ?_
      refine fcn (ob_addr 26 2 1 29 2 (Con.fr k x) (Con.nn k (Rat.den x)) rfl rfl (.inl rfl) (by kernel_rfl) points_cell rfl (Con.fr_den k x) field26_2) ?_
      refine fcn (ob_read 24 29 30 (Con.nn k (Rat.den x)) rfl rfl (.inl rfl) (by kernel_rfl) points_ptr rfl row24 info24) ?_
      refine fcn (ob_call2 46 28 30 31 _ rfl rfl (.inl rfl) (by kernel_rfl) (by kernel_rfl) (by kernel_rfl) (r_gcd k k (Rt.tp x) (Rat.den x) x.den_nz (by omega) (by omega))) ?_
      refine fcn (ob_callc 47 _ 32 _ rfl rfl (.inl rfl) (by kernel_rfl) (r_ofc 1 1 (by decide) (by unfold Nm.Sz; decide))) ?_
      refine fcn (ob_call2 45 31 32 33 _ rfl rfl (.inl rfl) (by kernel_rfl) (by kernel_rfl) (by kernel_rfl) (r_same k 1 (Nat.gcd (Rt.tp x) (Rat.den x)) 1 true (decide_eq_true (Rt.vld x).low))) ?_
      refine fcn (ob_copy 33 2 (.inr rfl) rfl (.inl rfl) (by kernel_rfl) rfl) ?_
      exact fnl
    intro a3 w3 st3 hbr3 hfr
    have hs3 := hbr3.size
    have hb := up hb hbr3
    have st : St 34 [(2, fT)] a3 w3 := st3.to (fcs ⟨st3.at_ 2, fnl⟩)
    clear st3 hbr3 hfr
    refine wpList_nil ?_
    refine then_normal ?_
    refine wp_ret ?_
    exact sym_ret1 rfl st.defers (resAt_tmp st 2) hb (fun _ h => h)
  | true =>
    refine sym_calls 34 [(0, Fact.agg (Con.fr k x))] Tryz.func12 rfl rfl (Nat.le_of_ble_eq_true rfl) (fcs ⟨⟨Nat.le_of_ble_eq_true rfl, hv0⟩, fnl⟩) fun a st => ?_
    have hb := Below.refl w.heap.size w
    refine wp_seq ?_
    refine sym_region st [(1, Fact.var' (Con.fr k x)), (2, fF)] [1] 2 (by kernel_rfl) (by kernel_rfl) (by kernel_rfl) (Nat.le_of_ble_eq_true rfl) (by kernel_rfl) rfl rfl ?_ ?_
    · refine fcs ⟨obn_box 26 0 1 _ (Con.fr k x) rfl rfl rfl (by kernel_rfl) rfl rfl, ?_⟩
      refine fcn (ob_const (.bool false) 2 (.inr rfl) rfl (.inl rfl) rfl) ?_
      exact fnl
    intro a1 w1 st1 hbr1 hfr
    have hs1 := hbr1.size
    have hb := up hb hbr1
    obtain ⟨b1, c1⟩ := (show (Fact.var' (Con.fr k x)).holds _ _ from st1.at_ 1)
    have g1 := hfr.ge (s := 1) rfl c1.1
    have st : St 34 [(1, Fact.cell b1 (Con.fr k x)), (2, fF)] a1 w1 := st1.to (fcs ⟨c1, fcs ⟨st1.at_ 2, fnl⟩⟩)
    clear st1 hbr1 hfr c1
    refine wpList_nil ?_
    refine then_normal ?_
    refine wp_seq ?_
    refine wp_seq ?_
    refine sym_region st [(3, Fact.ptr (Con.nn k (Rt.tp x))), (4, Fact.agg (Con.nn k (Rt.tp x))), (5, fT), (6, fF), (7, fF), (8, Fact.ptr (Con.nn k (Rat.den x))), (9, Fact.agg (Con.nn k (Rat.den x))), (10, fT), (11, fF), (12, fF), (13, fF), (14, Fact.ptr (Con.nn k (Rat.den x))), (15, Fact.agg (Con.nn k (Rat.den x))), (16, fF), (17, fF), (18, fF), (19, Fact.ptr (Con.bool (Rt.ng x))), (20, fT), (21, fT), (22, Fact.ptr (Con.nn k (Rt.tp x))), (23, Fact.agg (Con.nn k (Rt.tp x))), (24, fF), (25, fF), (26, fF)] [] 24 (by kernel_rfl) (by kernel_rfl) (by kernel_rfl) (Nat.le_of_ble_eq_true rfl) (by kernel_rfl) rfl rfl ?_ ?_
    · refine fcn (ob_addr 26 1 1 3 1 (Con.fr k x) (Con.nn k (Rt.tp x)) rfl rfl (.inl rfl) (by kernel_rfl) points_cell rfl (Con.fr_tp k x) field26_1) ?_
      refine fcn (ob_read 24 3 4 (Con.nn k (Rt.tp x)) rfl rfl (.inl rfl) (by kernel_rfl) points_ptr rfl row24 info24) ?_
      refine fcn (ob_call1 43 4 5 _ rfl rfl (.inl rfl) (by kernel_rfl) (by kernel_rfl) (r_valid k (Rt.tp x))) ?_
      refine fcn (ob_not 5 6 true false rfl rfl rfl (.inl rfl) (by kernel_rfl) rfl rfl) ?_
      refine fcn (ob_copy 6 7 (.inl rfl) rfl (.inl rfl) (by kernel_rfl) rfl) ?_
      refine fcn (ob_addr 26 2 1 8 2 (Con.fr k x) (Con.nn k (Rat.den x)) rfl rfl (.inr ⟨_, _, _, rfl, rfl, by kernel_rfl, by decide, rfl⟩) (by kernel_rfl) points_cell rfl (Con.fr_den k x) field26_2) ?_
      refine fcn (ob_read 24 8 9 (Con.nn k (Rat.den x)) rfl rfl (.inr ⟨_, _, _, rfl, rfl, by kernel_rfl, by decide, rfl⟩) (by kernel_rfl) points_ptr rfl row24 info24) ?_
      refine fcn (ob_call1 43 9 10 _ rfl rfl (.inr ⟨_, _, _, rfl, rfl, by kernel_rfl, by decide, rfl⟩) (by kernel_rfl) (by kernel_rfl) (r_valid k (Rat.den x))) ?_
      refine fcn (ob_not 10 11 true false rfl rfl rfl (.inr ⟨_, _, _, rfl, rfl, by kernel_rfl, by decide, rfl⟩) (by kernel_rfl) rfl rfl) ?_
      refine fcn (ob_pick_else 7 11 12 (.bool true) rfl rfl (.inl rfl) (by kernel_rfl) (by kernel_rfl) rfl rfl) ?_
      refine fcn (ob_copy 12 13 (.inl rfl) rfl (.inl rfl) (by kernel_rfl) rfl) ?_
      refine fcn (ob_addr 26 2 1 14 2 (Con.fr k x) (Con.nn k (Rat.den x)) rfl rfl (.inr ⟨_, _, _, rfl, rfl, by kernel_rfl, by decide, rfl⟩) (by kernel_rfl) points_cell rfl (Con.fr_den k x) field26_2) ?_
      refine fcn (ob_read 24 14 15 (Con.nn k (Rat.den x)) rfl rfl (.inr ⟨_, _, _, rfl, rfl, by kernel_rfl, by decide, rfl⟩) (by kernel_rfl) points_ptr rfl row24 info24) ?_
      refine fcn (ob_call1 44 15 16 _ rfl rfl (.inr ⟨_, _, _, rfl, rfl, by kernel_rfl, by decide, rfl⟩) (by kernel_rfl) (by kernel_rfl) (z_zero k (Rat.den x) false (decide_eq_false x.den_nz))) ?_
      refine fcn (ob_pick_else 13 16 17 (.bool true) rfl rfl (.inl rfl) (by kernel_rfl) (by kernel_rfl) rfl rfl) ?_
      refine fcn (ob_copy 17 18 (.inl rfl) rfl (.inl rfl) (by kernel_rfl) rfl) ?_
      refine fcn (ob_addr 26 0 1 19 0 (Con.fr k x) (Con.bool (Rt.ng x)) rfl rfl (.inr ⟨_, _, _, rfl, rfl, by kernel_rfl, by decide, rfl⟩) (by kernel_rfl) points_cell rfl (Con.fr_ng k x) field26_0) ?_
      refine fcn (ob_readb 19 20 (Rt.ng x) true hng rfl rfl (.inr ⟨_, _, _, rfl, rfl, by kernel_rfl, by decide, rfl⟩) (by kernel_rfl) points_ptr rfl) ?_
      refine fcn (ob_copy 20 21 (.inl rfl) rfl (.inr ⟨_, _, _, rfl, rfl, by kernel_rfl, by decide, rfl⟩) (by kernel_rfl) rfl) ?_
      refine fcn (ob_addr 26 1 1 22 1 (Con.fr k x) (Con.nn k (Rt.tp x)) rfl rfl (.inr ⟨_, _, _, rfl, rfl, by kernel_rfl, by decide, rfl⟩) (by kernel_rfl) points_cell rfl (Con.fr_tp k x) field26_1) ?_
      refine fcn (ob_read 24 22 23 (Con.nn k (Rt.tp x)) rfl rfl (.inr ⟨_, _, _, rfl, rfl, by kernel_rfl, by decide, rfl⟩) (by kernel_rfl) points_ptr rfl row24 info24) ?_
      refine fcn (ob_call1 44 23 24 _ rfl rfl (.inr ⟨_, _, _, rfl, rfl, by kernel_rfl, by decide, rfl⟩) (by kernel_rfl) (by kernel_rfl) (z_zero k (Rt.tp x) false (decide_eq_false ((Rt.vld x).zero hng)))) ?_
      refine fcn (ob_pick 21 24 25 _ rfl rfl (.inr ⟨_, _, _, rfl, rfl, by kernel_rfl, by decide, rfl⟩) (by kernel_rfl) (by kernel_rfl) rfl rfl) ?_
      refine fcn (ob_pick_else 18 25 26 (.bool true) rfl rfl (.inl rfl) (by kernel_rfl) (by kernel_rfl) rfl rfl) ?_
      exact fnl
    intro a2 w2 st2 hbr2 hfr
    have hs2 := hbr2.size
    have hb := up hb hbr2
    have st : St 34 [(1, Fact.cell b1 (Con.fr k x)), (2, fF), (26, fF)] a2 w2 := st2.to (fcs ⟨st2.at_ 1, fcs ⟨st2.at_ 2, fcs ⟨st2.at_ 26, fnl⟩⟩⟩)
    clear st2 hbr2 hfr
    refine wpList_nil ?_
    refine then_normal ?_
    refine wp_cond_false (st.at_ 26) ?_
    refine wp_skip ?_
    refine then_normal ?_
    refine wp_seq ?_
    have st := st.to (ks' := [(1, Fact.cell b1 (Con.fr k x)), (26, fF)]) (fcs ⟨st.at_ 1, fcs ⟨st.at_ 26, fnl⟩⟩)
    refine sym_region st [(27, Fact.ptr (Con.nn k (Rt.tp x))), (28, Fact.agg (Con.nn k (Rt.tp x))), (29, Fact.ptr (Con.nn k (Rat.den x))), (30, Fact.agg (Con.nn k (Rat.den x))), (31, Fact.agg (Con.nn k (Nat.gcd (Rt.tp x) (Rat.den x)))), (32, Fact.agg (Con.nn 1 1)), (33, fT), (2, fT)] [] 8 (by kernel_rfl) (by kernel_rfl) (by kernel_rfl) (Nat.le_of_ble_eq_true rfl) (by kernel_rfl) rfl rfl ?_ ?_
    · refine fcn (ob_addr 26 1 1 27 1 (Con.fr k x) (Con.nn k (Rt.tp x)) rfl rfl (.inl rfl) (by kernel_rfl) points_cell rfl (Con.fr_tp k x) field26_1) ?_
      refine fcn (ob_read 24 27 28 (Con.nn k (Rt.tp x)) rfl rfl (.inl rfl) (by kernel_rfl) points_ptr rfl row24 info24) ?_
      refine fcn (ob_addr 26 2 1 29 2 (Con.fr k x) (Con.nn k (Rat.den x)) rfl rfl (.inl rfl) (by kernel_rfl) points_cell rfl (Con.fr_den k x) field26_2) ?_
      refine fcn (ob_read 24 29 30 (Con.nn k (Rat.den x)) rfl rfl (.inl rfl) (by kernel_rfl) points_ptr rfl row24 info24) ?_
      refine fcn (ob_call2 46 28 30 31 _ rfl rfl (.inl rfl) (by kernel_rfl) (by kernel_rfl) (by kernel_rfl) (r_gcd k k (Rt.tp x) (Rat.den x) x.den_nz (by omega) (by omega))) ?_
      refine fcn (ob_callc 47 _ 32 _ rfl rfl (.inl rfl) (by kernel_rfl) (r_ofc 1 1 (by decide) (by unfold Nm.Sz; decide))) ?_
      refine fcn (ob_call2 45 31 32 33 _ rfl rfl (.inl rfl) (by kernel_rfl) (by kernel_rfl) (by kernel_rfl) (r_same k 1 (Nat.gcd (Rt.tp x) (Rat.den x)) 1 true (decide_eq_true (Rt.vld x).low))) ?_
      refine fcn (ob_copy 33 2 (.inr rfl) rfl (.inl rfl) (by kernel_rfl) rfl) ?_
      exact fnl
    intro a3 w3 st3 hbr3 hfr
    have hs3 := hbr3.size
    have hb := up hb hbr3
    have st : St 34 [(2, fT)] a3 w3 := st3.to (fcs ⟨st3.at_ 2, fnl⟩)
    clear st3 hbr3 hfr
    refine wpList_nil ?_
    refine then_normal ?_
    refine wp_ret ?_
    exact sym_ret1 rfl st.defers (resAt_tmp st 2) hb (fun _ h => h)
end Go.Proofs.YtjfehdkfogdpgaaGreatDoor
namespace Go.Proofs.YtjfehdkfogdpgaaGreatDoor
open Go.RowKit
theorem amt_lt {n : Int} (h : -9223372036854775808 ≤ n ∧ n ≤ 9223372036854775807) : n.natAbs < 18446744073709551616 := by omega
section
variable {ops : Array Oper} {Q : Exit → Act → World → Prop} {F : Nat → Fact} {base : List Nat} {N : Nat} {o : Oper}
theorem ob_conv64 (t d : Nat) (z r : Int) (hr : IntKind.u64.wrap z = r) (ho : o.op = .convert 2 57 (.tmp t)) (hd : o.dst = some d) (hg : GuardOk ops F base N o) (hk : known ops base o t = true) (hv : F t = fI z) (hF : F d = Fact.eq (.int .u64 r)) : Ob ops Q F base N o :=
  ob_one t d _ _ hd hg hk hv hF fun a w h1 => by
    subst hr
    simp [execOp, ho, h1]
    go_simp
theorem ob_neg64 (t d : Nat) (z r : Int) (hr : IntKind.u64.wrap (-z) = r) (ho : o.op = .unOp .neg 57 (.tmp t)) (hd : o.dst = some d) (hg : GuardOk ops F base N o) (hk : known ops base o t = true) (hv : F t = Fact.eq (.int .u64 z)) (hF : F d = Fact.eq (.int .u64 r)) : Ob ops Q F base N o :=
  ob_one t d _ _ hd hg hk hv hF fun a w h1 => by
    subst hr
    simp [execOp, ho, h1]
    go_simp
end
end Go.Proofs.YtjfehdkfogdpgaaGreatDoor

/-
  'clear' of elements of several cells; slices.DeleteFunc of the entries with a number. No conditions beyond those that each names.
-/
import Derived.Test.YthfodpbecddheaaGreatDoorQM09
import Derived.Test.YthfodpbecddheaaGreatDoorQM07
import Derived.Test.YthfodpbecddheaaGreatDoorQM08
namespace Go.Proofs.YthfodpbecddheaaGreatDoor
open Go.RowKit Go.Shelf Go.Sort
/-- How the row stands when the places before k have been gone through and i of them stay. -/
def DelM (p : Int × Vl → Bool) (l M : List (Int × Vl)) (i k : Nat) : Prop := M.length = l.length ∧ M.take i = (l.take k).filter p ∧ M.drop k = l.drop k
theorem DelM.get {p : Int × Vl → Bool} {l M : List (Int × Vl)} {i k : Nat} (h : DelM p l M i k) (hk : k < l.length) : M[k]'(by rw [h.1]; exact hk) = l[k]'hk := by
  have h1 := congrArg (fun x => x[0]?) h.2.2
  simp only [List.getElem?_drop, Nat.add_zero] at h1
  rw [List.getElem?_eq_getElem (by rw [h.1]; exact hk), List.getElem?_eq_getElem hk] at h1
  exact Option.some.inj h1
theorem drop_succ_of {α : Type} {l m : List α} {k : Nat} (h : m.drop k = l.drop k) : m.drop (k + 1) = l.drop (k + 1) := by
  rw [← List.drop_drop, ← List.drop_drop, h]
theorem DelM.skip {p : Int × Vl → Bool} {l M : List (Int × Vl)} {i k : Nat} (h : DelM p l M i k) (hk : k < l.length) (hp : p (l[k]'hk) = false) : DelM p l M i (k + 1) := by
  refine ⟨h.1, ?_, drop_succ_of h.2.2⟩
  rw [h.2.1, List.take_succ_eq_append_getElem hk, List.filter_append, List.filter_cons_of_neg (by rw [hp]; decide), List.filter_nil, List.append_nil]
theorem DelM.keep {p : Int × Vl → Bool} {l M : List (Int × Vl)} {i k : Nat} (h : DelM p l M i k) (hk : k < l.length) (hik : i < k) (hp : p (l[k]'hk) = true) : DelM p l (M.set i (l[k]'hk)) (i + 1) (k + 1) := by
  have hM : i < M.length := by rw [h.1]; omega
  refine ⟨by rw [List.length_set]; exact h.1, ?_, ?_⟩
  · rw [List.take_succ_eq_append_getElem (by rw [List.length_set]; exact hM), List.getElem_set_self, List.take_set_of_le (Nat.le_refl _), h.2.1, List.take_succ_eq_append_getElem hk, List.filter_append, List.filter_cons_of_pos hp, List.filter_nil]
  · rw [List.drop_set_of_lt (by omega)]
    exact drop_succ_of h.2.2
theorem DelM.first {p : Int × Vl → Bool} {l : List (Int × Vl)} {i : Nat} (hi : i < l.length) (h1 : p (l[i]'hi) = false) (h2 : ∀ j (hj : j < l.length), j < i → p (l[j]'hj) = true) : DelM p l l i (i + 1) := by
  refine ⟨rfl, ?_, rfl⟩
  rw [List.take_succ_eq_append_getElem hi, List.filter_append, List.filter_cons_of_neg (by rw [h1]; decide), List.filter_nil, List.append_nil]
  refine (List.filter_eq_self.2 fun x hx => ?_).symm
  obtain ⟨j, hj, rfl⟩ := List.getElem_of_mem hx
  rw [List.getElem_take]
  rw [List.length_take] at hj
  exact h2 j (by omega) (by omega)
theorem IL.take {α β : Type} {z : Nat} {enc : α → β → List Value} {P : α → β → Prop} {l : List α} {xs : List Value} (h : IL z enc (fun _ x s => P x s) l xs) (i : Nat) (hi : i ≤ l.length) : IL z enc (fun _ x s => P x s) (l.take i) (xs.take (i * z)) := by
  have hm : i * z ≤ l.length * z := Nat.mul_le_mul_right z hi
  refine ⟨by rw [List.length_take, List.length_take, h.1, Nat.min_eq_left hi, Nat.min_eq_left hm], fun j hj => ?_⟩
  rw [List.length_take] at hj
  obtain ⟨b, h1, h2⟩ := h.2 j (by omega)
  rw [List.getElem_take]
  refine ⟨b, fun q hq => ?_, h2⟩
  rw [List.getElem?_take, if_pos (mulz (k := i) (by omega) hq)]
  exact h1 q hq
end Go.Proofs.YthfodpbecddheaaGreatDoor
/-
  A region whose order Go leaves open, with one new variable into which one value is stored of which only a predicate is known. No conditions beyond those that it names.
-/
namespace Go.Proofs.YthfodpbecddheaaGreatDoor
open Go.RowKit
section
variable (ops : Array Oper) (F : Nat → Fact) (base : List Nat) (N : Nat) (g : Nat) (p k : Nat) (zs : List Value) (V : List Value → Prop)
structure YInv (a0 : Act) (w0 : World) (listed : Array Bool) (a : Act) (w : World) : Prop where
  tsize : a.tmps.size = N
  defers : a.defers = a0.defers
  base : ∀ t ∈ base, (F t).holds (a.tmps.getD t undef) w
  done : ∀ (i t : Nat), listed.getD i false = true → (ops[i]?).bind Oper.dst = some t → (F t).holds (a.tmps.getD t undef) w
  other : ∀ (t : Nat), (∀ (i : Nat), (ops[i]?).bind Oper.dst ≠ some t) → a.tmps.getD t undef = a0.tmps.getD t undef
  below : Below g w0 w
  gle : g ≤ w.heap.size
  made : ∀ i, listed.getD i false = true → (ops[i]?).bind Oper.dst = some p → ∃ b, a.tmps.getD p undef = ptr0 b ∧ g ≤ b ∧ (listed.getD k false = false → Bx w b zs) ∧ (listed.getD k false = true → ∃ vs, V vs ∧ Bx w b vs)
  closed : ∀ i o, ops[i]? = some o → listed.getD i false = true → ∀ e ∈ o.after, Region.binds .any e = true → listed.getD e.on false = true
/-- What an operation of such a region must show. -/
inductive YOb (f : Nat) (Q : Exit → Act → World → Prop) (i : Nat) (o : Oper) : Prop
  | plain (h : Ob ops Q F base N o) (hp : o.dst ≠ some p) (hk : i ≠ k) : YOb f Q i o
  | alloc (hd : o.dst = some p) (hg : o.guard = none) (hF : F p = Fact.any) (hk : i ≠ k) (hrun : ∀ (a : Act) (w : World), ∃ w', (execOp a.eval o).run Tryz.prog w = .ok (.value (ptr0 w.heap.size)) w' ∧ Below w.heap.size w w' ∧ Bx w' w.heap.size zs) : YOb f Q i o
  | store (hi : i = k) (hd : o.dst = none) (hg : o.guard = none) (hkn : known ops [] o p = true) (hk2 : known ops base o f = true)
      (hrun : ∀ (a : Act) (w : World) (b : Nat), a.tmps.getD p undef = ptr0 b → Bx w b zs → (F f).holds (a.tmps.getD f undef) w → ∃ w', (execOp a.eval o).run Tryz.prog w = .ok .skip w' ∧ w.grownBy w' (some b) ∧ ∃ vs, V vs ∧ Bx w' b vs) : YOb f Q i o
end
section
variable {ops : Array Oper} {Q : Exit → Act → World → Prop} {F : Nat → Fact} {base : List Nat} {N g : Nat} {p k f : Nat} {zs : List Value} {V : List Value → Prop}
theorem YInv.closed' {a0 : Act} {w0 : World} {listed : Array Bool} {a : Act} {w : World} (h : YInv ops F base N g p k zs V a0 w0 listed a w) (hs : listed.size = ops.size) {i : Nat} {o : Oper} (ho : ops[i]? = some o)
    (he : ∀ e ∈ o.after, Region.binds .any e = true → listed.getD e.on false = true) : ∀ j o', ops[j]? = some o' → (listed.setIfInBounds i true).getD j false = true → ∀ e ∈ o'.after, Region.binds .any e = true → (listed.setIfInBounds i true).getD e.on false = true := by
  have hlt : i < listed.size := by rw [hs]; exact (Array.getElem?_eq_some_iff.1 ho).1
  intro j o' ho' hl e hm hb
  rw [listed_set hlt] at hl ⊢
  rcases hl with rfl | hl
  · rw [ho] at ho'
    injection ho' with ho'
    subst ho'
    exact .inr (he e hm hb)
  · exact .inr (h.closed j o' ho' hl e hm hb)
theorem YInv.step (hok : formOk ops base N = true) (hsoft : ∀ t, (F t).SoftG g) (hobs : ∀ j o', ops[j]? = some o' → YOb ops F base N p k zs V f Q j o') {a0 : Act} {w0 : World} {listed : Array Bool} {a : Act} {w : World} (h : YInv ops F base N g p k zs V a0 w0 listed a w) (hs : listed.size = ops.size) {i : Nat} {o : Oper} (ho : ops[i]? = some o)
    (hl0 : listed.getD i false = false) (he : ∀ e ∈ o.after, Region.binds .any e = true → listed.getD e.on false = true) (K : Act → World → Prop) (hK : ∀ a' w', YInv ops F base N g p k zs V a0 w0 (listed.setIfInBounds i true) a' w' → K a' w') :
    (if Region.wanted o (yielded ops a.tmps) = true then Oper.wp Tryz.prog o a w K Q else K (a.put o.dst undef) w) := by
  have hdone : ∀ e ∈ o.after, Region.binds .any e = true → ∀ t, (ops[e.on]?).bind Oper.dst = some t → (F t).holds (a.tmps.getD t undef) w := fun e hm hb t ht => h.done e.on t (he e hm hb) ht
  have hlt : i < listed.size := by rw [hs]; exact (Array.getElem?_eq_some_iff.1 ho).1
  obtain ⟨_, hd⟩ := formOk_at hok ho
  cases hobs i o ho with
  | plain hob hp hk =>
    refine hob a w K h.tsize h.base hdone fun v w' hb hF => hK _ _ ?_
    refine ⟨?_, ?_, fun t ht => ?_, fun j t hj hjt => ?_, fun t ht => ?_, h.below.trans (hb.mono h.gle), Nat.le_trans h.gle hb.size, fun j hj hjd => ?_, h.closed' hs ho he⟩
    · cases o.dst <;> simpa [Act.put] using h.tsize
    · cases o.dst <;> simpa [Act.put] using h.defers
    · rw [getD_put_other (fun e => (hd t e).2.1 ht)]
      exact (F t).stable _ _ _ (h.base t ht) hb
    · by_cases hji : j = i
      · subst hji
        rw [ho] at hjt
        have hjt' : o.dst = some t := hjt
        rw [hjt', getD_put_same (by rw [h.tsize]; exact (hd t hjt').1)]
        exact hF t hjt'
      · have hl : listed.getD j false = true := ((listed_set hlt).1 hj).resolve_left hji
        rw [getD_put_other (fun e => (hd t e).2.2 j hji hjt)]
        exact (F t).stable _ _ _ (h.done j t hl hjt) hb
    · rw [getD_put_other (fun e => ht i (by rw [ho]; exact e))]
      exact h.other t ht
    · have hj' : listed.getD j false = true := ((listed_set hlt).1 hj).resolve_left (by
        rintro rfl
        rw [ho] at hjd
        exact hp hjd)
      obtain ⟨b, h1, h2, h3, h4⟩ := h.made j hj' hjd
      have hkk : (listed.setIfInBounds i true).getD k false = listed.getD k false := by
        have := listed_set (j := k) hlt
        cases hx : listed.getD k false
        · rw [Bool.eq_false_iff]
          intro hc
          rcases this.1 hc with e | e
          · exact hk e.symm
          · rw [hx] at e; cases e
        · exact this.2 (.inr hx)
      rw [hkk]
      exact ⟨b, by rw [getD_put_other hp]; exact h1, h2, fun hl => (h3 hl).next hb, fun hl => by obtain ⟨vs, hv, hx⟩ := h4 hl; exact ⟨vs, hv, hx.next hb⟩⟩
  | alloc hds hg hF hk hrun =>
    obtain ⟨w', hr, hb, hx⟩ := hrun a w
    rw [if_pos (by simp [Region.wanted, hg])]
    unfold Oper.wp
    rw [hr]
    have hps := (hd p hds)
    have hput : (a.put o.dst (ptr0 w.heap.size)).tmps.getD p undef = ptr0 w.heap.size := by
      rw [hds, getD_put_same (by rw [h.tsize]; exact hps.1)]
    have hold : ∀ t, t ≠ p → (a.put o.dst (ptr0 w.heap.size)).tmps.getD t undef = a.tmps.getD t undef := fun t ht => getD_put_other (by rw [hds]; intro e; injection e with e; exact ht e.symm)
    have hnk : listed.getD k false = false := by
      cases hc : listed.getD k false with
      | false => rfl
      | true =>
        exfalso
        have hlt2 : k < ops.size := by
          rcases Nat.lt_or_ge k listed.size with h1 | h1
          · rw [← hs]; exact h1
          · rw [Array.getD_eq_getD_getElem?, Array.getElem?_eq_none h1] at hc; cases hc
        have ho' : ops[k]? = some ops[k] := Array.getElem?_eq_getElem hlt2
        cases hobs k _ ho' with
        | plain _ _ h2 => exact h2 rfl
        | alloc _ _ _ h2 => exact h2 rfl
        | store _ _ _ hkn _ _ =>
          obtain ⟨e, hem, hb', hdst⟩ := known_opX hkn
          have h4 := h.closed _ _ ho' hc e hem hb'
          have h5 : e.on = i := by
            by_cases h6 : e.on = i
            · exact h6
            · exact absurd hdst (hps.2.2 e.on h6)
          rw [h5, hl0] at h4
          cases h4
    have hnk2 : (listed.setIfInBounds i true).getD k false = false := by
      rw [Bool.eq_false_iff]
      intro hc
      rcases (listed_set hlt).1 hc with e | e
      · exact hk e.symm
      · rw [hnk] at e; cases e
    refine hK _ _ ⟨?_, ?_, fun t ht => ?_, fun j t hj hjt => ?_, fun t ht => ?_, h.below.trans (hb.mono h.gle), Nat.le_trans h.gle hb.size, fun j hj hjd => ?_, h.closed' hs ho he⟩
    · cases o.dst <;> simpa [Act.put] using h.tsize
    · cases o.dst <;> simpa [Act.put] using h.defers
    · rw [hold t (fun e => hps.2.1 (e ▸ ht))]
      exact (F t).stable _ _ _ (h.base t ht) hb
    · by_cases hts : t = p
      · subst hts
        rw [hF]
        trivial
      · rw [hold t hts]
        refine (F t).stable _ _ _ (h.done j t (((listed_set hlt).1 hj).resolve_left ?_) hjt) hb
        rintro rfl
        rw [ho] at hjt
        exact hts (by have h5 : o.dst = some t := hjt; rw [hds] at h5; injection h5 with h5; exact h5.symm)
    · rw [hold t (by rintro rfl; exact ht i (by rw [ho]; exact hds))]
      exact h.other t ht
    · exact ⟨w.heap.size, hput, h.gle, fun _ => hx, fun hl => by rw [hnk2] at hl; cases hl⟩
  | store hi hd0 hg hkn hk2 hrun =>
    have hlk : listed.getD k false = false := by rw [← hi]; exact hl0
    rw [if_pos (by simp [Region.wanted, hg])]
    obtain ⟨e, hem, heb, hed⟩ := known_opX hkn
    obtain ⟨b, h1, h2, h3, _⟩ := h.made e.on (he e hem heb) hed
    have hf := known_fact h.base hdone hk2
    obtain ⟨w', hr, hgw, hx⟩ := hrun a w b h1 (h3 hlk) hf
    unfold Oper.wp
    rw [hr]
    have hput : a.put o.dst undef = a := by rw [hd0]; rfl
    show K (a.put o.dst undef) _
    rw [hput]
    have hold : ∀ m d, (listed.setIfInBounds i true).getD m false = true → (ops[m]?).bind Oper.dst = some d → listed.getD m false = true := fun m d hm hmd => ((listed_set hlt).1 hm).resolve_left (by
      rintro rfl
      rw [ho] at hmd
      have h5 : o.dst = some d := hmd
      rw [hd0] at h5; cases h5)
    have hii : (listed.setIfInBounds i true).getD k false = true := (listed_set hlt).2 (.inl hi.symm)
    exact hK _ _ ⟨h.tsize, h.defers, fun t ht => hsoft t _ _ _ _ (h.base t ht) h.gle h2 hgw, fun m t hm hmt => hsoft t _ _ _ _ (h.done m t (hold m t hm hmt) hmt) h.gle h2 hgw, h.other, h.below.grown hgw h.gle (fun j hj => by cases hj; exact h2), Nat.le_trans h.gle hgw.size, fun m hm hmd => ⟨b, h1, h2, fun hl => (by rw [hii] at hl; cases hl), fun _ => hx⟩, h.closed' hs ho he⟩
end
section
variable {ops : Array Oper} {Q : Exit → Act → World → Prop} {F : Nat → Fact} {base : List Nat} {N : Nat} {o : Oper} {W0 : World}
end
/-- A struct of two cells and of three, and a pair of one with a flag. -/
def A2 (u : Value) : Prop := ∃ s A n c, u = .agg #[.string s, .slice A n c]
def A3 (u : Value) : Prop := ∃ s A n c B m d, u = .agg #[.string s, .slice A n c, .slice B m d]
def T2 (P : Value → Prop) (b : Bool) (u : Value) : Prop := ∃ x, P x ∧ u = .tuple #[x, .bool b]
end Go.Proofs.YthfodpbecddheaaGreatDoor
/-
  A region whose order Go leaves open, with one new variable into which one value is stored; what is known of a slot may depend on where the new variable lies. No conditions beyond those that it names.
-/
namespace Go.Proofs.YthfodpbecddheaaGreatDoor
open Go.RowKit
section
variable (ops : Array Oper) (F : Option Nat → Nat → Fact) (base : List Nat) (N : Nat) (g : Nat) (p k : Nat) (zs : List Value) (V : World → Nat → List Value → Prop)
structure ZInv (a0 : Act) (w0 : World) (m : Option Nat) (listed : Array Bool) (a : Act) (w : World) : Prop where
  tsize : a.tmps.size = N
  defers : a.defers = a0.defers
  base : ∀ t ∈ base, (F m t).holds (a.tmps.getD t undef) w
  done : ∀ (i t : Nat), listed.getD i false = true → (ops[i]?).bind Oper.dst = some t → (F m t).holds (a.tmps.getD t undef) w
  other : ∀ (t : Nat), (∀ (i : Nat), (ops[i]?).bind Oper.dst ≠ some t) → a.tmps.getD t undef = a0.tmps.getD t undef
  below : Below g w0 w
  gle : g ≤ w.heap.size
  mode : m = none → ∀ i, listed.getD i false = true → (ops[i]?).bind Oper.dst ≠ some p
  made : ∀ b, m = some b → (∃ i, listed.getD i false = true ∧ (ops[i]?).bind Oper.dst = some p) ∧ a.tmps.getD p undef = ptr0 b ∧ g ≤ b ∧ b < w.heap.size ∧ (listed.getD k false = false → Bx w b zs) ∧ (listed.getD k false = true → ∃ vs, V w b vs ∧ Bx w b vs)
  closed : ∀ i o, ops[i]? = some o → listed.getD i false = true → ∀ e ∈ o.after, Region.binds .any e = true → listed.getD e.on false = true
/-- What an operation of such a region must show. -/
inductive ZOb (f : Nat) (Q : Exit → Act → World → Prop) (i : Nat) (o : Oper) : Prop
  | plain (h : ∀ m, Ob ops Q (F m) base N o) (hp : o.dst ≠ some p) (hk : i ≠ k) : ZOb f Q i o
  | alloc (hd : o.dst = some p) (hg : o.guard = none) (hF : ∀ m, F m p = Fact.any) (hk : i ≠ k) (hrun : ∀ (a : Act) (w : World), ∃ w', (execOp a.eval o).run Tryz.prog w = .ok (.value (ptr0 w.heap.size)) w' ∧ Below w.heap.size w w' ∧ w.heap.size < w'.heap.size ∧ Bx w' w.heap.size zs) : ZOb f Q i o
  | store (hi : i = k) (hd : o.dst = none) (hg : o.guard = none) (hkn : known ops [] o p = true) (hk2 : known ops base o f = true)
      (hrun : ∀ (a : Act) (w : World) (b : Nat), a.tmps.getD p undef = ptr0 b → g ≤ b → Bx w b zs → (F (some b) f).holds (a.tmps.getD f undef) w → ∃ w', (execOp a.eval o).run Tryz.prog w = .ok .skip w' ∧ w.grownBy w' (some b) ∧ ∃ vs, V w' b vs ∧ Bx w' b vs) : ZOb f Q i o
end
section
variable {ops : Array Oper} {Q : Exit → Act → World → Prop} {F : Option Nat → Nat → Fact} {base : List Nat} {N g : Nat} {p k f : Nat} {zs : List Value} {V : World → Nat → List Value → Prop}
theorem ZInv.closed' {a0 : Act} {w0 : World} {m : Option Nat} {listed : Array Bool} {a : Act} {w : World} (h : ZInv ops F base N g p k zs V a0 w0 m listed a w) (hs : listed.size = ops.size) {i : Nat} {o : Oper} (ho : ops[i]? = some o)
    (he : ∀ e ∈ o.after, Region.binds .any e = true → listed.getD e.on false = true) : ∀ j o', ops[j]? = some o' → (listed.setIfInBounds i true).getD j false = true → ∀ e ∈ o'.after, Region.binds .any e = true → (listed.setIfInBounds i true).getD e.on false = true := by
  have hlt : i < listed.size := by rw [hs]; exact (Array.getElem?_eq_some_iff.1 ho).1
  intro j o' ho' hl e hm hb
  rw [listed_set hlt] at hl ⊢
  rcases hl with rfl | hl
  · rw [ho] at ho'
    injection ho' with ho'
    subst ho'
    exact .inr (he e hm hb)
  · exact .inr (h.closed j o' ho' hl e hm hb)
theorem ZInv.step (hok : formOk ops base N = true) (hV : ∀ w w' b vs, V w b vs → Below w.heap.size w w' → V w' b vs)
    (hsw : ∀ t v w w', (F none t).holds v w → Below w.heap.size w w' → w.heap.size < w'.heap.size → (F (some w.heap.size) t).holds v w')
    (hsoft : ∀ b t v w w', (F (some b) t).holds v w → g ≤ b → g ≤ w.heap.size → w.grownBy w' (some b) → (F (some b) t).holds v w')
    (hobs : ∀ j o', ops[j]? = some o' → ZOb ops F base N g p k zs V f Q j o') {a0 : Act} {w0 : World} {m : Option Nat} {listed : Array Bool} {a : Act} {w : World} (h : ZInv ops F base N g p k zs V a0 w0 m listed a w) (hs : listed.size = ops.size) {i : Nat} {o : Oper} (ho : ops[i]? = some o)
    (hl0 : listed.getD i false = false) (he : ∀ e ∈ o.after, Region.binds .any e = true → listed.getD e.on false = true) (K : Act → World → Prop) (hK : ∀ a' w' m', ZInv ops F base N g p k zs V a0 w0 m' (listed.setIfInBounds i true) a' w' → K a' w') :
    (if Region.wanted o (yielded ops a.tmps) = true then Oper.wp Tryz.prog o a w K Q else K (a.put o.dst undef) w) := by
  have hdone : ∀ e ∈ o.after, Region.binds .any e = true → ∀ t, (ops[e.on]?).bind Oper.dst = some t → (F m t).holds (a.tmps.getD t undef) w := fun e hm hb t ht => h.done e.on t (he e hm hb) ht
  have hlt : i < listed.size := by rw [hs]; exact (Array.getElem?_eq_some_iff.1 ho).1
  obtain ⟨_, hd⟩ := formOk_at hok ho
  cases hobs i o ho with
  | plain hob hp hk =>
    refine hob m a w K h.tsize h.base hdone fun v w' hb hF => hK _ _ m ?_
    have hkk : (listed.setIfInBounds i true).getD k false = listed.getD k false := by
      have := listed_set (j := k) hlt
      cases hx : listed.getD k false
      · rw [Bool.eq_false_iff]
        intro hc
        rcases this.1 hc with e | e
        · exact hk e.symm
        · rw [hx] at e; cases e
      · exact this.2 (.inr hx)
    refine ⟨?_, ?_, fun t ht => ?_, fun j t hj hjt => ?_, fun t ht => ?_, h.below.trans (hb.mono h.gle), Nat.le_trans h.gle hb.size, fun hm j hj hjd => ?_, fun b hm => ?_, h.closed' hs ho he⟩
    · cases o.dst <;> simpa [Act.put] using h.tsize
    · cases o.dst <;> simpa [Act.put] using h.defers
    · rw [getD_put_other (fun e => (hd t e).2.1 ht)]
      exact (F m t).stable _ _ _ (h.base t ht) hb
    · by_cases hji : j = i
      · subst hji
        rw [ho] at hjt
        have hjt' : o.dst = some t := hjt
        rw [hjt', getD_put_same (by rw [h.tsize]; exact (hd t hjt').1)]
        exact hF t hjt'
      · have hl : listed.getD j false = true := ((listed_set hlt).1 hj).resolve_left hji
        rw [getD_put_other (fun e => (hd t e).2.2 j hji hjt)]
        exact (F m t).stable _ _ _ (h.done j t hl hjt) hb
    · rw [getD_put_other (fun e => ht i (by rw [ho]; exact e))]
      exact h.other t ht
    · rcases (listed_set hlt).1 hj with rfl | hj
      · rw [ho] at hjd
        exact hp hjd
      · exact h.mode hm j hj hjd
    · obtain ⟨⟨j, hj, hjd⟩, h1, h2, h5, h3, h4⟩ := h.made b hm
      rw [hkk]
      exact ⟨⟨j, (listed_set hlt).2 (.inr hj), hjd⟩, by rw [getD_put_other hp]; exact h1, h2, Nat.lt_of_lt_of_le h5 hb.size, fun hl => (h3 hl).next hb, fun hl => by obtain ⟨vs, hv, hx⟩ := h4 hl; exact ⟨vs, hV _ _ _ _ hv hb, hx.next hb⟩⟩
  | alloc hds hg hF hk hrun =>
    obtain ⟨w', hr, hb, hgt, hx⟩ := hrun a w
    rw [if_pos (by simp [Region.wanted, hg])]
    unfold Oper.wp
    rw [hr]
    have hps := (hd p hds)
    have hm : m = none := by
      cases m with
      | none => rfl
      | some b =>
        obtain ⟨⟨j, hj, hjd⟩, -⟩ := h.made b rfl
        have h5 : j = i := by
          by_cases h6 : j = i
          · exact h6
          · exact absurd hjd (hps.2.2 j h6)
        rw [h5, hl0] at hj
        cases hj
    subst hm
    have hput : (a.put o.dst (ptr0 w.heap.size)).tmps.getD p undef = ptr0 w.heap.size := by
      rw [hds, getD_put_same (by rw [h.tsize]; exact hps.1)]
    have hold : ∀ t, t ≠ p → (a.put o.dst (ptr0 w.heap.size)).tmps.getD t undef = a.tmps.getD t undef := fun t ht => getD_put_other (by rw [hds]; intro e; injection e with e; exact ht e.symm)
    have hnk : listed.getD k false = false := by
      cases hc : listed.getD k false with
      | false => rfl
      | true =>
        exfalso
        have hlt2 : k < ops.size := by
          rcases Nat.lt_or_ge k listed.size with h1 | h1
          · rw [← hs]; exact h1
          · rw [Array.getD_eq_getD_getElem?, Array.getElem?_eq_none h1] at hc; cases hc
        have ho' : ops[k]? = some ops[k] := Array.getElem?_eq_getElem hlt2
        cases hobs k _ ho' with
        | plain _ _ h2 => exact h2 rfl
        | alloc _ _ _ h2 => exact h2 rfl
        | store _ _ _ hkn _ _ =>
          obtain ⟨e, hem, hb', hdst⟩ := known_opX hkn
          exact h.mode rfl e.on (h.closed _ _ ho' hc e hem hb') hdst
    have hnk2 : (listed.setIfInBounds i true).getD k false = false := by
      rw [Bool.eq_false_iff]
      intro hc
      rcases (listed_set hlt).1 hc with e | e
      · exact hk e.symm
      · rw [hnk] at e; cases e
    refine hK _ _ (some w.heap.size) ⟨?_, ?_, fun t ht => ?_, fun j t hj hjt => ?_, fun t ht => ?_, h.below.trans (hb.mono h.gle), Nat.le_trans h.gle hb.size, fun hm => (by cases hm), fun b hm => ?_, h.closed' hs ho he⟩
    · cases o.dst <;> simpa [Act.put] using h.tsize
    · cases o.dst <;> simpa [Act.put] using h.defers
    · rw [hold t (fun e => hps.2.1 (e ▸ ht))]
      exact hsw _ _ _ _ (h.base t ht) hb hgt
    · by_cases hts : t = p
      · subst hts
        rw [hF]
        trivial
      · rw [hold t hts]
        refine hsw _ _ _ _ (h.done j t (((listed_set hlt).1 hj).resolve_left ?_) hjt) hb hgt
        rintro rfl
        rw [ho] at hjt
        exact hts (by have h5 : o.dst = some t := hjt; rw [hds] at h5; injection h5 with h5; exact h5.symm)
    · rw [hold t (by rintro rfl; exact ht i (by rw [ho]; exact hds))]
      exact h.other t ht
    · injection hm with hm
      subst hm
      exact ⟨⟨i, (listed_set hlt).2 (.inl rfl), by rw [ho]; exact hds⟩, hput, h.gle, hgt, fun _ => hx, fun hl => by rw [hnk2] at hl; cases hl⟩
  | store hi hd0 hg hkn hk2 hrun =>
    have hlk : listed.getD k false = false := by rw [← hi]; exact hl0
    rw [if_pos (by simp [Region.wanted, hg])]
    obtain ⟨e, hem, heb, hed⟩ := known_opX hkn
    obtain ⟨b, hm⟩ : ∃ b, m = some b := by
      cases m with
      | none => exact absurd hed (h.mode rfl e.on (he e hem heb))
      | some b => exact ⟨b, rfl⟩
    subst hm
    obtain ⟨⟨j, hj, hjd⟩, h1, h2, h5, h3, _⟩ := h.made b rfl
    have hf := known_fact h.base hdone hk2
    obtain ⟨w', hr, hgw, hx⟩ := hrun a w b h1 h2 (h3 hlk) hf
    unfold Oper.wp
    rw [hr]
    have hput : a.put o.dst undef = a := by rw [hd0]; rfl
    show K (a.put o.dst undef) _
    rw [hput]
    have hold : ∀ m d, (listed.setIfInBounds i true).getD m false = true → (ops[m]?).bind Oper.dst = some d → listed.getD m false = true := fun m d hm hmd => ((listed_set hlt).1 hm).resolve_left (by
      rintro rfl
      rw [ho] at hmd
      have h5 : o.dst = some d := hmd
      rw [hd0] at h5; cases h5)
    have hii : (listed.setIfInBounds i true).getD k false = true := (listed_set hlt).2 (.inl hi.symm)
    exact hK _ _ (some b) ⟨h.tsize, h.defers, fun t ht => hsoft b t _ _ _ (h.base t ht) h2 h.gle hgw, fun m t hm hmt => hsoft b t _ _ _ (h.done m t (hold m t hm hmt) hmt) h2 h.gle hgw, h.other, h.below.grown hgw h.gle (fun j hj => by cases hj; exact h2), Nat.le_trans h.gle hgw.size, fun hm => (by cases hm), fun b' hm => (by
      injection hm with hm
      subst hm
      exact ⟨⟨j, (listed_set hlt).2 (.inr hj), hjd⟩, h1, h2, Nat.lt_of_lt_of_le h5 hgw.size, fun hl => (by rw [hii] at hl; cases hl), fun _ => hx⟩), h.closed' hs ho he⟩
end
/-- What reads x's parts, told by a stretch of blocks that the new variable doesn't lie in. -/
def NwM (m : Option Nat) (G : Nat) (w : World) (x : Vl) (s : Sb) : Prop := ∃ lo hi, G ≤ lo ∧ hi ≤ w.heap.size ∧ (∀ b, m = some b → b < lo ∨ hi ≤ b) ∧ ∀ w2 : World, hi ≤ w2.heap.size → (∀ i, lo ≤ i → i < hi → w2.heap[i]? = w.heap[i]?) → RdV w2 x s
theorem NwM.next {m : Option Nat} {G : Nat} {w w' : World} {x : Vl} {s : Sb} (h : NwM m G w x s) (hb : Below w.heap.size w w') : NwM m G w' x s := by
  obtain ⟨lo, hi, h1, h2, h3, h4⟩ := h
  exact ⟨lo, hi, h1, Nat.le_trans h2 hb.size, h3, fun w2 hs hw => h4 w2 hs fun i h5 h6 => (hw i h5 h6).trans (hb.block i (Nat.lt_of_lt_of_le h6 h2))⟩
theorem NwM.grown {b G : Nat} {w w' : World} {x : Vl} {s : Sb} (h : NwM (some b) G w x s) (hb : w.grownBy w' (some b)) : NwM (some b) G w' x s := by
  obtain ⟨lo, hi, h1, h2, h3, h4⟩ := h
  exact ⟨lo, hi, h1, Nat.le_trans h2 hb.size, h3, fun w2 hs hw => h4 w2 hs fun i h5 h6 => (hw i h5 h6).trans (hb.block i (Nat.lt_of_lt_of_le h6 h2) (fun e => by injection e with e; rcases h3 b rfl with h7 | h7 <;> omega))⟩
theorem NwM.of {m : Option Nat} {G lo : Nat} {w : World} {x : Vl} {s : Sb} (h : NwV lo w x s) (hG : G ≤ lo) (hm : ∀ b, m = some b → b < lo) : NwM m G w x s :=
  ⟨lo, w.heap.size, hG, Nat.le_refl _, fun b e => .inl (hm b e), fun w2 hs hw => h w2 ⟨hs, fun i h1 h2 => hw i h1 h2⟩⟩
end Go.Proofs.YthfodpbecddheaaGreatDoor
/-
  The developers' With of a struct without entries. No conditions beyond those that each names.
-/
namespace Go.Proofs.YthfodpbecddheaaGreatDoor
open Go.RowKit Go.Shelf
def WtP (u : Vl) (w : World) (e : Ending) (w' : World) : Prop := ∃ s, e = .returned (.agg #[.int .i64 u.kind, .int .i64 u.n, .string (bs u.s), .slice s.A u.l.length s.c, .slice s.B u.f.length s.d]) ∧ RdV w' u s ∧ Below w.heap.size w w'
theorem Bx.put6 {w : World} {b : Nat} {x y z u p q : Value} (h : Bx w b [x, y, z, u, p, q]) (x' y' z' u' p' q' : Value) : Bx ((((((w.setCell ⟨b, 0, none⟩ x').setCell ⟨b, 1, none⟩ y').setCell ⟨b, 2, none⟩ z').setCell ⟨b, 3, none⟩ u').setCell ⟨b, 4, none⟩ p').setCell ⟨b, 5, none⟩ q') b [x', y', z', u', p', q'] := (((((h.put1 0 x').put1 1 y').put1 2 z').put1 3 u').put1 4 p').put1 5 q'
theorem Bx.put5 {w : World} {b : Nat} {x y z u p : Value} (h : Bx w b [x, y, z, u, p]) (x' y' z' u' p' : Value) : Bx (((((w.setCell ⟨b, 0, none⟩ x').setCell ⟨b, 1, none⟩ y').setCell ⟨b, 2, none⟩ z').setCell ⟨b, 3, none⟩ u').setCell ⟨b, 4, none⟩ p') b [x', y', z', u', p'] := ((((h.put1 0 x').put1 1 y').put1 2 z').put1 3 u').put1 4 p'
theorem gb_set5 (w : World) (b : Nat) (x y z u p : Value) : w.grownBy (((((w.setCell ⟨b, 0, none⟩ x).setCell ⟨b, 1, none⟩ y).setCell ⟨b, 2, none⟩ z).setCell ⟨b, 3, none⟩ u).setCell ⟨b, 4, none⟩ p) (some b) := ((gb_set3 w b x y z).trans (gb_set1 _ ⟨b, 3, none⟩ u)).trans (gb_set1 _ ⟨b, 4, none⟩ p)
theorem gb_set6 (w : World) (b : Nat) (x y z u p q : Value) : w.grownBy ((((((w.setCell ⟨b, 0, none⟩ x).setCell ⟨b, 1, none⟩ y).setCell ⟨b, 2, none⟩ z).setCell ⟨b, 3, none⟩ u).setCell ⟨b, 4, none⟩ p).setCell ⟨b, 5, none⟩ q) (some b) := (gb_set5 w b x y z u p).trans (gb_set1 _ ⟨b, 5, none⟩ q)
theorem below_of_gb {w w' : World} (h : w.grownBy w' none) : Below w.heap.size w w' := ⟨h.os, h.tape, h.output, h.size, fun i hi => h.block i hi (by simp)⟩
set_option maxRecDepth 100000 in
set_option maxHeartbeats 8000000 in
theorem with0_any (n : Int) (s : List UInt8) (z k n' : Int) (s' : List UInt8) (w : World) :
    Calls Tryz.prog 39 #[.agg #[.int .i64 6, .int .i64 n, .string (bs s), .slice none 0 0, .slice none 0 0], .int .i64 z, (.agg #[.int .i64 k, .int .i64 n', .string (bs s'), .slice none 0 0, .slice none 0 0])] w (WtP (.mk 6 n s [] [(z, .mk k n' s' [] [])]) w) := by
  have cR := fun W => renewNil_any 6 n s W
  have cN := fun W => renewNil_any k n' s' W
  have cI := fun W => indexOf_any [] none 0 z W (by decide) (.inl rfl)
  have hW : ∃ W, (((w.alloc (Obj.cells #[.int .i64 6, .int .i64 n, .string (bs s), .slice none 0 0, .slice none 0 0] 34)).alloc (Obj.cells #[.int .i64 z] 3)).alloc (Obj.cells #[.int .i64 k, .int .i64 n', .string (bs s'), .slice none 0 0, .slice none 0 0] 34)).alloc (Obj.cells #[.int .i64 0, .int .i64 0, .string ⟨#[]⟩, .slice none 0 0, .slice none 0 0] 34) = W := ⟨_, rfl⟩
  have D1 := (Bx.new5 w 34 (.int .i64 6) (.int .i64 n) (.string (bs s)) (.slice none 0 0) (.slice none 0 0)).next (ab3 _ (Obj.cells #[.int .i64 z] 3) (Obj.cells #[.int .i64 k, .int .i64 n', .string (bs s'), .slice none 0 0, .slice none 0 0] 34) (Obj.cells #[.int .i64 0, .int .i64 0, .string ⟨#[]⟩, .slice none 0 0, .slice none 0 0] 34))
  have D2 := (Bx.new1 (w.alloc (Obj.cells #[.int .i64 6, .int .i64 n, .string (bs s), .slice none 0 0, .slice none 0 0] 34)) 3 (.int .i64 z)).next (ab2 _ (Obj.cells #[.int .i64 k, .int .i64 n', .string (bs s'), .slice none 0 0, .slice none 0 0] 34) (Obj.cells #[.int .i64 0, .int .i64 0, .string ⟨#[]⟩, .slice none 0 0, .slice none 0 0] 34))
  have D3 := (Bx.new5 ((w.alloc (Obj.cells #[.int .i64 6, .int .i64 n, .string (bs s), .slice none 0 0, .slice none 0 0] 34)).alloc (Obj.cells #[.int .i64 z] 3)) 34 (.int .i64 k) (.int .i64 n') (.string (bs s')) (.slice none 0 0) (.slice none 0 0)).next (ab1 _ (Obj.cells #[.int .i64 0, .int .i64 0, .string ⟨#[]⟩, .slice none 0 0, .slice none 0 0] 34))
  have D4 := Bx.new5 (((w.alloc (Obj.cells #[.int .i64 6, .int .i64 n, .string (bs s), .slice none 0 0, .slice none 0 0] 34)).alloc (Obj.cells #[.int .i64 z] 3)).alloc (Obj.cells #[.int .i64 k, .int .i64 n', .string (bs s'), .slice none 0 0, .slice none 0 0] 34)) 34 (.int .i64 0) (.int .i64 0) (.string ⟨#[]⟩) (.slice none 0 0) (.slice none 0 0)
  have hab := ab4 w (Obj.cells #[.int .i64 6, .int .i64 n, .string (bs s), .slice none 0 0, .slice none 0 0] 34) (Obj.cells #[.int .i64 z] 3) (Obj.cells #[.int .i64 k, .int .i64 n', .string (bs s'), .slice none 0 0, .slice none 0 0] 34) (Obj.cells #[.int .i64 0, .int .i64 0, .string ⟨#[]⟩, .slice none 0 0, .slice none 0 0] 34)
  rw [show (w.alloc (Obj.cells #[.int .i64 6, .int .i64 n, .string (bs s), .slice none 0 0, .slice none 0 0] 34)).heap.size = w.heap.size + 1 by simp] at D2
  rw [show ((w.alloc (Obj.cells #[.int .i64 6, .int .i64 n, .string (bs s), .slice none 0 0, .slice none 0 0] 34)).alloc (Obj.cells #[.int .i64 z] 3)).heap.size = w.heap.size + 1 + 1 by simp] at D3
  rw [show (((w.alloc (Obj.cells #[.int .i64 6, .int .i64 n, .string (bs s), .slice none 0 0, .slice none 0 0] 34)).alloc (Obj.cells #[.int .i64 z] 3)).alloc (Obj.cells #[.int .i64 k, .int .i64 n', .string (bs s'), .slice none 0 0, .slice none 0 0] 34)).heap.size = w.heap.size + 1 + 1 + 1 by simp] at D4
  clear hW
  go_enter Tryz.func39, Tryz.ntmps39
  go_wp2_with fail
  generalize (((w.alloc (Obj.cells #[.int .i64 6, .int .i64 n, .string (bs s), .slice none 0 0, .slice none 0 0] 34)).alloc (Obj.cells #[.int .i64 z] 3)).alloc (Obj.cells #[.int .i64 k, .int .i64 n', .string (bs s'), .slice none 0 0, .slice none 0 0] 34)).alloc (Obj.cells #[.int .i64 0, .int .i64 0, .string ⟨#[]⟩, .slice none 0 0, .slice none 0 0] 34) = W0 at *
  refine (cR _).mono ?_
  rintro e w2 ⟨rfl, hb2⟩
  replace D1 := D1.next hb2
  replace D2 := D2.next hb2
  replace D3 := D3.next hb2
  replace D4 := D4.next hb2
  replace hab := Below.next hab hb2
  clear cR hb2
  have s0 := D1.c 0 rfl
  have s1 := D1.c 1 rfl
  have s2 := D1.c 2 rfl
  have s3 := D1.c 3 rfl
  have s4 := D1.c 4 rfl
  have t0 := D1.f 0 rfl
  have t1 := D1.f 1 rfl
  have t2 := D1.f 2 rfl
  have t3 := D1.f 3 rfl
  have t4 := D1.f 4 rfl
  have l1 := D1.lt
  have E1 := D1.put5 (.int .i64 6) (.int .i64 n) (.string (bs s)) (.slice none 0 0) (.slice none 0 0)
  have hgr := gb_set5 w2 w.heap.size (.int .i64 6) (.int .i64 n) (.string (bs s)) (.slice none 0 0) (.slice none 0 0)
  replace D2 := D2.gb hgr (by omega)
  replace D3 := D3.gb hgr (by omega)
  replace D4 := D4.gb hgr (by omega)
  replace hab := hab.grown hgr hab.size (fun j hj => by cases hj; exact Nat.le_refl _)
  clear hgr D1
  go_upto_region 4 with (fail)
  generalize (((((w2.setCell ⟨w.heap.size, 0, none⟩ (.int .i64 6)).setCell ⟨w.heap.size, 1, none⟩ (.int .i64 n)).setCell ⟨w.heap.size, 2, none⟩ (.string (bs s))).setCell ⟨w.heap.size, 3, none⟩ (.slice none 0 0)).setCell ⟨w.heap.size, 4, none⟩ (.slice none 0 0)) = W1 at *
  clear s0 s1 s2 s3 s4 t0 t1 t2 t3 t4 l1
  have p0 := D2.c 0 rfl
  have x0 := D3.c 0 rfl
  have x1 := D3.c 1 rfl
  have x2 := D3.c 2 rfl
  have x3 := D3.c 3 rfl
  have x4 := D3.c 4 rfl
  refine wp_region_box (by kernel_rfl) (FF [(4, Fact.at_ W1 (.pointer (some ⟨(w.heap.size + 1), 0, none⟩))), (5, Fact.at_ W1 (.pointer (some ⟨(w.heap.size + 1 + 1), 0, none⟩))), (16, Fact.at_ W1 (.int .i64 z)), (17, Fact.at_ W1 (.agg #[.int .i64 k, .int .i64 n', .string (bs s'), .slice none 0 0, .slice none 0 0])), (18, Fact.at_ W1 (.agg #[.int .i64 k, .int .i64 n', .string (bs s'), .slice none 0 0, .slice none 0 0])), (19, Fact.at_ W1 (.agg #[.int .i64 z, .int .i64 k, .int .i64 n', .string (bs s'), .slice none 0 0, .slice none 0 0]))]) [4, 5] 49 7 5 19 [.int .i64 0, .int .i64 0, .int .i64 0, .string ⟨#[]⟩, .slice none 0 0, .slice none 0 0] [.int .i64 z, .int .i64 k, .int .i64 n', .string (bs s'), .slice none 0 0, .slice none 0 0] [16, 17, 18, 19, 7] rfl (by kernel_rfl) (by kernel_rfl) (by kernel_rfl) (by kernel_rfl) (FF_soft (fcs ⟨at_soft W1 (.pointer (some ⟨(w.heap.size + 1), 0, none⟩)), fcs ⟨at_soft W1 (.pointer (some ⟨(w.heap.size + 1 + 1), 0, none⟩)), fcs ⟨at_soft W1 (.int .i64 z), fcs ⟨at_soft W1 (.agg #[.int .i64 k, .int .i64 n', .string (bs s'), .slice none 0 0, .slice none 0 0]), fcs ⟨at_soft W1 (.agg #[.int .i64 k, .int .i64 n', .string (bs s'), .slice none 0 0, .slice none 0 0]), fcs ⟨at_soft W1 (.agg #[.int .i64 z, .int .i64 k, .int .i64 n', .string (bs s'), .slice none 0 0, .slice none 0 0]), fnl⟩⟩⟩⟩⟩⟩)) ?_ ?_ ?_
  · intro t9 ht9
    simp only [List.mem_cons, List.not_mem_nil, or_false] at ht9
    rcases ht9 with rfl | rfl
    · exact ⟨rfl, Below.refl _ _⟩
    · exact ⟨rfl, Below.refl _ _⟩
  · refine fcs ⟨.plain (at1 4 16 (.pointer (some ⟨(w.heap.size + 1), 0, none⟩)) (.int .i64 z) rfl (by first | exact .inl rfl | exact .inr ⟨_, _, _, rfl, rfl, by kernel_rfl, by decide, rfl⟩) (by kernel_rfl) rfl rfl (fun a9 W9 hb9 h9 => by have g0 := cell_next hb9 p0; simp [execOp, h9] <;> go_simp)) (by decide) (by decide), ?_⟩
    refine fcs ⟨.plain (at1 5 17 (.pointer (some ⟨(w.heap.size + 1 + 1), 0, none⟩)) (.agg #[.int .i64 k, .int .i64 n', .string (bs s'), .slice none 0 0, .slice none 0 0]) rfl (by first | exact .inl rfl | exact .inr ⟨_, _, _, rfl, rfl, by kernel_rfl, by decide, rfl⟩) (by kernel_rfl) rfl rfl (fun a9 W9 hb9 h9 => by have g0 := cell_next hb9 x0; have g1 := cell_next hb9 x1; have g2 := cell_next hb9 x2; have g3 := cell_next hb9 x3; have g4 := cell_next hb9 x4; simp [execOp, h9] <;> go_simp)) (by decide) (by decide), ?_⟩
    refine fcs ⟨.plain (atc1 82 17 18 (.agg #[.int .i64 k, .int .i64 n', .string (bs s'), .slice none 0 0, .slice none 0 0]) (.agg #[.int .i64 k, .int .i64 n', .string (bs s'), .slice none 0 0, .slice none 0 0]) _ rfl rfl (by first | exact .inl rfl | exact .inr ⟨_, _, _, rfl, rfl, by kernel_rfl, by decide, rfl⟩) (by kernel_rfl) rfl (by kernel_rfl) rfl (fun W9 hb9 => cN W9)) (by decide) (by decide), ?_⟩
    refine fcs ⟨.plain (at2 16 18 19 (.int .i64 z) (.agg #[.int .i64 k, .int .i64 n', .string (bs s'), .slice none 0 0, .slice none 0 0]) (.agg #[.int .i64 z, .int .i64 k, .int .i64 n', .string (bs s'), .slice none 0 0, .slice none 0 0]) rfl (by first | exact .inl rfl | exact .inr ⟨_, _, _, rfl, rfl, by kernel_rfl, by decide, rfl⟩) (by kernel_rfl) (by kernel_rfl) rfl rfl rfl (fun a9 W9 hb9 h9 h8 => by simp [execOp, h9, h8] <;> go_simp)) (by decide) (by decide), ?_⟩
    refine fcs ⟨.alloc rfl rfl rfl (by decide) (fun a9 w9 => ⟨_, by simp [execOp, ptr0] <;> go_simp, ab1 _ (Obj.cells #[.int .i64 0, .int .i64 0, .int .i64 0, .string ⟨#[]⟩, .slice none 0 0, .slice none 0 0] 94), Bx.new6 _ _ _ _ _ _ _ _⟩), ?_⟩
    refine fcs ⟨.store rfl rfl rfl (by kernel_rfl) (by kernel_rfl) (fun a9 w9 b9 h9 hx9 hf9 => (by have k1 : a9.eval (.tmp 7) = .pointer (some ⟨b9, 0, none⟩) := h9; have k2 : a9.eval (.tmp 19) = .agg #[.int .i64 z, .int .i64 k, .int .i64 n', .string (bs s'), .slice none 0 0, .slice none 0 0] := hf9.1; have g0 := hx9.c 0 rfl; have f0 := hx9.f 0 rfl; have g1 := hx9.c 1 rfl; have f1 := hx9.f 1 rfl; have g2 := hx9.c 2 rfl; have f2 := hx9.f 2 rfl; have g3 := hx9.c 3 rfl; have f3 := hx9.f 3 rfl; have g4 := hx9.c 4 rfl; have f4 := hx9.f 4 rfl; have g5 := hx9.c 5 rfl; have f5 := hx9.f 5 rfl; have l9 := hx9.lt; exact ⟨_, by simp [execOp, k1, k2] <;> go_simp, gb_set6 _ _ _ _ _ _ _ _, hx9.put6 _ _ _ _ _ _⟩)), ?_⟩
    exact fnl
  rintro vv wv hvv ⟨gx, hgx, hgl, hX⟩ hbv
  have hv19 : vv 19 = (.agg #[.int .i64 z, .int .i64 k, .int .i64 n', .string (bs s'), .slice none 0 0, .slice none 0 0]) := (hvv 19 (by decide)).1
  unfold ptr0 at hgx
  simp only [lay, List.foldl_cons, List.foldl_nil, List.setIfInBounds_toArray, List.set_cons_succ, List.set_cons_zero, hgx, hv19]
  replace E1 := E1.next hbv
  replace D2 := D2.next hbv
  replace D4 := D4.next hbv
  replace hab := Below.next hab hbv
  clear hvv hgx hgl hbv p0 x0 x1 x2 x3 x4 D3 cN hv19
  have s4 := E1.c 4 rfl
  have p0 := D2.c 0 rfl
  have l1 := D2.lt
  have cI1 := cI wv
  have hix : ixI (List.findIdx? (fun x : Int × Vl => (x.1 == z)) []) = -1 := rfl
  rw [hix] at cI1
  clear cI hix
  go_wp2_with fail
  refine cI1.mono ?_
  rintro e w4 ⟨rfl, hb4⟩
  replace E1 := E1.next hb4
  replace D2 := D2.next hb4
  replace D4 := D4.next hb4
  replace hX := hX.next hb4
  replace hab := Below.next hab hb4
  clear cI1 hb4 s4 p0 l1
  have s4 := E1.c 4 rfl
  have p0 := D2.c 0 rfl
  have cG := gtIx_any [] none 0 z (w.heap.size + 1) w4 (by decide) (.inl rfl) p0
  have hix : ixI (List.findIdx? (fun x : Int × Vl => decide (z < x.1)) []) = -1 := rfl
  rw [hix] at cG
  go_wp2_with fail
  refine cG.mono ?_
  rintro e w5 ⟨rfl, hb5⟩
  replace E1 := E1.next hb5
  replace D4 := D4.next hb5
  replace hX := hX.next hb5
  replace hab := Below.next hab hb5
  clear cG hb5 s4 p0 D2 hix
  have s4 := E1.c 4 rfl
  have y0 := hX.c 0 rfl
  have y1 := hX.c 1 rfl
  have y2 := hX.c 2 rfl
  have y3 := hX.c 3 rfl
  have y4 := hX.c 4 rfl
  have y5 := hX.c 5 rfl
  have hbx := ab1 w5 (Obj.cells #[.int .i64 z, .int .i64 k, .int .i64 n', .string (bs s'), .slice none 0 0, .slice none 0 0] 94)
  have hQ := Bx.new6 w5 94 (.int .i64 z) (.int .i64 k) (.int .i64 n') (.string (bs s')) (.slice none 0 0) (.slice none 0 0)
  have cX := insertEnd_any (w5.alloc (Obj.cells #[.int .i64 z, .int .i64 k, .int .i64 n', .string (bs s'), .slice none 0 0, .slice none 0 0] 94)).heap.size none 0 0 [] (z, .mk k n' s' [] []) ⟨none, 0, none, 0⟩ w5.heap.size 1 (w5.alloc (Obj.cells #[.int .i64 z, .int .i64 k, .int .i64 n', .string (bs s'), .slice none 0 0, .slice none 0 0] 94)) (by decide) (World.ownsRow_nil _ _ _ _) hQ (Nat.le_refl _)
  replace E1 := E1.next hbx
  have D40 := D4
  replace D4 := D4.next hbx
  have hab2 := Below.next hab hbx
  have s5 := E1.c 4 rfl
  go_wp2_with fail
  refine cX.mono ?_
  rintro e w6 ⟨v', rfl, hown, hgr⟩
  obtain ⟨B', d', rfl⟩ := own_form hown
  have hb6 : Below (w5.alloc (Obj.cells #[.int .i64 z, .int .i64 k, .int .i64 n', .string (bs s'), .slice none 0 0, .slice none 0 0] 94)).heap.size (w5.alloc (Obj.cells #[.int .i64 z, .int .i64 k, .int .i64 n', .string (bs s'), .slice none 0 0, .slice none 0 0] 94)) w6 := below_of_gb hgr
  replace E1 := E1.next hb6
  replace D4 := D4.next hb6
  have hl5 := Nat.lt_of_lt_of_le D40.lt hbx.size
  replace hab := Below.next hab2 hb6
  clear cX hb6 hab2 hgr hX y0 y1 y2 y3 y4 y5 s4 s5 hQ
  have s0 := E1.c 0 rfl
  have s1 := E1.c 1 rfl
  have s2 := E1.c 2 rfl
  have s3 := E1.c 3 rfl
  have s4 := E1.c 4 rfl
  have f4 := E1.f 4 rfl
  have r0 := D4.c 0 rfl
  have r1 := D4.c 1 rfl
  have r2 := D4.c 2 rfl
  have r3 := D4.c 3 rfl
  have r4 := D4.c 4 rfl
  have q0 := D4.f 0 rfl
  have q1 := D4.f 1 rfl
  have q2 := D4.f 2 rfl
  have q3 := D4.f 3 rfl
  have q4 := D4.f 4 rfl
  have l1 := E1.lt
  have l2 := D4.lt
  obtain ⟨g, rfl⟩ := own_some hown (by decide)
  have hg := hown.lt g rfl
  generalize (w5.alloc (Obj.cells #[.int .i64 z, .int .i64 k, .int .i64 n', .string (bs s'), .slice none 0 0, .slice none 0 0] 94)).heap.size = lo at *
  go_wp2_with fail
  have hK := (((((((Kpl.refl lo w6).set (p := ⟨w.heap.size, 4, none⟩) (by show w.heap.size < lo; omega) (.slice (some ⟨g, 0, none⟩) 1 d')).set (p := ⟨w.heap.size + 1 + 1 + 1, 0, none⟩) hl5 (.int .i64 6)).set (p := ⟨w.heap.size + 1 + 1 + 1, 1, none⟩) hl5 (.int .i64 n)).set (p := ⟨w.heap.size + 1 + 1 + 1, 2, none⟩) hl5 (.string (bs s))).set (p := ⟨w.heap.size + 1 + 1 + 1, 3, none⟩) hl5 (.slice none 0 0)).set (p := ⟨w.heap.size + 1 + 1 + 1, 4, none⟩) hl5 (.slice (some ⟨g, 0, none⟩) 1 d'))
  have hb9 := (hab.setCell (p := ⟨w.heap.size, 4, none⟩) (Nat.le_refl _) (.slice (some ⟨g, 0, none⟩) 1 d'))
  refine bodyPost_ret (v := .agg #[.int .i64 6, .int .i64 n, .string (bs s), .slice none 0 0, .slice (some ⟨g, 0, none⟩) 1 d']) (by simp [results, Tryz.results39, go_sem, r0, r1, r2, r3, r4]) rfl ⟨⟨none, 0, some ⟨g, 0, none⟩, d'⟩, rfl, ⟨.inl rfl, rowE_of hown (hK.blk g hg.1 hg.2) rfl (IL.snoc (IL.nil 6 encE _) (z, .mk k n' s' [] []) ⟨none, 0, none, 0⟩ rfl ⟨.inl rfl, .inl rfl⟩)⟩, ((((hb9.setCell (by show _ ≤ w.heap.size + 1 + 1 + 1; omega) _).setCell (by show _ ≤ w.heap.size + 1 + 1 + 1; omega) _).setCell (by show _ ≤ w.heap.size + 1 + 1 + 1; omega) _).setCell (by show _ ≤ w.heap.size + 1 + 1 + 1; omega) _).setCell (by show _ ≤ w.heap.size + 1 + 1 + 1; omega) _⟩
end Go.Proofs.YthfodpbecddheaaGreatDoor


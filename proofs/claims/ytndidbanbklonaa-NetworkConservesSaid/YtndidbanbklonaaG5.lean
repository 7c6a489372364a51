/-
  A region whose first operations come in any order; all but one of them only add new memory, and that one (a call) may write where no other looks. No conditions beyond those that it names.
-/
import Derived.Test.YtndidbanbklonaaG4
namespace Go.Proofs.Ytndidbanbklonaa
open Go.RowKit
/-- What an operation that keeps to R owes. -/
def ObR (R : World → World → Prop) (w0 : World) (ops : Array Oper) (Q : Exit → Act → World → Prop) (F : Nat → Fact) (base : List Nat) (N : Nat) (o : Oper) : Prop := ∀ (a : Act) (w : World) (K : Act → World → Prop), a.tmps.size = N → (∀ t ∈ base, (F t).holds (a.tmps.getD t undef) w) →
  (∀ e ∈ o.after, Region.binds .any e = true → ∀ t, (ops[e.on]?).bind Oper.dst = some t → (F t).holds (a.tmps.getD t undef) w) → Below w0.heap.size w0 w →
  (∀ v w', R w w' → (∀ t, o.dst = some t → (F t).holds v w') → K (a.put o.dst v) w') →
  (if Region.wanted o (yielded ops a.tmps) = true then Oper.wp Try.prog o a w K Q else K (a.put o.dst undef) w)
section
variable {ops : Array Oper} {Q : Exit → Act → World → Prop} {F : Nat → Fact} {base : List Nat} {N : Nat}
theorem wpAny_seqOne {n k dk : Nat} {R : World → World → Prop} (hRB : ∀ w w' : World, Below w.heap.size w w' → R w w') (hRt : ∀ w w1 w2 : World, R w w1 → R w1 w2 → R w w2) (hRF : ∀ t, t ≠ dk → ∀ v w w', (F t).holds v w → R w w' → (F t).holds v w') (hkd : (ops[k]?).bind Oper.dst = some dk) (hok : formOkN n ops base N = true) (hsq : seqC ops.toList n = true) (hn : n ≤ ops.size) {a0 : Act} {w0 : World} (hstep : ∀ i o, i < n → i ≠ k → ops[i]? = some o → Ob ops Q F base N o) (hstepk : ∀ o, ops[k]? = some o → ObR R w0 ops Q F base N o)
    (hend : ∀ (listed : Array Bool) (a : Act) (w : World), a.defers = a0.defers → a.tmps.size = N → (∀ t ∈ base, (F t).holds (a.tmps.getD t undef) w) → (∀ (i t : Nat), i < n → (ops[i]?).bind Oper.dst = some t → (F t).holds (a.tmps.getD t undef) w) →
      (∀ (t : Nat), (∀ (i : Nat), i < n → (ops[i]?).bind Oper.dst ≠ some t) → a.tmps.getD t undef = a0.tmps.getD t undef) → R w0 w → (∀ i, i < n → listed.getD i false = true) → wpList Try.prog ops Q (ops.toList.drop n) a w) :
    ∀ (fuel : Nat) (listed : Array Bool) (a : Act) (w : World), listed.size = ops.size → a.tmps.size = N → a.defers = a0.defers → (∀ t ∈ base, (F t).holds (a.tmps.getD t undef) w) →
      (∀ (i t : Nat), listed.getD i false = true → (ops[i]?).bind Oper.dst = some t → (F t).holds (a.tmps.getD t undef) w) → (∀ (t : Nat), (∀ (i : Nat), i < n → (ops[i]?).bind Oper.dst ≠ some t) → a.tmps.getD t undef = a0.tmps.getD t undef) →
      R w0 w → (listed.getD k false = false → Below w0.heap.size w0 w) → (∀ i, n ≤ i → i < ops.size → listed.getD i true = false) → Closed ops listed → left_ listed ops.size ≤ fuel → wpAny Try.prog .any ops Q fuel listed a w := by
  have hback : ∀ i o, ops[i]? = some o → ∀ e ∈ o.after, Region.binds .any e = true → e.on < i := fun i o ho => formOkN_back hok ho
  intro fuel
  induction fuel with
  | zero =>
    intro listed a w hs hN hd hb hdone hoth hbel hpre hrest hcl hl
    by_cases hall : ∀ i, i < n → listed.getD i false = true
    · refine wpAny_seqTail hsq hback (ops.size - n) 0 n listed a w (by omega) (Nat.le_refl _) hall hrest hs hcl (hend listed a w hd hN hb (fun i t hi ht => hdone i t (hall i hi) ht) hoth hbel hall) ?_
      rcases Nat.lt_or_ge n ops.size with h | h
      · exfalso
        have := left_step h hs (hrest n (Nat.le_refl _) h)
        omega
      · omega
    · exfalso
      apply hall
      intro i hi
      cases hg' : listed.getD i false with
      | true => rfl
      | false =>
        exfalso
        have hg' : listed.getD i true = false := by
          rw [Array.getD_eq_getD_getElem?, Array.getElem?_eq_getElem (by omega)] at hg' ⊢
          exact hg'
        have := left_step (by omega : i < ops.size) hs hg'
        omega
  | succ fuel ih =>
    intro listed a w hs hN hd hb hdone hoth hbel hpre hrest hcl hl
    by_cases hall : ∀ i, i < n → listed.getD i false = true
    · refine wpAny_seqTail hsq hback (ops.size - n) (fuel + 1) n listed a w (by omega) (Nat.le_refl _) hall hrest hs hcl (hend listed a w hd hN hb (fun i t hi ht => hdone i t (hall i hi) ht) hoth hbel hall) ?_
      refine Nat.le_trans ?_ hl
      unfold left_
      have e : ops.size - n = ((List.range' n (ops.size - n)).filter fun i => !listed.getD i true).length := by
        rw [List.filter_eq_self.2]
        · simp
        · intro i hi
          have := List.mem_range'.1 hi
          rw [hrest i (by omega) (by omega)]; rfl
      rw [e]
      refine List.Sublist.length_le (List.Sublist.filter _ ?_)
      rw [List.range_eq_range']
      have h5 : List.range' 0 ops.size = List.range' 0 n ++ List.range' n (ops.size - n) := by
        have := List.range'_append (s := 0) (m := n) (n := ops.size - n) (step := 1)
        simp only [Nat.zero_add, Nat.one_mul] at this
        rw [this, Nat.add_sub_of_le hn]
      rw [h5]
      exact List.sublist_append_right _ _
    · refine ⟨fun hr => ?_, fun i hi => ?_⟩
      · exfalso
        exact hall fun i hi => all_listedN hok hs hr i (by omega)
      · obtain ⟨h1, o, ho, hedges⟩ := mem_ready.1 hi
        have hil := (Array.getElem?_eq_some_iff.1 ho).1
        have hin : i < n := by
          rcases Nat.lt_or_ge i n with h | h
          · exact h
          · exact absurd (fun j hj => seqC_at hsq (fun j => listed.getD j false = true) (fun j o' ho' hj => hcl j o' ho' hj) ho h hedges j (by omega)) hall
        obtain ⟨_, hdst⟩ := formOkN_at hok hin ho
        have hkey : ∀ v w', R w w' → (i ≠ k → Below w.heap.size w w') → (∀ t, o.dst = some t → (F t).holds v w') → (∀ t, (∀ j, j = i → (ops[j]?).bind Oper.dst ≠ some t) → ∀ u, (t ∈ base ∨ ∃ j, j ≠ i ∧ (ops[j]?).bind Oper.dst = some t) → (F t).holds u w → (F t).holds u w') → wpAny Try.prog .any ops Q fuel (listed.setIfInBounds i true) (a.put o.dst v) w' := fun v w' hb' hlow hF hst => by
          refine ih _ _ _ (by simpa using hs) ?_ ?_ (fun t ht => ?_) (fun j t hj hjt => ?_) (fun t ht => ?_) (hRt _ _ _ hbel hb') (fun hk0 => ?_) (fun j hj1 hj2 => ?_) (hcl.set hs ho hedges) ?_
          · cases o.dst <;> simpa [Act.put] using hN
          · cases o.dst <;> simpa [Act.put] using hd
          · rw [getD_put_other (fun e => (hdst t e).2.1 ht)]
            exact hst t (fun j hj e => by subst hj; rw [ho] at e; exact (hdst t e).2.1 ht) _ (.inl ht) (hb t ht)
          · by_cases hji : j = i
            · subst hji
              rw [ho] at hjt
              have hjt' : o.dst = some t := hjt
              rw [hjt', getD_put_same (by rw [hN]; exact (hdst t hjt').1)]
              exact hF t hjt'
            · have hl' : listed.getD j false = true := by
                simpa only [Array.getD_eq_getD_getElem?, Array.getElem?_setIfInBounds, if_neg (Ne.symm hji)] using hj
              rw [getD_put_other (fun e => (hdst t e).2.2 j hji hjt)]
              exact hst t (fun j' hj' e => by subst hj'; rw [ho] at e; exact (hdst t e).2.2 j hji hjt) _ (.inr ⟨j, hji, hjt⟩) (hdone j t hl' hjt)
          · rw [getD_put_other (fun e => ht i hin (by rw [ho]; exact e))]
            exact hoth t ht
          · have hki : i ≠ k := fun e => by
              subst e
              rw [(listed_set (j := i) (by rw [hs]; exact hil)).2 (.inl rfl)] at hk0
              cases hk0
            refine upG (hpre ?_) (hlow hki)
            cases hk1 : listed.getD k false with
            | false => rfl
            | true =>
              rw [(listed_set (j := k) (by rw [hs]; exact hil)).2 (.inr hk1)] at hk0
              cases hk0
          · simpa only [Array.getD_eq_getD_getElem?, Array.getElem?_setIfInBounds, if_neg (by omega : ¬ i = j)] using hrest j hj1 hj2
          · have := left_step hil hs h1
            omega
        by_cases hik : i = k
        · subst hik
          refine wpOp_step ho fun K' hK => hstepk o ho a w K' hN hb (fun e he hb' t het => hdone e.on t (hedges e he hb') het) (hpre (by rw [Array.getD_eq_getD_getElem?, Array.getElem?_eq_getElem (by omega)] at h1 ⊢; exact h1)) fun v w' hb' hF => hK _ _ ?_
          exact hkey v w' hb' (fun e => absurd rfl e) hF fun t ht u _ hu => hRF t (fun e => ht i rfl (by rw [e]; exact hkd)) u w w' hu hb'
        · refine wpOp_step ho fun K' hK => hstep i o hin hik ho a w K' hN hb (fun e he hb' t het => hdone e.on t (hedges e he hb') het) fun v w' hb' hF => hK _ _ ?_
          exact hkey v w' (hRB _ _ hb') (fun _ => hb') hF fun t _ u _ hu => (F t).stable _ _ _ hu hb'
end
/-- **A region whose first n operations come in any order**, all but one only adding new memory, and whose others come behind. -/
theorem wp_region_one {Q : Exit → Act → World → Prop} {id : Nat} {l : List Oper} {a : Act} {w : World} (hm : Try.prog.follows .mixedOrders = true) (F : Nat → Fact) (R : World → World → Prop) (hRB : ∀ w w' : World, Below w.heap.size w w' → R w w') (hRt : ∀ w w1 w2 : World, R w w1 → R w1 w2 → R w w2) (k dk : Nat) (hkd : (l.toArray[k]?).bind Oper.dst = some dk) (hRF : ∀ t, t ≠ dk → ∀ v w w', (F t).holds v w → R w w' → (F t).holds v w') (base : List Nat) (N n : Nat) (ds : List Nat) (hN : a.tmps.size = N) (hok : formOkN n l.toArray base N = true) (hsq : seqC l n = true) (hn : n ≤ l.length) (hds : dstsOk (l.take n) ds = true)
    (hbase : ∀ t ∈ base, (F t).holds (a.tmps.getD t undef) w) (hstep : ∀ i o, i < n → i ≠ k → l[i]? = some o → Ob l.toArray Q F base N o) (hstepk : ∀ o, l[k]? = some o → ObR R w l.toArray Q F base N o)
    (hend : ∀ (v : Nat → Value) w', (∀ t ∈ ds, (F t).holds (v t) w') → R w w' →
      wpList Try.prog l.toArray Q (l.drop n) { tmps := lay a.tmps ds v, defers := a.defers } w') : (Code.region id l.toArray true).wp Try.prog Q a w := by
  have hnone : ∀ i, (Array.replicate l.length false).getD i false = true → False := fun i hi => by
    rw [Array.getD_eq_getD_getElem?, Array.getElem?_replicate] at hi
    split at hi <;> simp at hi
  refine wp_region_any hm (wpAny_seqOne (a0 := a) (w0 := w) (n := n) (k := k) (dk := dk) hRB hRt hRF hkd hok (by simpa using hsq) (by simpa using hn) (fun i o hi hik ho => hstep i o hi hik (by rw [List.getElem?_toArray] at ho; exact ho)) (fun o ho => hstepk o (by rw [List.getElem?_toArray] at ho; exact ho)) ?_ _ _ _ _ (by simp) hN rfl (fun t ht => ?_) (fun i t hi _ => (hnone i hi).elim) (fun _ _ => rfl) (hRB _ _ (Below.refl _ _).drew) (fun _ => (Below.refl _ _).drew) (fun i hi1 hi2 => ?_) (fun i _ _ hi => (hnone i hi).elim) ?_)
  · intro listed a' w' hdef hsz hbs hall hoth hbel hlst
    have hw : ∀ t ∈ ds, ∃ i, i < n ∧ (l.toArray[i]?).bind Oper.dst = some t := fun t ht => by
      have h1 := hds
      simp only [dstsOk, Bool.and_eq_true] at h1
      obtain ⟨o, ho, hd⟩ := List.any_eq_true.1 (List.all_eq_true.1 h1.2 t ht)
      obtain ⟨i, hi⟩ := List.getElem?_of_mem ho
      have hlt : i < (l.take n).length := (List.getElem?_eq_some_iff.1 hi).1
      have hin : i < n := by rw [List.length_take] at hlt; omega
      rw [List.getElem?_take, if_pos hin] at hi
      exact ⟨i, hin, by rw [List.getElem?_toArray, hi]; exact (by simpa using hd)⟩
    have h := hend (fun t => a'.tmps.getD t undef) w' (fun t ht => by
      obtain ⟨i, hin, hi⟩ := hw t ht
      exact hall i t hin hi) hbel
    have heq : a' = { tmps := lay a.tmps ds fun t => a'.tmps.getD t undef, defers := a.defers } := by
      obtain ⟨ts, df⟩ := a'
      have hdef' : df = a.defers := hdef
      subst hdef'
      congr 1
      have hsz' : ts.size = N := hsz
      refine Array.ext_getElem? fun t => ?_
      rcases Nat.lt_or_ge t N with hlt | hge
      · by_cases htd : t ∈ ds
        · rw [lay_at ds _ _ t htd (by omega), Array.getD_eq_getD_getElem?, Array.getElem?_eq_getElem (by omega)]; rfl
        · rw [lay_other ds _ _ t htd]
          have := hoth t fun i hin hi => by
            have h1 := hds
            simp only [dstsOk, Bool.and_eq_true] at h1
            rw [List.getElem?_toArray] at hi
            cases hl : l[i]? with
            | none => rw [hl] at hi; cases hi
            | some o =>
              rw [hl] at hi
              have hm' : o ∈ l.take n := List.mem_of_getElem? (i := i) (by rw [List.getElem?_take, if_pos hin, hl])
              have h2 := List.all_eq_true.1 h1.1 o hm'
              have h3 : o.dst = some t := hi
              rw [h3] at h2
              exact htd (by simpa using h2)
          have h2 : ts.getD t undef = a.tmps.getD t undef := this
          rw [Array.getD_eq_getD_getElem?, Array.getD_eq_getD_getElem?, Array.getElem?_eq_getElem (by omega), Array.getElem?_eq_getElem (by omega)] at h2
          rw [Array.getElem?_eq_getElem (by omega), Array.getElem?_eq_getElem (by omega)]
          exact congrArg some h2
      · rw [Array.getElem?_eq_none (by omega), Array.getElem?_eq_none (by rw [lay_size]; omega)]
    rw [heq]
    exact h
  · exact (F t).stable _ _ _ (hbase t ht) (Below.refl _ _).drew
  · rw [Array.getD_eq_getD_getElem?, Array.getElem?_replicate, if_pos hi2]; rfl
  · unfold left_
    exact Nat.le_trans (List.length_filter_le _ _) (by simp)
end Go.Proofs.Ytndidbanbklonaa

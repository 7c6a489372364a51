/-
  A region whose first operations only add memory, in any order, and whose last ones each wait for all before them. No conditions beyond those that it names.
-/
import Derived.Test.YtaiceebhifecbaaDoorT26
namespace Go.Proofs.YtaiceebhifecbaaDoor
open Go.RowKit
/-- From index k on, each operation waits for all before it; all edges go back. -/
def seqOk (ops : Array Oper) (k : Nat) : Bool := (List.range ops.size).all fun i => match ops[i]? with
  | none => true
  | some o => (o.after.all fun e => !Region.binds .any e || decide (e.on < i)) && (decide (i < k) || (List.range i).all fun j => o.after.any fun e => Region.binds .any e && e.on == j)
section
variable {ops : Array Oper} {Q : Exit → Act → World → Prop} {F : Nat → Fact} {base : List Nat} {N : Nat}
theorem seqOk_at {k : Nat} (h : seqOk ops k = true) {i : Nat} {o : Oper} (ho : ops[i]? = some o) :
    (∀ e ∈ o.after, Region.binds .any e = true → e.on < i) ∧ (k ≤ i → ∀ j, j < i → ∃ e ∈ o.after, Region.binds .any e = true ∧ e.on = j) := by
  have hi : i < ops.size := (Array.getElem?_eq_some_iff.1 ho).1
  have h1 := List.all_eq_true.1 h i (List.mem_range.2 hi)
  simp only [ho, Bool.and_eq_true] at h1
  refine ⟨fun e he hb => ?_, fun hk j hj => ?_⟩
  · have := Array.all_eq_true_iff_forall_mem.1 h1.1 e he
    simpa [hb] using this
  · have h2 := h1.2
    rw [Bool.or_eq_true] at h2
    rcases h2 with h2 | h2
    · have := of_decide_eq_true h2
      omega
    · have h3 := List.all_eq_true.1 h2 j (List.mem_range.2 hj)
      rw [Array.any_eq_true'] at h3
      obtain ⟨e, he, h4⟩ := h3
      simp only [Bool.and_eq_true, beq_iff_eq] at h4
      exact ⟨e, he, h4.1, h4.2⟩
theorem getD_of {listed : Array Bool} {i : Nat} {b : Bool} (h : listed.getD i b = !b) (c : Bool) : listed.getD i c = !b := by
  rw [Array.getD_eq_getD_getElem?] at h ⊢
  cases hl : listed[i]? with
  | none => rw [hl] at h; cases b <;> cases h
  | some x => rw [hl] at h; exact h
theorem wpAny_tail {k0 : Nat} (hok : seqOk ops k0 = true) : ∀ (m fuel k : Nat) (listed : Array Bool) (a : Act) (w : World), k + m = ops.size → k0 ≤ k → (∀ i, i < k → listed.getD i false = true) → (∀ i, k ≤ i → i < ops.size → listed.getD i true = false) → listed.size = ops.size →
    wpList Tryd.prog ops Q (ops.toList.drop k) a w → m ≤ fuel → wpAny Tryd.prog .any ops Q fuel listed a w := by
  intro m
  induction m with
  | zero =>
    intro fuel k listed a w hk _ hl _ hs hw _
    have hr : Region.ready .any ops listed = [] := by
      cases hr : Region.ready .any ops listed with
      | nil => rfl
      | cons i rs =>
        exfalso
        have hm : i ∈ Region.ready .any ops listed := by rw [hr]; simp
        obtain ⟨h1, o, ho, _⟩ := mem_ready.1 hm
        have hi := (Array.getElem?_eq_some_iff.1 ho).1
        have h2 := hl i (by omega)
        have h3 : listed.getD i false = false := getD_of (b := true) h1 false
        rw [h3] at h2
        cases h2
    have hq : Q .normal a w := by
      rw [List.drop_of_length_le (by simp; omega)] at hw
      exact hw
    cases fuel with
    | zero => exact ⟨hr, hq⟩
    | succ fuel => exact ⟨fun _ => hq, fun i hi => by rw [hr] at hi; cases hi⟩
  | succ m ih =>
    intro fuel k listed a w hk hk0 hl hn hs hw hf
    obtain ⟨fuel, rfl⟩ : ∃ f, fuel = f + 1 := ⟨fuel - 1, by omega⟩
    have hlt : k < ops.size := by omega
    have hok' : ops[k]? = some ops[k] := Array.getElem?_eq_getElem hlt
    have hready : k ∈ Region.ready .any ops listed := mem_ready.2 ⟨hn k (Nat.le_refl _) hlt, ops[k], hok', fun e he hb => hl _ ((seqOk_at hok hok').1 e he hb)⟩
    refine ⟨fun h => (by rw [h] at hready; cases hready), fun i hi => ?_⟩
    obtain ⟨h1, o, ho, hedges⟩ := mem_ready.1 hi
    have hil := (Array.getElem?_eq_some_iff.1 ho).1
    have hik : i = k := by
      have h3 : listed.getD i false = false := getD_of (b := true) h1 false
      rcases Nat.lt_trichotomy i k with h | h | h
      · rw [hl i h] at h3; cases h3
      · exact h
      · exfalso
        obtain ⟨e, he, hb, heq⟩ := (seqOk_at hok ho).2 (by omega) k h
        have h4 := hedges e he hb
        rw [heq] at h4
        have h5 := hn k (Nat.le_refl _) hlt
        have h6 : listed.getD k false = false := getD_of (b := true) h5 false
        rw [h6] at h4
        cases h4
    subst hik
    have hd : ops.toList.drop i = o :: ops.toList.drop (i + 1) := by
      have h7 : i < ops.toList.length := by simpa using hil
      rw [List.drop_eq_getElem_cons h7]
      have h8 := (Array.getElem?_eq_some_iff.1 ho).2
      simp [h8]
    rw [hd] at hw
    have hnext : ∀ a' w', wpList Tryd.prog ops Q (ops.toList.drop (i + 1)) a' w' → wpAny Tryd.prog .any ops Q fuel (listed.setIfInBounds i true) a' w' := fun a' w' h' => by
      refine ih fuel (i + 1) _ a' w' (by omega) (by omega) (fun j hj => ?_) (fun j hj1 hj2 => ?_) (by simpa using hs) h' (by omega)
      · by_cases hji : j = i
        · subst hji
          simp [Array.getD_eq_getD_getElem?, hs, hlt]
        · simpa only [Array.getD_eq_getD_getElem?, Array.getElem?_setIfInBounds, if_neg (Ne.symm hji)] using hl j (by omega)
      · have hji : j ≠ i := by omega
        simpa only [Array.getD_eq_getD_getElem?, Array.getElem?_setIfInBounds, if_neg (Ne.symm hji)] using hn j (by omega) hj2
    unfold wpOp
    rw [ho]
    unfold wpList at hw
    show if Region.wanted o (yielded ops a.tmps) = true then _ else _
    split
    · rename_i hwant
      rw [if_pos hwant] at hw
      exact hw.imp (Oper.wp_mono hnext) id
    · rename_i hwant
      rw [if_neg hwant] at hw
      exact hnext _ _ hw
theorem wpAny_first {n : Nat} (hok : formOk ops base N = true) (hsq : seqOk ops n = true) (hn : n ≤ ops.size) {a0 : Act} {w0 : World} (hstep : ∀ i o, i < n → ops[i]? = some o → Ob ops Q F base N o)
    (hend : ∀ a w, a.defers = a0.defers → a.tmps.size = N → (∀ t ∈ base, (F t).holds (a.tmps.getD t undef) w) → (∀ (i t : Nat), i < n → (ops[i]?).bind Oper.dst = some t → (F t).holds (a.tmps.getD t undef) w) →
      (∀ (t : Nat), (∀ (i : Nat), i < n → (ops[i]?).bind Oper.dst ≠ some t) → a.tmps.getD t undef = a0.tmps.getD t undef) → Below w0.heap.size w0 w → wpList Tryd.prog ops Q (ops.toList.drop n) a w) :
    ∀ (fuel : Nat) (listed : Array Bool) (a : Act) (w : World), listed.size = ops.size → a.tmps.size = N → a.defers = a0.defers → (∀ t ∈ base, (F t).holds (a.tmps.getD t undef) w) →
      (∀ (i t : Nat), listed.getD i false = true → (ops[i]?).bind Oper.dst = some t → (F t).holds (a.tmps.getD t undef) w) → (∀ (t : Nat), (∀ (i : Nat), i < n → (ops[i]?).bind Oper.dst ≠ some t) → a.tmps.getD t undef = a0.tmps.getD t undef) →
      Below w0.heap.size w0 w → (∀ i, n ≤ i → i < ops.size → listed.getD i true = false) → left_ listed ops.size ≤ fuel → wpAny Tryd.prog .any ops Q fuel listed a w := by
  intro fuel
  induction fuel with
  | zero =>
    intro listed a w hs hN hd hb hdone hoth hbel hrest hl
    by_cases hall : ∀ i, i < n → listed.getD i false = true
    · refine wpAny_tail hsq (ops.size - n) 0 n listed a w (by omega) (Nat.le_refl _) hall hrest hs (hend a w hd hN hb (fun i t hi ht => hdone i t (hall i hi) ht) hoth hbel) ?_
      rcases Nat.lt_or_ge n ops.size with h | h
      · exfalso
        have := left_step h hs (hrest n (Nat.le_refl _) h)
        omega
      · omega
    · exfalso
      apply hall
      intro i hi
      cases hg : listed.getD i false with
      | true => rfl
      | false =>
        exfalso
        have hg' : listed.getD i true = false := by
          rw [Array.getD_eq_getD_getElem?, Array.getElem?_eq_getElem (by omega)] at hg ⊢
          exact hg
        have := left_step (by omega : i < ops.size) hs hg'
        omega
  | succ fuel ih =>
    intro listed a w hs hN hd hb hdone hoth hbel hrest hl
    by_cases hall : ∀ i, i < n → listed.getD i false = true
    · refine wpAny_tail hsq (ops.size - n) (fuel + 1) n listed a w (by omega) (Nat.le_refl _) hall hrest hs (hend a w hd hN hb (fun i t hi ht => hdone i t (hall i hi) ht) hoth hbel) ?_
      refine Nat.le_trans ?_ hl
      unfold left_
      have e : ops.size - n = ((List.range' n (ops.size - n)).filter fun i => !listed.getD i true).length := by
        rw [List.filter_eq_self.2]
        · simp
        · intro i hi
          have := List.mem_range'.1 hi
          rw [hrest i (by omega) (by omega)]; rfl
      rw [e]
      refine List.Sublist.length_le (List.Sublist.filter _ ?_)
      rw [List.range_eq_range']
      have h5 : List.range' 0 ops.size = List.range' 0 n ++ List.range' n (ops.size - n) := by
        have := List.range'_append (s := 0) (m := n) (n := ops.size - n) (step := 1)
        simp only [Nat.zero_add, Nat.one_mul] at this
        rw [this, Nat.add_sub_of_le hn]
      rw [h5]
      exact List.sublist_append_right _ _
    · refine ⟨fun hr => ?_, fun i hi => ?_⟩
      · exfalso
        exact hall fun i hi => all_listed hok hs hr i (by omega)
      · obtain ⟨h1, o, ho, hedges⟩ := mem_ready.1 hi
        have hil := (Array.getElem?_eq_some_iff.1 ho).1
        have hin : i < n := by
          rcases Nat.lt_or_ge i n with h | h
          · exact h
          · exfalso
            refine hall fun j hj => ?_
            obtain ⟨e, he, hbd, heq⟩ := (seqOk_at hsq ho).2 h j (by omega)
            rw [← heq]
            exact hedges e he hbd
        obtain ⟨_, hdst⟩ := formOk_at hok ho
        refine wpOp_step ho fun K' hK => hstep i o hin ho a w K' hN hb (fun e he hb' t het => hdone e.on t (hedges e he hb') het) fun v w' hb' hF => hK _ _ ?_
        refine ih _ _ _ (by simpa using hs) ?_ ?_ (fun t ht => ?_) (fun j t hj hjt => ?_) (fun t ht => ?_) (up hbel hb') (fun j hj1 hj2 => ?_) ?_
        · cases o.dst <;> simpa [Act.put] using hN
        · cases o.dst <;> simpa [Act.put] using hd
        · rw [getD_put_other (fun e => (hdst t e).2.1 ht)]
          exact (F t).stable _ _ _ (hb t ht) hb'
        · by_cases hji : j = i
          · subst hji
            rw [ho] at hjt
            have hjt' : o.dst = some t := hjt
            rw [hjt', getD_put_same (by rw [hN]; exact (hdst t hjt').1)]
            exact hF t hjt'
          · have hl' : listed.getD j false = true := by
              simpa only [Array.getD_eq_getD_getElem?, Array.getElem?_setIfInBounds, if_neg (Ne.symm hji)] using hj
            rw [getD_put_other (fun e => (hdst t e).2.2 j hji hjt)]
            exact (F t).stable _ _ _ (hdone j t hl' hjt) hb'
        · rw [getD_put_other (fun e => ht i hin (by rw [ho]; exact e))]
          exact hoth t ht
        · simpa only [Array.getD_eq_getD_getElem?, Array.getElem?_setIfInBounds, if_neg (by omega : ¬ i = j)] using hrest j hj1 hj2
        · have := left_step hil hs h1
          omega
end
/-- **A region whose first n operations only add new memory, in any order, and whose others wait**: the others are then run in their order. -/
theorem wp_region_then {Q : Exit → Act → World → Prop} {id : Nat} {l : List Oper} {a : Act} {w : World} (hm : Tryd.prog.follows .mixedOrders = true) (F : Nat → Fact) (base : List Nat) (N n : Nat) (ds : List Nat) (hN : a.tmps.size = N) (hok : formOk l.toArray base N = true) (hsq : seqOk l.toArray n = true) (hn : n ≤ l.length) (hds : dstsOk (l.take n) ds = true)
    (hbase : ∀ t ∈ base, (F t).holds (a.tmps.getD t undef) w) (hstep : ∀ o ∈ l.take n, Ob l.toArray Q F base N o)
    (hend : ∀ (v : Nat → Value) w', (∀ t ∈ ds, (F t).holds (v t) w') → Below w.heap.size w w' → wpList Tryd.prog l.toArray Q (l.drop n) { tmps := lay a.tmps ds v, defers := a.defers } w') : (Code.region id l.toArray true).wp Tryd.prog Q a w := by
  refine wp_region_any hm (wpAny_first (a0 := a) (w0 := w) (n := n) hok hsq (by simpa using hn) (fun i o hi ho => hstep o ?_) ?_ _ _ _ _ (by simp) hN rfl (fun t ht => ?_) (fun i t hi _ => ?_) (fun _ _ => rfl) (Below.refl _ _).drew (fun i hi1 hi2 => ?_) ?_)
  · rw [List.getElem?_toArray] at ho
    refine List.mem_of_getElem? (i := i) ?_
    rw [List.getElem?_take, if_pos hi, ho]
  · intro a' w' hdef hsz hbs hall hoth hbel
    have hw : ∀ t ∈ ds, ∃ i, i < n ∧ (l.toArray[i]?).bind Oper.dst = some t := fun t ht => by
      have h1 := hds
      simp only [dstsOk, Bool.and_eq_true] at h1
      obtain ⟨o, ho, hd⟩ := List.any_eq_true.1 (List.all_eq_true.1 h1.2 t ht)
      obtain ⟨i, hi⟩ := List.getElem?_of_mem ho
      have hlt : i < (l.take n).length := (List.getElem?_eq_some_iff.1 hi).1
      have hin : i < n := by rw [List.length_take] at hlt; omega
      rw [List.getElem?_take, if_pos hin] at hi
      exact ⟨i, hin, by rw [List.getElem?_toArray, hi]; exact (by simpa using hd)⟩
    have h := hend (fun t => a'.tmps.getD t undef) w' (fun t ht => by
      obtain ⟨i, hin, hi⟩ := hw t ht
      exact hall i t hin hi) hbel
    have heq : a' = { tmps := lay a.tmps ds fun t => a'.tmps.getD t undef, defers := a.defers } := by
      obtain ⟨ts, df⟩ := a'
      have hdef' : df = a.defers := hdef
      subst hdef'
      congr 1
      have hsz' : ts.size = N := hsz
      refine Array.ext_getElem? fun t => ?_
      rcases Nat.lt_or_ge t N with hlt | hge
      · by_cases htd : t ∈ ds
        · rw [lay_at ds _ _ t htd (by omega), Array.getD_eq_getD_getElem?, Array.getElem?_eq_getElem (by omega)]; rfl
        · rw [lay_other ds _ _ t htd]
          have := hoth t fun i hin hi => by
            have h1 := hds
            simp only [dstsOk, Bool.and_eq_true] at h1
            rw [List.getElem?_toArray] at hi
            cases hl : l[i]? with
            | none => rw [hl] at hi; cases hi
            | some o =>
              rw [hl] at hi
              have hm' : o ∈ l.take n := List.mem_of_getElem? (i := i) (by rw [List.getElem?_take, if_pos hin, hl])
              have h2 := List.all_eq_true.1 h1.1 o hm'
              have h3 : o.dst = some t := hi
              rw [h3] at h2
              exact htd (by simpa using h2)
          have h2 : ts.getD t undef = a.tmps.getD t undef := this
          rw [Array.getD_eq_getD_getElem?, Array.getD_eq_getD_getElem?, Array.getElem?_eq_getElem (by omega), Array.getElem?_eq_getElem (by omega)] at h2
          rw [Array.getElem?_eq_getElem (by omega), Array.getElem?_eq_getElem (by omega)]
          exact congrArg some h2
      · rw [Array.getElem?_eq_none (by omega), Array.getElem?_eq_none (by rw [lay_size]; omega)]
    rw [heq]
    exact h
  · exact (F t).stable _ _ _ (hbase t ht) (Below.refl _ _).drew
  · rw [Array.getD_eq_getD_getElem?, Array.getElem?_replicate] at hi
    split at hi <;> simp at hi
  · rw [Array.getD_eq_getD_getElem?, Array.getElem?_replicate, if_pos hi2]; rfl
  · unfold left_
    exact Nat.le_trans (List.length_filter_le _ _) (by simp)
end Go.Proofs.YtaiceebhifecbaaDoor

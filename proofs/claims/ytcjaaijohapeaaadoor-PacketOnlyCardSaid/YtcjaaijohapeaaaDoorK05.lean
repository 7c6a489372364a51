/-
  As the region whose first operations only add memory; the later ones may write slots that came in. No conditions beyond those that it names.
-/
import Derived.Test.YtcjaaijohapeaaaDoorK04
import Derived.Test.YtcjaaijohapeaaaDoorK02
namespace Go.Proofs.YtcjaaijohapeaaaDoor
open Go.RowKit
/-- The region's form: edges go back; each slot of the first n operations is written once, and none of those that came in. -/
def formOkN (n : Nat) (ops : Array Oper) (base : List Nat) (N : Nat) : Bool := (List.range ops.size).all fun i => match ops[i]? with
  | none => true
  | some o => (o.after.all fun e => !Region.binds .any e || decide (e.on < i)) && (decide (n ≤ i) || (match o.dst with
    | none => true
    | some t => decide (t < N) && !base.contains t && (List.range ops.size).all fun j => j == i || (ops[j]?).bind Oper.dst != some t))
section
variable {ops : Array Oper} {Q : Exit → Act → World → Prop} {F : Nat → Fact} {base : List Nat} {N : Nat} {D : List Nat}
theorem formOkN_back {n : Nat} (h : formOkN n ops base N = true) {i : Nat} {o : Oper} (ho : ops[i]? = some o) : ∀ e ∈ o.after, Region.binds .any e = true → e.on < i := by
  have hi : i < ops.size := (Array.getElem?_eq_some_iff.1 ho).1
  have h1 := List.all_eq_true.1 h i (List.mem_range.2 hi)
  simp only [ho, Bool.and_eq_true] at h1
  intro e he hb
  have := Array.all_eq_true_iff_forall_mem.1 h1.1 e he
  simpa [hb] using this
theorem formOkN_at {n : Nat} (h : formOkN n ops base N = true) {i : Nat} {o : Oper} (hin : i < n) (ho : ops[i]? = some o) :
    (∀ e ∈ o.after, Region.binds .any e = true → e.on < i) ∧ ∀ t, o.dst = some t → t < N ∧ t ∉ base ∧ ∀ j, j ≠ i → (ops[j]?).bind Oper.dst ≠ some t := by
  have hi : i < ops.size := (Array.getElem?_eq_some_iff.1 ho).1
  have h1 := List.all_eq_true.1 h i (List.mem_range.2 hi)
  simp only [ho, Bool.and_eq_true] at h1
  refine ⟨formOkN_back h ho, fun t ht => ?_⟩
  have h2 := h1.2
  rw [decide_eq_false (by omega), Bool.false_or, ht] at h2
  simp only [Bool.and_eq_true, decide_eq_true_eq, Bool.not_eq_true'] at h2
  refine ⟨h2.1.1, fun hm => ?_, fun j hj e => ?_⟩
  · have := h2.1.2
    rw [List.contains_iff_mem.2 hm] at this
    cases this
  · have hjs : j < ops.size := by
      rcases Nat.lt_or_ge j ops.size with h5 | h5
      · exact h5
      · rw [Array.getElem?_eq_none h5] at e; cases e
    have := List.all_eq_true.1 h2.2 j (List.mem_range.2 hjs)
    simp only [Bool.or_eq_true, beq_iff_eq, bne_iff_ne, ne_eq] at this
    rcases this with h5 | h5
    · exact hj h5
    · exact h5 e
theorem all_listedN {n : Nat} (hok : formOkN n ops base N = true) {listed : Array Bool} (hl : listed.size = ops.size) (hr : Region.ready .any ops listed = []) : ∀ i, i < ops.size → listed.getD i false = true := by
  intro i
  induction i using Nat.strongRecOn with
  | _ i ih =>
    intro hi
    cases hg : listed.getD i false with
    | true => rfl
    | false =>
      exfalso
      have hmem : i ∈ Region.ready .any ops listed := by
        refine mem_ready.2 ⟨?_, ops[i], Array.getElem?_eq_getElem hi, fun e he hb => ?_⟩
        · rw [Array.getD_eq_getD_getElem?, Array.getElem?_eq_getElem (by omega)] at hg ⊢
          exact hg
        · have := formOkN_back hok (Array.getElem?_eq_getElem hi) e he hb
          exact ih e.on this (by omega)
      rw [hr] at hmem
      cases hmem
theorem News.stepN {n : Nat} (hok : formOkN n ops base N = true) {g : Nat} {listed : Array Bool} {a : Act} {w w' : World} (h : News g D ops listed a w) (hs : listed.size = ops.size) (hN : a.tmps.size = N) (hg : g ≤ w.heap.size) {i : Nat} {o : Oper} (hin : i < n) (ho : ops[i]? = some o) {v : Value}
    (hb : Below w.heap.size w w') (hv : ∀ t ∈ D, o.dst = some t → v = .pointer (some ⟨w.heap.size, 0, none⟩) ∧ w.heap.size < w'.heap.size) : News g D ops (listed.setIfInBounds i true) (a.put o.dst v) w' := by
  have hlt : i < listed.size := by rw [hs]; exact (Array.getElem?_eq_some_iff.1 ho).1
  obtain ⟨_, hdst⟩ := formOkN_at hok hin ho
  have hval : ∀ s ∈ D, ∀ j, (listed.setIfInBounds i true).getD j false = true → (ops[j]?).bind Oper.dst = some s → (j = i ∧ o.dst = some s ∧ (a.put o.dst v).tmps.getD s undef = .pointer (some ⟨w.heap.size, 0, none⟩) ∧ w.heap.size < w'.heap.size) ∨
      (listed.getD j false = true ∧ (a.put o.dst v).tmps.getD s undef = a.tmps.getD s undef) := fun s hsD j hj hjs => by
    by_cases hji : j = i
    · subst hji
      rw [ho] at hjs
      have hjs' : o.dst = some s := hjs
      obtain ⟨h1, h2⟩ := hv s hsD hjs'
      refine .inl ⟨rfl, hjs', ?_, h2⟩
      rw [hjs', getD_put_same (by rw [hN]; exact (hdst s hjs').1)]
      exact h1
    · refine .inr ⟨((listed_set hlt).1 hj).resolve_left hji, ?_⟩
      exact getD_put_other fun e => (hdst s e).2.2 j hji hjs
  refine ⟨fun s hsD j hj hjs => ?_, fun s hsD t htD hne j k hj hjs hk hkt => ?_⟩
  · rcases hval s hsD j hj hjs with ⟨_, _, h1, h2⟩ | ⟨h1, h2⟩
    · exact ⟨_, h1, hg, h2⟩
    · obtain ⟨b, h3, h4, h5⟩ := h.1 s hsD j h1 hjs
      exact ⟨b, h2.trans h3, h4, Nat.lt_of_lt_of_le h5 hb.size⟩
  · rcases hval s hsD j hj hjs with ⟨rfl, h0, h1, _⟩ | ⟨h1, h2⟩
    · rcases hval t htD k hk hkt with ⟨rfl, h5, _, _⟩ | ⟨h5, h6⟩
      · rw [h0] at h5
        injection h5 with h5
        exact absurd h5 hne
      · obtain ⟨b, h7, _, h8⟩ := h.1 t htD k h5 hkt
        rw [h1, h6, h7]
        intro e
        injection e with e
        injection e with e
        injection e with e
        omega
    · rcases hval t htD k hk hkt with ⟨rfl, _, h5, _⟩ | ⟨h5, h6⟩
      · obtain ⟨b, h7, _, h8⟩ := h.1 s hsD j h1 hjs
        rw [h5, h2, h7]
        intro e
        injection e with e
        injection e with e
        injection e with e
        omega
      · rw [h2, h6]
        exact h.2 s hsD t htD hne j k h1 hjs h5 hkt
theorem wpAny_seqFirstN {n g : Nat} (hok : formOkN n ops base N = true) (hsq : seqC ops.toList n = true) (hn : n ≤ ops.size) {a0 : Act} {w0 : World} (hg : g = w0.heap.size) (hstep : ∀ i o, i < n → ops[i]? = some o → Obn ops Q F base N D o)
    (hend : ∀ listed a w, a.defers = a0.defers → a.tmps.size = N → (∀ t ∈ base, (F t).holds (a.tmps.getD t undef) w) → (∀ (i t : Nat), i < n → (ops[i]?).bind Oper.dst = some t → (F t).holds (a.tmps.getD t undef) w) →
      (∀ (t : Nat), (∀ (i : Nat), i < n → (ops[i]?).bind Oper.dst ≠ some t) → a.tmps.getD t undef = a0.tmps.getD t undef) → Below w0.heap.size w0 w → (∀ i, i < n → listed.getD i false = true) → News g D ops listed a w → wpList Tryd.prog ops Q (ops.toList.drop n) a w) :
    ∀ (fuel : Nat) (listed : Array Bool) (a : Act) (w : World), listed.size = ops.size → a.tmps.size = N → a.defers = a0.defers → (∀ t ∈ base, (F t).holds (a.tmps.getD t undef) w) →
      (∀ (i t : Nat), listed.getD i false = true → (ops[i]?).bind Oper.dst = some t → (F t).holds (a.tmps.getD t undef) w) → (∀ (t : Nat), (∀ (i : Nat), i < n → (ops[i]?).bind Oper.dst ≠ some t) → a.tmps.getD t undef = a0.tmps.getD t undef) →
      Below w0.heap.size w0 w → (∀ i, n ≤ i → i < ops.size → listed.getD i true = false) → Closed ops listed → News g D ops listed a w → left_ listed ops.size ≤ fuel → wpAny Tryd.prog .any ops Q fuel listed a w := by
  have hback : ∀ i o, ops[i]? = some o → ∀ e ∈ o.after, Region.binds .any e = true → e.on < i := fun i o ho => formOkN_back hok ho
  intro fuel
  induction fuel with
  | zero =>
    intro listed a w hs hN hd hb hdone hoth hbel hrest hcl hnew hl
    by_cases hall : ∀ i, i < n → listed.getD i false = true
    · refine wpAny_seqTail hsq hback (ops.size - n) 0 n listed a w (by omega) (Nat.le_refl _) hall hrest hs hcl (hend listed a w hd hN hb (fun i t hi ht => hdone i t (hall i hi) ht) hoth hbel hall hnew) ?_
      rcases Nat.lt_or_ge n ops.size with h | h
      · exfalso
        have := left_step h hs (hrest n (Nat.le_refl _) h)
        omega
      · omega
    · exfalso
      apply hall
      intro i hi
      cases hg' : listed.getD i false with
      | true => rfl
      | false =>
        exfalso
        have hg' : listed.getD i true = false := by
          rw [Array.getD_eq_getD_getElem?, Array.getElem?_eq_getElem (by omega)] at hg' ⊢
          exact hg'
        have := left_step (by omega : i < ops.size) hs hg'
        omega
  | succ fuel ih =>
    intro listed a w hs hN hd hb hdone hoth hbel hrest hcl hnew hl
    by_cases hall : ∀ i, i < n → listed.getD i false = true
    · refine wpAny_seqTail hsq hback (ops.size - n) (fuel + 1) n listed a w (by omega) (Nat.le_refl _) hall hrest hs hcl (hend listed a w hd hN hb (fun i t hi ht => hdone i t (hall i hi) ht) hoth hbel hall hnew) ?_
      refine Nat.le_trans ?_ hl
      unfold left_
      have e : ops.size - n = ((List.range' n (ops.size - n)).filter fun i => !listed.getD i true).length := by
        rw [List.filter_eq_self.2]
        · simp
        · intro i hi
          have := List.mem_range'.1 hi
          rw [hrest i (by omega) (by omega)]; rfl
      rw [e]
      refine List.Sublist.length_le (List.Sublist.filter _ ?_)
      rw [List.range_eq_range']
      have h5 : List.range' 0 ops.size = List.range' 0 n ++ List.range' n (ops.size - n) := by
        have := List.range'_append (s := 0) (m := n) (n := ops.size - n) (step := 1)
        simp only [Nat.zero_add, Nat.one_mul] at this
        rw [this, Nat.add_sub_of_le hn]
      rw [h5]
      exact List.sublist_append_right _ _
    · refine ⟨fun hr => ?_, fun i hi => ?_⟩
      · exfalso
        exact hall fun i hi => all_listedN hok hs hr i (by omega)
      · obtain ⟨h1, o, ho, hedges⟩ := mem_ready.1 hi
        have hil := (Array.getElem?_eq_some_iff.1 ho).1
        have hin : i < n := by
          rcases Nat.lt_or_ge i n with h | h
          · exact h
          · exact absurd (fun j hj => seqC_at hsq (fun j => listed.getD j false = true) (fun j o' ho' hj => hcl j o' ho' hj) ho h hedges j (by omega)) hall
        obtain ⟨_, hdst⟩ := formOkN_at hok hin ho
        refine wpOp_step ho fun K' hK => hstep i o hin ho a w K' hN hb (fun e he hb' t het => hdone e.on t (hedges e he hb') het) fun v w' hb' hF hv => hK _ _ ?_
        refine ih _ _ _ (by simpa using hs) ?_ ?_ (fun t ht => ?_) (fun j t hj hjt => ?_) (fun t ht => ?_) (upG hbel hb') (fun j hj1 hj2 => ?_) (hcl.set hs ho hedges) (hnew.stepN hok hs hN (by rw [hg]; exact hbel.size) hin ho hb' hv) ?_
        · cases o.dst <;> simpa [Act.put] using hN
        · cases o.dst <;> simpa [Act.put] using hd
        · rw [getD_put_other (fun e => (hdst t e).2.1 ht)]
          exact (F t).stable _ _ _ (hb t ht) hb'
        · by_cases hji : j = i
          · subst hji
            rw [ho] at hjt
            have hjt' : o.dst = some t := hjt
            rw [hjt', getD_put_same (by rw [hN]; exact (hdst t hjt').1)]
            exact hF t hjt'
          · have hl' : listed.getD j false = true := by
              simpa only [Array.getD_eq_getD_getElem?, Array.getElem?_setIfInBounds, if_neg (Ne.symm hji)] using hj
            rw [getD_put_other (fun e => (hdst t e).2.2 j hji hjt)]
            exact (F t).stable _ _ _ (hdone j t hl' hjt) hb'
        · rw [getD_put_other (fun e => ht i hin (by rw [ho]; exact e))]
          exact hoth t ht
        · simpa only [Array.getD_eq_getD_getElem?, Array.getElem?_setIfInBounds, if_neg (by omega : ¬ i = j)] using hrest j hj1 hj2
        · have := left_step hil hs h1
          omega
end
/-- **A region whose first n operations only add new memory, in any order, and whose others come behind**, and may write slots that came in. -/
theorem wp_region_seqN {Q : Exit → Act → World → Prop} {id : Nat} {l : List Oper} {a : Act} {w : World} (hm : Tryd.prog.follows .mixedOrders = true) (F : Nat → Fact) (base D : List Nat) (N n : Nat) (ds : List Nat) (hN : a.tmps.size = N) (hok : formOkN n l.toArray base N = true) (hsq : seqC l n = true) (hn : n ≤ l.length) (hds : dstsOk (l.take n) ds = true) (hD : (D.all fun d => ds.contains d) = true)
    (hbase : ∀ t ∈ base, (F t).holds (a.tmps.getD t undef) w) (hstep : ∀ o ∈ l.take n, Obn l.toArray Q F base N D o)
    (hend : ∀ (v : Nat → Value) w', (∀ t ∈ ds, (F t).holds (v t) w') → Below w.heap.size w w' → (∀ s ∈ D, ∃ b, v s = .pointer (some ⟨b, 0, none⟩) ∧ w.heap.size ≤ b ∧ b < w'.heap.size) → (∀ s ∈ D, ∀ t ∈ D, s ≠ t → v s ≠ v t) →
      wpList Tryd.prog l.toArray Q (l.drop n) { tmps := lay a.tmps ds v, defers := a.defers } w') : (Code.region id l.toArray true).wp Tryd.prog Q a w := by
  have hnone : ∀ i, (Array.replicate l.length false).getD i false = true → False := fun i hi => by
    rw [Array.getD_eq_getD_getElem?, Array.getElem?_replicate] at hi
    split at hi <;> simp at hi
  refine wp_region_any hm (wpAny_seqFirstN (a0 := a) (w0 := w) (n := n) (D := D) hok (by simpa using hsq) (by simpa using hn) rfl (fun i o hi ho => hstep o ?_) ?_ _ _ _ _ (by simp) hN rfl (fun t ht => ?_) (fun i t hi _ => (hnone i hi).elim) (fun _ _ => rfl) (Below.refl _ _).drew (fun i hi1 hi2 => ?_) (fun i _ _ hi => (hnone i hi).elim) ⟨fun _ _ i hi => (hnone i hi).elim, fun _ _ _ _ _ i _ hi => (hnone i hi).elim⟩ ?_)
  · rw [List.getElem?_toArray] at ho
    refine List.mem_of_getElem? (i := i) ?_
    rw [List.getElem?_take, if_pos hi, ho]
  · intro listed a' w' hdef hsz hbs hall hoth hbel hlst hnews
    have hw : ∀ t ∈ ds, ∃ i, i < n ∧ (l.toArray[i]?).bind Oper.dst = some t := fun t ht => by
      have h1 := hds
      simp only [dstsOk, Bool.and_eq_true] at h1
      obtain ⟨o, ho, hd⟩ := List.any_eq_true.1 (List.all_eq_true.1 h1.2 t ht)
      obtain ⟨i, hi⟩ := List.getElem?_of_mem ho
      have hlt : i < (l.take n).length := (List.getElem?_eq_some_iff.1 hi).1
      have hin : i < n := by rw [List.length_take] at hlt; omega
      rw [List.getElem?_take, if_pos hin] at hi
      exact ⟨i, hin, by rw [List.getElem?_toArray, hi]; exact (by simpa using hd)⟩
    have hDs : ∀ s ∈ D, s ∈ ds := fun s hs => List.contains_iff_mem.1 (List.all_eq_true.1 hD s hs)
    have h := hend (fun t => a'.tmps.getD t undef) w' (fun t ht => by
      obtain ⟨i, hin, hi⟩ := hw t ht
      exact hall i t hin hi) hbel (fun s hs => by
      obtain ⟨i, hin, hi⟩ := hw s (hDs s hs)
      exact hnews.1 s hs i (hlst i hin) hi) (fun s hs t ht hne => by
      obtain ⟨i, hin, hi⟩ := hw s (hDs s hs)
      obtain ⟨k, hkn, hk⟩ := hw t (hDs t ht)
      exact hnews.2 s hs t ht hne i k (hlst i hin) hi (hlst k hkn) hk)
    have heq : a' = { tmps := lay a.tmps ds fun t => a'.tmps.getD t undef, defers := a.defers } := by
      obtain ⟨ts, df⟩ := a'
      have hdef' : df = a.defers := hdef
      subst hdef'
      congr 1
      have hsz' : ts.size = N := hsz
      refine Array.ext_getElem? fun t => ?_
      rcases Nat.lt_or_ge t N with hlt | hge
      · by_cases htd : t ∈ ds
        · rw [lay_at ds _ _ t htd (by omega), Array.getD_eq_getD_getElem?, Array.getElem?_eq_getElem (by omega)]; rfl
        · rw [lay_other ds _ _ t htd]
          have := hoth t fun i hin hi => by
            have h1 := hds
            simp only [dstsOk, Bool.and_eq_true] at h1
            rw [List.getElem?_toArray] at hi
            cases hl : l[i]? with
            | none => rw [hl] at hi; cases hi
            | some o =>
              rw [hl] at hi
              have hm' : o ∈ l.take n := List.mem_of_getElem? (i := i) (by rw [List.getElem?_take, if_pos hin, hl])
              have h2 := List.all_eq_true.1 h1.1 o hm'
              have h3 : o.dst = some t := hi
              rw [h3] at h2
              exact htd (by simpa using h2)
          have h2 : ts.getD t undef = a.tmps.getD t undef := this
          rw [Array.getD_eq_getD_getElem?, Array.getD_eq_getD_getElem?, Array.getElem?_eq_getElem (by omega), Array.getElem?_eq_getElem (by omega)] at h2
          rw [Array.getElem?_eq_getElem (by omega), Array.getElem?_eq_getElem (by omega)]
          exact congrArg some h2
      · rw [Array.getElem?_eq_none (by omega), Array.getElem?_eq_none (by rw [lay_size]; omega)]
    rw [heq]
    exact h
  · exact (F t).stable _ _ _ (hbase t ht) (Below.refl _ _).drew
  · rw [Array.getD_eq_getD_getElem?, Array.getElem?_replicate, if_pos hi2]; rfl
  · unfold left_
    exact Nat.le_trans (List.length_filter_le _ _) (by simp)
end Go.Proofs.YtcjaaijohapeaaaDoor
/-
  Obligations of a region's operations, each slot's value told exactly, in memory that has only grown since W0. No conditions beyond those that each names.
-/
namespace Go.Proofs.YtcjaaijohapeaaaDoor
open Go.RowKit
section
variable {ops : Array Oper} {Q : Exit → Act → World → Prop} {F : Nat → Fact} {base : List Nat} {N : Nat} {o : Oper} {W0 : World}
/-- The operation's guard is met. -/
def Gd (W0 : World) (ops : Array Oper) (F : Nat → Fact) (base : List Nat) (N : Nat) (o : Oper) : Prop :=
  o.guard = none ∨ ∃ (j d : Nat) (b : Bool), o.guard = some (j, b) ∧ (ops[j]?).bind Oper.dst = some d ∧ known ops base o d = true ∧ d < N ∧ F d = Fact.at_ W0 (.bool b)
theorem gd_wanted {a : Act} {w : World} (hN : a.tmps.size = N) (hf : ∀ t, known ops base o t = true → (F t).holds (a.tmps.getD t undef) w) (hg : Gd W0 ops F base N o) : Region.wanted o (yielded ops a.tmps) = true := by
  rcases hg with h | ⟨j, d, b, h, hd, hk, hlt, hF⟩
  · simp [Region.wanted, h]
  · have h1 := hf d hk
    rw [hF] at h1
    have h2 : a.tmps[d]? = some (.bool b) := by
      have : a.tmps.getD d undef = .bool b := h1.1
      rw [Array.getD_eq_getD_getElem?, Array.getElem?_eq_getElem (by omega)] at this
      rw [Array.getElem?_eq_getElem (by omega)]
      exact congrArg some this
    have h3 : ((ops[j]?).bind fun x => x.dst) = some d := hd
    simp [Region.wanted, h, yielded, h3, h2]
theorem at_val (hg : Gd W0 ops F base N o) (h : ∀ (a : Act) (w : World), (∀ t, known ops base o t = true → (F t).holds (a.tmps.getD t undef) w) →
    ∃ v w', (execOp a.eval o).run Tryd.prog w = .ok (.value v) w' ∧ Below w.heap.size w w' ∧ ∀ t, o.dst = some t → (F t).holds v w') : Ob ops Q F base N o := by
  intro a w K hN hb hp hK
  have hf := fun t (hk : known ops base o t = true) => known_fact hb hp hk
  rw [if_pos (gd_wanted hN hf hg)]
  obtain ⟨v, w', hr, hbw, hF⟩ := h a w hf
  unfold Oper.wp
  rw [hr]
  exact hK v w' hbw hF
theorem at_enter (hg : Gd W0 ops F base N o) (h : ∀ (a : Act) (w : World), (∀ t, known ops base o t = true → (F t).holds (a.tmps.getD t undef) w) →
    ∃ f args, (execOp a.eval o).run Tryd.prog w = .ok (.enter f args) w ∧ Calls Tryd.prog f args w fun e w' => ∃ v, e = .returned v ∧ Below w.heap.size w w' ∧ ∀ t, o.dst = some t → (F t).holds v w') : Ob ops Q F base N o := by
  intro a w K hN hb hp hK
  have hf := fun t (hk : known ops base o t = true) => known_fact hb hp hk
  rw [if_pos (gd_wanted hN hf hg)]
  obtain ⟨f, args, hr, hc⟩ := h a w hf
  unfold Oper.wp
  rw [hr]
  refine hc.mono ?_
  rintro e w' ⟨v, rfl, hbw, hF⟩
  exact hK v w' hbw hF
/-- An operation on one slot. -/
theorem at1 (t d : Nat) (u r : Value) (hd : o.dst = some d) (hg : Gd W0 ops F base N o) (hk : known ops base o t = true) (hv : F t = Fact.at_ W0 u) (hF : F d = Fact.at_ W0 r)
    (h : ∀ (a : Act) (w : World), Below W0.heap.size W0 w → a.eval (.tmp t) = u → (execOp a.eval o).run Tryd.prog w = .ok (.value r) w) : Ob ops Q F base N o :=
  at_val hg fun a w hf => by
    have h1 := hf t hk
    rw [hv] at h1
    exact ⟨r, w, h a w h1.2 h1.1, Below.refl _ _, fun s hs => by rw [hd] at hs; injection hs with hs; subst hs; rw [hF]; exact ⟨rfl, h1.2⟩⟩
/-- An operation on two slots. -/
theorem at2 (t s d : Nat) (u v r : Value) (hd : o.dst = some d) (hg : Gd W0 ops F base N o) (hk : known ops base o t = true) (hk2 : known ops base o s = true) (hv : F t = Fact.at_ W0 u) (hv2 : F s = Fact.at_ W0 v) (hF : F d = Fact.at_ W0 r)
    (h : ∀ (a : Act) (w : World), Below W0.heap.size W0 w → a.eval (.tmp t) = u → a.eval (.tmp s) = v → (execOp a.eval o).run Tryd.prog w = .ok (.value r) w) : Ob ops Q F base N o :=
  at_val hg fun a w hf => by
    have h1 := hf t hk
    rw [hv] at h1
    have h2 := hf s hk2
    rw [hv2] at h2
    exact ⟨r, w, h a w h1.2 h1.1 h2.1, Below.refl _ _, fun s hs => by rw [hd] at hs; injection hs with hs; subst hs; rw [hF]; exact ⟨rfl, h1.2⟩⟩
/-- A copy of a slot. -/
theorem atcopy (t d : Nat) (u : Value) (ho : o.op = .move (.tmp t) ∨ o.op = .assign (.tmp t)) (hd : o.dst = some d) (hg : Gd W0 ops F base N o) (hk : known ops base o t = true) (hv : F t = Fact.at_ W0 u) (hF : F d = Fact.at_ W0 u) : Ob ops Q F base N o :=
  at1 t d u u hd hg hk hv hF fun a w _ h => by
    have h' : a.eval (.tmp t) = u := h
    rcases ho with ho | ho <;> simp [execOp, ho, h']
/-- A choice whose flag is b. -/
theorem atpick (c t d : Nat) (b : Bool) (u : Value) (x y : Operand) (ho : o.op = .pick (.tmp c) x y) (hx : (if b then x else y) = .tmp t) (hd : o.dst = some d) (hg : Gd W0 ops F base N o) (hkc : known ops base o c = true) (hk : known ops base o t = true) (hc : F c = Fact.at_ W0 (.bool b)) (hv : F t = Fact.at_ W0 u) (hF : F d = Fact.at_ W0 u) : Ob ops Q F base N o :=
  at2 c t d (.bool b) u u hd hg hkc hk hc hv hF fun a w _ h1 h2 => by
    cases b
    · have hy : y = .tmp t := hx
      subst hy
      simp [execOp, ho, h1, h2, asBool]
    · have hy : x = .tmp t := hx
      subst hy
      simp [execOp, ho, h1, h2, asBool]
theorem atpickk (c d : Nat) (b : Bool) (u : Value) (x y : Operand) (ho : o.op = .pick (.tmp c) x y) (hx : (if b then x else y) = .const u) (hd : o.dst = some d) (hg : Gd W0 ops F base N o) (hkc : known ops base o c = true) (hc : F c = Fact.at_ W0 (.bool b)) (hF : F d = Fact.at_ W0 u) : Ob ops Q F base N o :=
  at1 c d (.bool b) u hd hg hkc hc hF fun a w _ h1 => by
    have hu : a.eval (.const u) = u := rfl
    cases b
    · have hy : y = .const u := hx
      subst hy
      simp [execOp, ho, h1, hu, asBool]
    · have hy : x = .const u := hx
      subst hy
      simp [execOp, ho, h1, hu, asBool]
/-- An operation whose guard is not met, or was not run. -/
theorem atskip (t0 j d t : Nat) (b : Bool) (v0 : Value) (hgd : o.guard = some (j, b)) (hdj : (ops[j]?).bind Oper.dst = some d) (hk : known ops base o d = true) (hlt : d < N) (hFd : F d = Fact.at_ W0 (.bool (!b)) ∨ F d = Fact.at_ W0 undef) (hk0 : known ops base o t0 = true) (hv0 : F t0 = Fact.at_ W0 v0) (ht : o.dst = some t) (hF : F t = Fact.at_ W0 undef) : Ob ops Q F base N o := by
  intro a w K hN hb hp hK
  have hbw : Below W0.heap.size W0 w := by
    have h1 := known_fact hb hp hk0
    rw [hv0] at h1
    exact h1.2
  have h1 := known_fact hb hp hk
  have h3 : ((ops[j]?).bind fun x => x.dst) = some d := hdj
  have h4 : a.tmps[d]? = some (.bool (!b)) ∨ a.tmps[d]? = some undef := by
    have hd : a.tmps[d]? = some (a.tmps.getD d undef) := by rw [Array.getD_eq_getD_getElem?, Array.getElem?_eq_getElem (by omega)]; rfl
    rcases hFd with h | h
    · rw [h] at h1; left; rw [hd, h1.1]
    · rw [h] at h1; right; rw [hd, h1.1]
  rw [if_neg (by rcases h4 with h | h <;> (cases b <;> simp [Region.wanted, hgd, yielded, h3, h, undef]))]
  exact hK undef w (Below.refl _ _) fun s hs => by rw [ht] at hs; injection hs with hs; subst hs; rw [hF]; exact ⟨rfl, hbw⟩
theorem Ib.at_ {u : Value} {w : World} {e : Ending} {w' : World} (hb : Below W0.heap.size W0 w) (h : Ib u w e w') : ∃ v, e = .returned v ∧ Below w.heap.size w w' ∧ (Fact.at_ W0 u).holds v w' := ⟨u, h.1, h.2, rfl, upG hb h.2⟩
theorem Is.ib {u : Value} {w : World} {e : Ending} {w' : World} (h : Is u w e w') : Ib u w e w' := ⟨h.1, h.2 ▸ Below.refl _ _⟩
/-- Calls. -/
theorem atc0 (f : FuncId) (t0 d : Nat) (v0 r : Value) (tys : Array TypeId) (ho : o.op = .call { callee := .value (.func f), args := #[], argTypes := tys }) (hd : o.dst = some d) (hg : Gd W0 ops F base N o) (hk0 : known ops base o t0 = true) (hv0 : F t0 = Fact.at_ W0 v0) (hfn : fnOk f = true) (hF : F d = Fact.at_ W0 r)
    (hc : ∀ w, Below W0.heap.size W0 w → Calls Tryd.prog f #[] w (Ib r w)) : Ob ops Q F base N o :=
  at_enter hg fun a w hf => by
    have h1 := hf t0 hk0
    rw [hv0] at h1
    refine ⟨f, #[], by simpa [execOp, ho, resolve, Act.eval] using run_invoke hfn _ w, (hc w h1.2).mono fun e w' h => ?_⟩
    obtain ⟨v, h2, h3, h4⟩ := Ib.at_ h1.2 h
    exact ⟨v, h2, h3, fun s hs => by rw [hd] at hs; injection hs with hs; subst hs; rw [hF]; exact h4⟩
theorem atc1 (f : FuncId) (t d : Nat) (u r : Value) (tys : Array TypeId) (ho : o.op = .call { callee := .value (.func f), args := #[.tmp t], argTypes := tys }) (hd : o.dst = some d) (hg : Gd W0 ops F base N o) (hk : known ops base o t = true) (hv : F t = Fact.at_ W0 u) (hfn : fnOk f = true) (hF : F d = Fact.at_ W0 r)
    (hc : ∀ w, Below W0.heap.size W0 w → Calls Tryd.prog f #[u] w (Ib r w)) : Ob ops Q F base N o :=
  at_enter hg fun a w hf => by
    have h1 := hf t hk
    rw [hv] at h1
    have h1' : a.tmps.getD t undef = u := h1.1
    refine ⟨f, #[u], by rw [← h1']; simpa [execOp, ho, resolve, Act.eval] using run_invoke hfn _ w, (hc w h1.2).mono fun e w' h => ?_⟩
    obtain ⟨v, h2, h3, h4⟩ := Ib.at_ h1.2 h
    exact ⟨v, h2, h3, fun s hs => by rw [hd] at hs; injection hs with hs; subst hs; rw [hF]; exact h4⟩
theorem atc2 (f : FuncId) (t s d : Nat) (u v r : Value) (tys : Array TypeId) (ho : o.op = .call { callee := .value (.func f), args := #[.tmp t, .tmp s], argTypes := tys }) (hd : o.dst = some d) (hg : Gd W0 ops F base N o) (hk : known ops base o t = true) (hk2 : known ops base o s = true) (hv : F t = Fact.at_ W0 u) (hv2 : F s = Fact.at_ W0 v) (hfn : fnOk f = true) (hF : F d = Fact.at_ W0 r)
    (hc : ∀ w, Below W0.heap.size W0 w → Calls Tryd.prog f #[u, v] w (Ib r w)) : Ob ops Q F base N o :=
  at_enter hg fun a w hf => by
    have h1 := hf t hk
    rw [hv] at h1
    have h2 := hf s hk2
    rw [hv2] at h2
    have h1' : a.tmps.getD t undef = u := h1.1
    have h2' : a.tmps.getD s undef = v := h2.1
    refine ⟨f, #[u, v], by rw [← h1', ← h2']; simpa [execOp, ho, resolve, Act.eval] using run_invoke hfn _ w, (hc w h1.2).mono fun e w' h => ?_⟩
    obtain ⟨v, h2, h3, h4⟩ := Ib.at_ h1.2 h
    exact ⟨v, h2, h3, fun s hs => by rw [hd] at hs; injection hs with hs; subst hs; rw [hF]; exact h4⟩
theorem atc2k (f : FuncId) (t d : Nat) (u v r : Value) (tys : Array TypeId) (ho : o.op = .call { callee := .value (.func f), args := #[.tmp t, .const v], argTypes := tys }) (hd : o.dst = some d) (hg : Gd W0 ops F base N o) (hk : known ops base o t = true) (hv : F t = Fact.at_ W0 u) (hfn : fnOk f = true) (hF : F d = Fact.at_ W0 r)
    (hc : ∀ w, Below W0.heap.size W0 w → Calls Tryd.prog f #[u, v] w (Ib r w)) : Ob ops Q F base N o :=
  at_enter hg fun a w hf => by
    have h1 := hf t hk
    rw [hv] at h1
    have h1' : a.tmps.getD t undef = u := h1.1
    refine ⟨f, #[u, v], by rw [← h1']; simpa [execOp, ho, resolve, Act.eval] using run_invoke hfn _ w, (hc w h1.2).mono fun e w' h => ?_⟩
    obtain ⟨v, h2, h3, h4⟩ := Ib.at_ h1.2 h
    exact ⟨v, h2, h3, fun s hs => by rw [hd] at hs; injection hs with hs; subst hs; rw [hF]; exact h4⟩
theorem atc3 (f : FuncId) (t s x d : Nat) (u v z r : Value) (tys : Array TypeId) (ho : o.op = .call { callee := .value (.func f), args := #[.tmp t, .tmp s, .tmp x], argTypes := tys }) (hd : o.dst = some d) (hg : Gd W0 ops F base N o) (hk : known ops base o t = true) (hk2 : known ops base o s = true) (hk3 : known ops base o x = true) (hv : F t = Fact.at_ W0 u) (hv2 : F s = Fact.at_ W0 v) (hv3 : F x = Fact.at_ W0 z) (hfn : fnOk f = true) (hF : F d = Fact.at_ W0 r)
    (hc : ∀ w, Below W0.heap.size W0 w → Calls Tryd.prog f #[u, v, z] w (Ib r w)) : Ob ops Q F base N o :=
  at_enter hg fun a w hf => by
    have h1 := hf t hk
    rw [hv] at h1
    have h2 := hf s hk2
    rw [hv2] at h2
    have h3 := hf x hk3
    rw [hv3] at h3
    have h1' : a.tmps.getD t undef = u := h1.1
    have h2' : a.tmps.getD s undef = v := h2.1
    have h3' : a.tmps.getD x undef = z := h3.1
    refine ⟨f, #[u, v, z], by rw [← h1', ← h2', ← h3']; simpa [execOp, ho, resolve, Act.eval] using run_invoke hfn _ w, (hc w h1.2).mono fun e w' h => ?_⟩
    obtain ⟨v, h2, h3, h4⟩ := Ib.at_ h1.2 h
    exact ⟨v, h2, h3, fun s hs => by rw [hd] at hs; injection hs with hs; subst hs; rw [hF]; exact h4⟩
end
end Go.Proofs.YtcjaaijohapeaaaDoor

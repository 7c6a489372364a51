/-
  A region whose order Go leaves open, with one store into memory that was there: operations that come ahead of it are told as before, those that may come behind it only handle values. No conditions beyond those that it names.
-/
import Derived.Test.YtclbdlbdnnhfmaaWt
namespace Go.Proofs.Ytclbdlbdnnhfmaa
open Go.RowKit
theorem getD_of {listed : Array Bool} {i : Nat} {b : Bool} (h : listed.getD i b = !b) (c : Bool) : listed.getD i c = !b := by
  rw [Array.getD_eq_getD_getElem?] at h ⊢
  cases hl : listed[i]? with
  | none => rw [hl] at h; cases b <;> cases h
  | some x => rw [hl] at h; exact h
/-- All edges go back. -/
def backOk (ops : Array Oper) : Bool := (List.range ops.size).all fun i => match ops[i]? with
  | none => true
  | some o => o.after.all fun e => !Region.binds .any e || decide (e.on < i)
theorem backOk_at {ops : Array Oper} (h : backOk ops = true) {i : Nat} {o : Oper} (ho : ops[i]? = some o) : ∀ e ∈ o.after, Region.binds .any e = true → e.on < i := by
  have hi : i < ops.size := (Array.getElem?_eq_some_iff.1 ho).1
  have h1 := List.all_eq_true.1 h i (List.mem_range.2 hi)
  simp only [ho] at h1
  intro e he hb
  have := Array.all_eq_true_iff_forall_mem.1 h1 e he
  simpa [hb] using this
theorem all_listed_back {ops : Array Oper} (hok : backOk ops = true) {listed : Array Bool} (hl : listed.size = ops.size) (hr : Region.ready .any ops listed = []) : ∀ i, i < ops.size → listed.getD i false = true := by
  intro i
  induction i using Nat.strongRecOn with
  | _ i ih =>
    intro hi
    cases hg : listed.getD i false with
    | true => rfl
    | false =>
      exfalso
      have hmem : i ∈ Region.ready .any ops listed := by
        refine mem_ready.2 ⟨?_, ops[i], Array.getElem?_eq_getElem hi, fun e he hb => ?_⟩
        · rw [Array.getD_eq_getD_getElem?, Array.getElem?_eq_getElem (by omega)] at hg ⊢
          exact hg
        · have := backOk_at hok (Array.getElem?_eq_getElem hi) e he hb
          exact ih e.on this (by omega)
      rw [hr] at hmem
      cases hmem
theorem set_listed {listed : Array Bool} {i j : Nat} (hi : i < listed.size) : (listed.setIfInBounds i true).getD j false = true ↔ j = i ∨ listed.getD j false = true := by
  by_cases hji : j = i
  · subst hji
    simp [Array.getD_eq_getD_getElem?, hi]
  · simp only [Array.getD_eq_getD_getElem?, Array.getElem?_setIfInBounds, if_neg (Ne.symm hji), hji, false_or]
section
variable {ops : Array Oper} {Q : Exit → Act → World → Prop}
theorem wpAny_inv (hok : backOk ops = true) (I : Array Bool → Act → World → Prop)
    (hstep : ∀ i o listed a w, ops[i]? = some o → listed.size = ops.size → listed.getD i false = false → (∀ e ∈ o.after, Region.binds .any e = true → listed.getD e.on false = true) → I listed a w →
      ∀ K : Act → World → Prop, (∀ a' w', I (listed.setIfInBounds i true) a' w' → K a' w') → (if Region.wanted o (yielded ops a.tmps) = true then Oper.wp Try.prog o a w K Q else K (a.put o.dst undef) w))
    (hend : ∀ listed a w, listed.size = ops.size → (∀ i, i < ops.size → listed.getD i false = true) → I listed a w → Q .normal a w) :
    ∀ (fuel : Nat) (listed : Array Bool) (a : Act) (w : World), listed.size = ops.size → I listed a w → left_ listed ops.size ≤ fuel → wpAny Try.prog .any ops Q fuel listed a w := by
  have hfin : ∀ (listed : Array Bool) (a : Act) (w : World), listed.size = ops.size → I listed a w → Region.ready .any ops listed = [] → Q .normal a w := fun listed a w hs h hr =>
    hend listed a w hs (all_listed_back hok hs hr) h
  intro fuel
  induction fuel with
  | zero =>
    intro listed a w hs h hl
    have hr : Region.ready .any ops listed = [] := by
      cases hr : Region.ready .any ops listed with
      | nil => rfl
      | cons i rs =>
        exfalso
        have hm : i ∈ Region.ready .any ops listed := by rw [hr]; simp
        obtain ⟨h1, o, ho, _⟩ := mem_ready.1 hm
        have := left_step (Array.getElem?_eq_some_iff.1 ho).1 hs h1
        omega
    exact ⟨hr, hfin listed a w hs h hr⟩
  | succ fuel ih =>
    intro listed a w hs h hl
    refine ⟨hfin listed a w hs h, fun i hi => ?_⟩
    obtain ⟨h1, o, ho, hedges⟩ := mem_ready.1 hi
    have hlt : i < ops.size := (Array.getElem?_eq_some_iff.1 ho).1
    refine wpOp_step ho fun K' hK => hstep i o listed a w ho hs (getD_of (b := true) h1 false) hedges h K' fun a' w' h' => hK _ _ (ih _ _ _ (by simpa using hs) h' ?_)
    have := left_step hlt hs h1
    omega
end
/-- **A region whose order Go leaves open**: what each operation keeps, whichever comes when, holds behind it. -/
theorem wp_region_inv {Q : Exit → Act → World → Prop} {id : Nat} {l : List Oper} {a : Act} {w : World} (hm : Try.prog.follows .mixedOrders = true) (hok : backOk l.toArray = true) (I : Array Bool → Act → World → Prop)
    (h0 : I (Array.replicate l.length false) a w.drew)
    (hstep : ∀ i o listed a w, l.toArray[i]? = some o → listed.size = l.toArray.size → listed.getD i false = false → (∀ e ∈ o.after, Region.binds .any e = true → listed.getD e.on false = true) → I listed a w →
      ∀ K : Act → World → Prop, (∀ a' w', I (listed.setIfInBounds i true) a' w' → K a' w') → (if Region.wanted o (yielded l.toArray a.tmps) = true then Oper.wp Try.prog o a w K Q else K (a.put o.dst undef) w))
    (hend : ∀ listed a w, listed.size = l.toArray.size → (∀ i, i < l.toArray.size → listed.getD i false = true) → I listed a w → Q .normal a w) : (Code.region id l.toArray true).wp Try.prog Q a w := by
  refine wp_region_any hm (wpAny_inv hok I hstep hend _ _ _ _ (by simp) (by simpa using h0) ?_)
  unfold left_
  exact Nat.le_trans (List.length_filter_le _ _) (by simp)

theorem lay_eq {l : List Oper} {ds : List Nat} {a a' : Act} {N : Nat} (hN : a.tmps.size = N) (hsz : a'.tmps.size = N) (hdef : a'.defers = a.defers) (hds : dstsOk l ds = true) (hoth : ∀ (t : Nat), (∀ (i : Nat), (l.toArray[i]?).bind Oper.dst ≠ some t) → a'.tmps.getD t undef = a.tmps.getD t undef) :
    a' = { tmps := lay a.tmps ds fun t => a'.tmps.getD t undef, defers := a.defers } := by
  obtain ⟨ts, df⟩ := a'
  have hdef' : df = a.defers := hdef
  subst hdef'
  congr 1
  have hsz' : ts.size = N := hsz
  refine Array.ext_getElem? fun t => ?_
  rcases Nat.lt_or_ge t N with hlt | hge
  · by_cases htd : t ∈ ds
    · rw [lay_at ds _ _ t htd (by omega), Array.getD_eq_getD_getElem?, Array.getElem?_eq_getElem (by omega)]; rfl
    · rw [lay_other ds _ _ t htd]
      have := hoth t fun i hi => by
        have h1 := hds
        simp only [dstsOk, Bool.and_eq_true] at h1
        rw [List.getElem?_toArray] at hi
        cases hl : l[i]? with
        | none => rw [hl] at hi; cases hi
        | some o =>
          rw [hl] at hi
          have h2 := List.all_eq_true.1 h1.1 o (List.mem_of_getElem? hl)
          have h3 : o.dst = some t := hi
          rw [h3] at h2
          exact htd (by simpa using h2)
      have h2 : ts.getD t undef = a.tmps.getD t undef := this
      rw [Array.getD_eq_getD_getElem?, Array.getD_eq_getD_getElem?, Array.getElem?_eq_getElem (by omega), Array.getElem?_eq_getElem (by omega)] at h2
      rw [Array.getElem?_eq_getElem (by omega), Array.getElem?_eq_getElem (by omega)]
      exact congrArg some h2
  · rw [Array.getElem?_eq_none (by omega), Array.getElem?_eq_none (by rw [lay_size]; omega)]
section
variable (ops : Array Oper) (val : Nat → Value) (base : List Nat) (N : Nat) (J : World → Prop)
structure KInv (a0 : Act) (listed : Array Bool) (a : Act) (w : World) : Prop where
  tsize : a.tmps.size = N
  defers : a.defers = a0.defers
  base : ∀ t ∈ base, a.tmps.getD t undef = val t
  done : ∀ (i t : Nat), listed.getD i false = true → (ops[i]?).bind Oper.dst = some t → a.tmps.getD t undef = val t
  other : ∀ (t : Nat), (∀ (i : Nat), (ops[i]?).bind Oper.dst ≠ some t) → a.tmps.getD t undef = a0.tmps.getD t undef
  keeps : J w
section
variable {ops : Array Oper} {Q : Exit → Act → World → Prop} {F : Nat → Fact} {base : List Nat} {N : Nat}
/-- What holds on the way, ahead of the store (operation k) and behind it. -/
def SInv (ops : Array Oper) (F : Nat → Fact) (base : List Nat) (N k : Nat) (late : List Nat) (S : World → World) (a0 : Act) (w0 : World) (listed : Array Bool) (a : Act) (w : World) : Prop :=
  (listed.getD k false = false ∧ Inv ops F base N a0 w0 listed a w) ∨
  (listed.getD k false = true ∧ (listed.size = ops.size ∧ a.tmps.size = N ∧ a.defers = a0.defers ∧ (∀ t : Nat, (∀ i : Nat, (ops[i]?).bind Oper.dst ≠ some t) → a.tmps.getD t undef = a0.tmps.getD t undef)) ∧
    (∀ j, j < ops.size → j ≠ k → j ∉ late → listed.getD j false = true) ∧ (∀ (j t : Nat) (u : Value), listed.getD j false = true → (ops[j]?).bind Oper.dst = some t → F t = Fact.eq u → a.tmps.getD t undef = u) ∧ ∃ w2, Below w0.heap.size w0 w2 ∧ w = S w2)
/-- An operation that only handles values. -/
def Pure (ops : Array Oper) (F : Nat → Fact) (o : Oper) : Prop := o.guard = none ∧ ∃ (s d : Nat) (u v : Value) (e : Edge), e ∈ o.after ∧ Region.binds .any e = true ∧ (ops[e.on]?).bind Oper.dst = some s ∧ F s = Fact.eq u ∧ o.dst = some d ∧ F d = Fact.eq v ∧
  ∀ (a : Act) (w : World), a.eval (.tmp s) = u → (execOp a.eval o).run Try.prog w = .ok (.value v) w
theorem wp_region_store {id : Nat} {l : List Oper} {a : Act} {w : World} (hm : Try.prog.follows .mixedOrders = true) (F : Nat → Fact) (base : List Nat) (N : Nat) (ds : List Nat) (k : Nat) (so : Oper) (late : List Nat) (S : World → World) (hN : a.tmps.size = N) (hok : formOk l.toArray base N = true) (hback : backOk l.toArray = true) (hds : dstsOk l ds = true)
    (hk : l.toArray[k]? = some so) (hsd : so.dst = none) (hsg : so.guard = none) (hall0 : ((List.range l.toArray.size).all fun j => j == k || late.contains j || so.after.any fun e => e.on == j && Region.binds .any e) = true)
    (hbase : ∀ t ∈ base, (F t).holds (a.tmps.getD t undef) w) (hstep0 : ∀ o ∈ l.take k ++ l.drop (k + 1), Ob l.toArray Q F base N o) (hpure0 : ∀ i ∈ late, ∃ o, l.toArray[i]? = some o ∧ Pure l.toArray F o)
    (hstore : ∀ (b : Act) (v : World), Below w.heap.size w v → (∀ t ∈ base, (F t).holds (b.tmps.getD t undef) v) → (∀ e ∈ so.after, Region.binds .any e = true → ∀ t, (l.toArray[e.on]?).bind Oper.dst = some t → (F t).holds (b.tmps.getD t undef) v) → (execOp b.eval so).run Try.prog v = .ok .skip (S v))
    (hend : ∀ (v : Nat → Value) w2, (∀ t ∈ ds, ∀ u, F t = Fact.eq u → v t = u) → Below w.heap.size w w2 → Q .normal { tmps := lay a.tmps ds v, defers := a.defers } (S w2)) : (Code.region id l.toArray true).wp Try.prog Q a w := by
  have hall : ∀ j, j < l.toArray.size → j ≠ k → j ∉ late → ∃ e ∈ so.after, e.on = j ∧ Region.binds .any e = true := fun j hj hjk hjl => by
    have h1 := List.all_eq_true.1 hall0 j (List.mem_range.2 hj)
    simp only [Bool.or_eq_true, beq_iff_eq, List.contains_iff_mem] at h1
    rcases h1 with (h1 | h1) | h1
    · exact absurd h1 hjk
    · exact absurd h1 hjl
    · obtain ⟨e, he, h2⟩ := Array.any_eq_true'.1 h1
      simp only [Bool.and_eq_true, beq_iff_eq] at h2
      exact ⟨e, he, h2.1, h2.2⟩
  have hstep : ∀ i o, l.toArray[i]? = some o → i ≠ k → Ob l.toArray Q F base N o := fun i o ho hik => by
    refine hstep0 o ?_
    rw [List.getElem?_toArray] at ho
    rw [List.mem_append]
    rcases Nat.lt_or_ge i k with h1 | h1
    · refine .inl (List.mem_of_getElem? (i := i) ?_)
      rw [List.getElem?_take, if_pos h1, ho]
    · refine .inr (List.mem_of_getElem? (i := i - (k + 1)) ?_)
      rw [List.getElem?_drop, show k + 1 + (i - (k + 1)) = i by omega, ho]
  have hpure : ∀ i ∈ late, ∀ o, l.toArray[i]? = some o → Pure l.toArray F o := fun i hi o ho => by
    obtain ⟨o', h1, h2⟩ := hpure0 i hi
    obtain rfl := Option.some.inj (h1.symm.trans ho)
    exact h2
  have hks : k < l.toArray.size := (Array.getElem?_eq_some_iff.1 hk).1
  refine wp_region_inv hm hback (SInv l.toArray F base N k late S a w) (.inl ⟨?_, ?_⟩) (fun i o listed a' w' ho hs hi he h K hK => ?_) (fun listed a' w' hs hl h => ?_)
  · rw [Array.getD_eq_getD_getElem?, Array.getElem?_replicate]
    split <;> rfl
  · refine ⟨by simp, hN, rfl, fun t ht => (F t).stable _ _ _ (hbase t ht) (Below.refl _ _).drew, fun i t hi _ => ?_, fun _ _ => rfl, (Below.refl _ _).drew⟩
    rw [Array.getD_eq_getD_getElem?, Array.getElem?_replicate] at hi
    split at hi <;> cases hi
  · have hlt : i < listed.size := by rw [hs]; exact (Array.getElem?_eq_some_iff.1 ho).1
    rcases h with ⟨hkf, hinv⟩ | ⟨hkt, ⟨h1, h2, h3, h4⟩, hcl, hev, w2, hb2, rfl⟩
    · by_cases hik : i = k
      · subst hik
        obtain rfl : o = so := (Option.some.inj (hk.symm.trans ho)).symm
        rw [if_pos (by simp [Region.wanted, hsg])]
        have hr := hstore a' w' hinv.below hinv.base (fun e hem hbd t ht => hinv.done e.on t (he e hem hbd) ht)
        unfold Oper.wp
        rw [hr]
        show K (a'.put o.dst undef) _
        rw [hsd]
        refine hK _ _ (.inr ⟨(set_listed hlt).2 (.inl rfl), ⟨by simpa using hs, hinv.tsize, hinv.defers, hinv.other⟩, fun j hj hjk hjl => ?_, fun j t u hj hjt hF => ?_, w', hinv.below, rfl⟩)
        · obtain ⟨e, hem, rfl, hbd⟩ := hall j hj hjk hjl
          exact (set_listed hlt).2 (.inr (he e hem hbd))
        · have hj' := ((set_listed hlt).1 hj).resolve_left (fun e => by
            subst e
            rw [hk] at hjt
            have h5 : o.dst = some t := hjt
            rw [hsd] at h5
            cases h5)
          have h6 := hinv.done j t hj' hjt
          rw [hF] at h6
          exact h6
      · refine hstep i o ho hik a' w' K hinv.tsize hinv.base (fun e hem hbd t ht => hinv.done e.on t (he e hem hbd) ht) fun v w'' hbw hFv => hK _ _ (.inl ⟨?_, hinv.step hok ho hbw hFv⟩)
        simpa only [Array.getD_eq_getD_getElem?, Array.getElem?_setIfInBounds, if_neg hik] using hkf
    · have hik : i ≠ k := by rintro rfl; rw [hkt] at hi; cases hi
      have hil : i ∈ late := by
        rcases Classical.em (i ∈ late) with h | h
        · exact h
        · rw [hcl i (by rw [← hs]; exact hlt) hik h] at hi; cases hi
      obtain ⟨hg, s, d, u, v, e, hem, hbd, hes, hFs, hod, hFd, hrun⟩ := hpure i hil o ho
      have hsv : a'.eval (.tmp s) = u := hev e.on s u (he e hem hbd) hes hFs
      have hr := hrun a' (S w2) hsv
      obtain ⟨_, hform⟩ := formOk_at hok ho
      rw [if_pos (by simp [Region.wanted, hg])]
      unfold Oper.wp
      rw [hr]
      show K (a'.put o.dst v) _
      refine hK _ _ (.inr ⟨(set_listed hlt).2 (.inr hkt), ⟨by simpa using h1, ?_, ?_, fun t ht => ?_⟩, fun j hj hjk hjl => (set_listed hlt).2 (.inr (hcl j hj hjk hjl)), fun j t u' hj hjt hF => ?_, w2, hb2, rfl⟩)
      · cases o.dst <;> simpa [Act.put] using h2
      · cases o.dst <;> simpa [Act.put] using h3
      · rw [getD_put_other (fun e => ht i (by rw [ho]; exact e))]
        exact h4 t ht
      · by_cases hji : j = i
        · subst hji
          rw [ho] at hjt
          have hjt' : o.dst = some t := hjt
          obtain rfl : d = t := Option.some.inj (hod.symm.trans hjt')
          rw [hod, getD_put_same (by rw [h2]; exact (hform d hod).1)]
          have h7 := congrFun (congrFun (congrArg Fact.holds (hFd.symm.trans hF)) v) (S w2)
          exact cast h7 rfl
        · rw [getD_put_other (fun e => (hform t e).2.2 j hji hjt)]
          exact hev j t u' (((set_listed hlt).1 hj).resolve_left hji) hjt hF
  · rcases h with ⟨hkf, _⟩ | ⟨_, ⟨h1, h2, h3, hoth⟩, _, hev, w2, hb2, rfl⟩
    · rw [hl k hks] at hkf; cases hkf
    have hw : ∀ t ∈ ds, ∃ i, (l.toArray[i]?).bind Oper.dst = some t := fun t ht => by
      have h1 := hds
      simp only [dstsOk, Bool.and_eq_true] at h1
      have h2 := List.any_eq_true.1 (List.all_eq_true.1 h1.2 t ht)
      obtain ⟨o, ho, hd⟩ := h2
      obtain ⟨i, hi⟩ := List.getElem?_of_mem ho
      exact ⟨i, by rw [List.getElem?_toArray, hi]; exact (by simpa using hd)⟩
    have h := hend (fun t => a'.tmps.getD t undef) w2 (fun t ht u hF => by
      obtain ⟨i, hi⟩ := hw t ht
      have hlt : i < l.toArray.size := by
        rcases Nat.lt_or_ge i l.toArray.size with h5 | h5
        · exact h5
        · rw [Array.getElem?_eq_none h5] at hi; cases hi
      exact hev i t u (hl i hlt) hi hF) hb2
    have heq := lay_eq hN h2 h3 hds hoth
    rw [heq]
    exact h
theorem run_store3 {o : Oper} {s t B p q : Nat} {S : List UInt8} {x y z : Value} (ho : o.op = .store 33 (.tmp s) (.tmp t)) {b : Act} {w : World} (h1 : b.eval (.tmp s) = .pointer (some ⟨B, 0, none⟩)) (h2 : b.eval (.tmp t) = rs S p q) (hV : V3 w B x y z) :
    (execOp b.eval o).run Try.prog w = .ok .skip (((w.setCell ⟨B, 0, none⟩ (.string (bs S))).setCell ⟨B, 1, none⟩ (.int .i64 (p : Int))).setCell ⟨B, 2, none⟩ (.int .i64 (q : Int))) := by
  obtain ⟨lt, c0, c1, c2, f0, f1, f2⟩ := hV
  unfold rs at h2
  simp [execOp, ho, h1, h2]
  go_simp
end
end
end Go.Proofs.Ytclbdlbdnnhfmaa

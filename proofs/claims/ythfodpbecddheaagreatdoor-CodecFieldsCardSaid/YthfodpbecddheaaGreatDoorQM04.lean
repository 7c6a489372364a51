/-
  As the region whose first operations only add memory; the later ones may write slots that came in. No conditions beyond those that it names.
-/
import Derived.Test.YthfodpbecddheaaGreatDoorQM03
import Derived.Test.YthfodpbecddheaaGreatDoorRows
import Derived.WalkKit
import Derived.WalkSpells
import Derived.WalkLawsBesides
import Derived.Lib.Hide
import Derived.IntWalk
import Derived.BigQuiet
import Derived.Deep.QuietTactic
import Derived.Lib.Strings
import Derived.Laws.BitsAllLaws
import Derived.Laws.DeepNot64
import Derived.WalkSmall
import Derived.LoopTactic
import Derived.Maps.AppendAt
import Derived.Laws.IdiomStrings
import Derived.OwnWalk
import Derived.Test.YthfodpbecddheaaGreatDoorQM02
import Derived.Deep.DeepCutAuto
namespace Go.Proofs.YthfodpbecddheaaGreatDoor
open Go.RowKit
/-- The region's form: edges go back; each slot of the first n operations is written once, and none of those that came in. -/
def formOkN (n : Nat) (ops : Array Oper) (base : List Nat) (N : Nat) : Bool := (List.range ops.size).all fun i => match ops[i]? with
  | none => true
  | some o => (o.after.all fun e => !Region.binds .any e || decide (e.on < i)) && (decide (n ≤ i) || (match o.dst with
    | none => true
    | some t => decide (t < N) && !base.contains t && (List.range ops.size).all fun j => j == i || (ops[j]?).bind Oper.dst != some t))
section
variable {ops : Array Oper} {Q : Exit → Act → World → Prop} {F : Nat → Fact} {base : List Nat} {N : Nat} {D : List Nat}
theorem formOkN_back {n : Nat} (h : formOkN n ops base N = true) {i : Nat} {o : Oper} (ho : ops[i]? = some o) : ∀ e ∈ o.after, Region.binds .any e = true → e.on < i := by
  have hi : i < ops.size := (Array.getElem?_eq_some_iff.1 ho).1
  have h1 := List.all_eq_true.1 h i (List.mem_range.2 hi)
  simp only [ho, Bool.and_eq_true] at h1
  intro e he hb
  have := Array.all_eq_true_iff_forall_mem.1 h1.1 e he
  simpa [hb] using this
theorem formOkN_at {n : Nat} (h : formOkN n ops base N = true) {i : Nat} {o : Oper} (hin : i < n) (ho : ops[i]? = some o) :
    (∀ e ∈ o.after, Region.binds .any e = true → e.on < i) ∧ ∀ t, o.dst = some t → t < N ∧ t ∉ base ∧ ∀ j, j ≠ i → (ops[j]?).bind Oper.dst ≠ some t := by
  have hi : i < ops.size := (Array.getElem?_eq_some_iff.1 ho).1
  have h1 := List.all_eq_true.1 h i (List.mem_range.2 hi)
  simp only [ho, Bool.and_eq_true] at h1
  refine ⟨formOkN_back h ho, fun t ht => ?_⟩
  have h2 := h1.2
  rw [decide_eq_false (by omega), Bool.false_or, ht] at h2
  simp only [Bool.and_eq_true, decide_eq_true_eq, Bool.not_eq_true'] at h2
  refine ⟨h2.1.1, fun hm => ?_, fun j hj e => ?_⟩
  · have := h2.1.2
    rw [List.contains_iff_mem.2 hm] at this
    cases this
  · have hjs : j < ops.size := by
      rcases Nat.lt_or_ge j ops.size with h5 | h5
      · exact h5
      · rw [Array.getElem?_eq_none h5] at e; cases e
    have := List.all_eq_true.1 h2.2 j (List.mem_range.2 hjs)
    simp only [Bool.or_eq_true, beq_iff_eq, bne_iff_ne, ne_eq] at this
    rcases this with h5 | h5
    · exact hj h5
    · exact h5 e
theorem all_listedN {n : Nat} (hok : formOkN n ops base N = true) {listed : Array Bool} (hl : listed.size = ops.size) (hr : Region.ready .any ops listed = []) : ∀ i, i < ops.size → listed.getD i false = true := by
  intro i
  induction i using Nat.strongRecOn with
  | _ i ih =>
    intro hi
    cases hg : listed.getD i false with
    | true => rfl
    | false =>
      exfalso
      have hmem : i ∈ Region.ready .any ops listed := by
        refine mem_ready.2 ⟨?_, ops[i], Array.getElem?_eq_getElem hi, fun e he hb => ?_⟩
        · rw [Array.getD_eq_getD_getElem?, Array.getElem?_eq_getElem (by omega)] at hg ⊢
          exact hg
        · have := formOkN_back hok (Array.getElem?_eq_getElem hi) e he hb
          exact ih e.on this (by omega)
      rw [hr] at hmem
      cases hmem
theorem News.stepN {n : Nat} (hok : formOkN n ops base N = true) {g : Nat} {listed : Array Bool} {a : Act} {w w' : World} (h : News g D ops listed a w) (hs : listed.size = ops.size) (hN : a.tmps.size = N) (hg : g ≤ w.heap.size) {i : Nat} {o : Oper} (hin : i < n) (ho : ops[i]? = some o) {v : Value}
    (hb : Below w.heap.size w w') (hv : ∀ t ∈ D, o.dst = some t → v = .pointer (some ⟨w.heap.size, 0, none⟩) ∧ w.heap.size < w'.heap.size) : News g D ops (listed.setIfInBounds i true) (a.put o.dst v) w' := by
  have hlt : i < listed.size := by rw [hs]; exact (Array.getElem?_eq_some_iff.1 ho).1
  obtain ⟨_, hdst⟩ := formOkN_at hok hin ho
  have hval : ∀ s ∈ D, ∀ j, (listed.setIfInBounds i true).getD j false = true → (ops[j]?).bind Oper.dst = some s → (j = i ∧ o.dst = some s ∧ (a.put o.dst v).tmps.getD s undef = .pointer (some ⟨w.heap.size, 0, none⟩) ∧ w.heap.size < w'.heap.size) ∨
      (listed.getD j false = true ∧ (a.put o.dst v).tmps.getD s undef = a.tmps.getD s undef) := fun s hsD j hj hjs => by
    by_cases hji : j = i
    · subst hji
      rw [ho] at hjs
      have hjs' : o.dst = some s := hjs
      obtain ⟨h1, h2⟩ := hv s hsD hjs'
      refine .inl ⟨rfl, hjs', ?_, h2⟩
      rw [hjs', getD_put_same (by rw [hN]; exact (hdst s hjs').1)]
      exact h1
    · refine .inr ⟨((listed_set hlt).1 hj).resolve_left hji, ?_⟩
      exact getD_put_other fun e => (hdst s e).2.2 j hji hjs
  refine ⟨fun s hsD j hj hjs => ?_, fun s hsD t htD hne j k hj hjs hk hkt => ?_⟩
  · rcases hval s hsD j hj hjs with ⟨_, _, h1, h2⟩ | ⟨h1, h2⟩
    · exact ⟨_, h1, hg, h2⟩
    · obtain ⟨b, h3, h4, h5⟩ := h.1 s hsD j h1 hjs
      exact ⟨b, h2.trans h3, h4, Nat.lt_of_lt_of_le h5 hb.size⟩
  · rcases hval s hsD j hj hjs with ⟨rfl, h0, h1, _⟩ | ⟨h1, h2⟩
    · rcases hval t htD k hk hkt with ⟨rfl, h5, _, _⟩ | ⟨h5, h6⟩
      · rw [h0] at h5
        injection h5 with h5
        exact absurd h5 hne
      · obtain ⟨b, h7, _, h8⟩ := h.1 t htD k h5 hkt
        rw [h1, h6, h7]
        intro e
        injection e with e
        injection e with e
        injection e with e
        omega
    · rcases hval t htD k hk hkt with ⟨rfl, _, h5, _⟩ | ⟨h5, h6⟩
      · obtain ⟨b, h7, _, h8⟩ := h.1 s hsD j h1 hjs
        rw [h5, h2, h7]
        intro e
        injection e with e
        injection e with e
        injection e with e
        omega
      · rw [h2, h6]
        exact h.2 s hsD t htD hne j k h1 hjs h5 hkt
theorem wpAny_seqFirstN {n g : Nat} (hok : formOkN n ops base N = true) (hsq : seqC ops.toList n = true) (hn : n ≤ ops.size) {a0 : Act} {w0 : World} (hg : g = w0.heap.size) (hstep : ∀ i o, i < n → ops[i]? = some o → Obn ops Q F base N D o)
    (hend : ∀ listed a w, a.defers = a0.defers → a.tmps.size = N → (∀ t ∈ base, (F t).holds (a.tmps.getD t undef) w) → (∀ (i t : Nat), i < n → (ops[i]?).bind Oper.dst = some t → (F t).holds (a.tmps.getD t undef) w) →
      (∀ (t : Nat), (∀ (i : Nat), i < n → (ops[i]?).bind Oper.dst ≠ some t) → a.tmps.getD t undef = a0.tmps.getD t undef) → Below w0.heap.size w0 w → (∀ i, i < n → listed.getD i false = true) → News g D ops listed a w → wpList Tryz.prog ops Q (ops.toList.drop n) a w) :
    ∀ (fuel : Nat) (listed : Array Bool) (a : Act) (w : World), listed.size = ops.size → a.tmps.size = N → a.defers = a0.defers → (∀ t ∈ base, (F t).holds (a.tmps.getD t undef) w) →
      (∀ (i t : Nat), listed.getD i false = true → (ops[i]?).bind Oper.dst = some t → (F t).holds (a.tmps.getD t undef) w) → (∀ (t : Nat), (∀ (i : Nat), i < n → (ops[i]?).bind Oper.dst ≠ some t) → a.tmps.getD t undef = a0.tmps.getD t undef) →
      Below w0.heap.size w0 w → (∀ i, n ≤ i → i < ops.size → listed.getD i true = false) → Closed ops listed → News g D ops listed a w → left_ listed ops.size ≤ fuel → wpAny Tryz.prog .any ops Q fuel listed a w := by
  have hback : ∀ i o, ops[i]? = some o → ∀ e ∈ o.after, Region.binds .any e = true → e.on < i := fun i o ho => formOkN_back hok ho
  intro fuel
  induction fuel with
  | zero =>
    intro listed a w hs hN hd hb hdone hoth hbel hrest hcl hnew hl
    by_cases hall : ∀ i, i < n → listed.getD i false = true
    · refine wpAny_seqTail hsq hback (ops.size - n) 0 n listed a w (by omega) (Nat.le_refl _) hall hrest hs hcl (hend listed a w hd hN hb (fun i t hi ht => hdone i t (hall i hi) ht) hoth hbel hall hnew) ?_
      rcases Nat.lt_or_ge n ops.size with h | h
      · exfalso
        have := left_step h hs (hrest n (Nat.le_refl _) h)
        omega
      · omega
    · exfalso
      apply hall
      intro i hi
      cases hg' : listed.getD i false with
      | true => rfl
      | false =>
        exfalso
        have hg' : listed.getD i true = false := by
          rw [Array.getD_eq_getD_getElem?, Array.getElem?_eq_getElem (by omega)] at hg' ⊢
          exact hg'
        have := left_step (by omega : i < ops.size) hs hg'
        omega
  | succ fuel ih =>
    intro listed a w hs hN hd hb hdone hoth hbel hrest hcl hnew hl
    by_cases hall : ∀ i, i < n → listed.getD i false = true
    · refine wpAny_seqTail hsq hback (ops.size - n) (fuel + 1) n listed a w (by omega) (Nat.le_refl _) hall hrest hs hcl (hend listed a w hd hN hb (fun i t hi ht => hdone i t (hall i hi) ht) hoth hbel hall hnew) ?_
      refine Nat.le_trans ?_ hl
      unfold left_
      have e : ops.size - n = ((List.range' n (ops.size - n)).filter fun i => !listed.getD i true).length := by
        rw [List.filter_eq_self.2]
        · simp
        · intro i hi
          have := List.mem_range'.1 hi
          rw [hrest i (by omega) (by omega)]; rfl
      rw [e]
      refine List.Sublist.length_le (List.Sublist.filter _ ?_)
      rw [List.range_eq_range']
      have h5 : List.range' 0 ops.size = List.range' 0 n ++ List.range' n (ops.size - n) := by
        have := List.range'_append (s := 0) (m := n) (n := ops.size - n) (step := 1)
        simp only [Nat.zero_add, Nat.one_mul] at this
        rw [this, Nat.add_sub_of_le hn]
      rw [h5]
      exact List.sublist_append_right _ _
    · refine ⟨fun hr => ?_, fun i hi => ?_⟩
      · exfalso
        exact hall fun i hi => all_listedN hok hs hr i (by omega)
      · obtain ⟨h1, o, ho, hedges⟩ := mem_ready.1 hi
        have hil := (Array.getElem?_eq_some_iff.1 ho).1
        have hin : i < n := by
          rcases Nat.lt_or_ge i n with h | h
          · exact h
          · exact absurd (fun j hj => seqC_at hsq (fun j => listed.getD j false = true) (fun j o' ho' hj => hcl j o' ho' hj) ho h hedges j (by omega)) hall
        obtain ⟨_, hdst⟩ := formOkN_at hok hin ho
        refine wpOp_step ho fun K' hK => hstep i o hin ho a w K' hN hb (fun e he hb' t het => hdone e.on t (hedges e he hb') het) fun v w' hb' hF hv => hK _ _ ?_
        refine ih _ _ _ (by simpa using hs) ?_ ?_ (fun t ht => ?_) (fun j t hj hjt => ?_) (fun t ht => ?_) (upG hbel hb') (fun j hj1 hj2 => ?_) (hcl.set hs ho hedges) (hnew.stepN hok hs hN (by rw [hg]; exact hbel.size) hin ho hb' hv) ?_
        · cases o.dst <;> simpa [Act.put] using hN
        · cases o.dst <;> simpa [Act.put] using hd
        · rw [getD_put_other (fun e => (hdst t e).2.1 ht)]
          exact (F t).stable _ _ _ (hb t ht) hb'
        · by_cases hji : j = i
          · subst hji
            rw [ho] at hjt
            have hjt' : o.dst = some t := hjt
            rw [hjt', getD_put_same (by rw [hN]; exact (hdst t hjt').1)]
            exact hF t hjt'
          · have hl' : listed.getD j false = true := by
              simpa only [Array.getD_eq_getD_getElem?, Array.getElem?_setIfInBounds, if_neg (Ne.symm hji)] using hj
            rw [getD_put_other (fun e => (hdst t e).2.2 j hji hjt)]
            exact (F t).stable _ _ _ (hdone j t hl' hjt) hb'
        · rw [getD_put_other (fun e => ht i hin (by rw [ho]; exact e))]
          exact hoth t ht
        · simpa only [Array.getD_eq_getD_getElem?, Array.getElem?_setIfInBounds, if_neg (by omega : ¬ i = j)] using hrest j hj1 hj2
        · have := left_step hil hs h1
          omega
end
/-- **A region whose first n operations only add new memory, in any order, and whose others come behind**, and may write slots that came in. -/
theorem wp_region_seqN {Q : Exit → Act → World → Prop} {id : Nat} {l : List Oper} {a : Act} {w : World} (hm : Tryz.prog.follows .mixedOrders = true) (F : Nat → Fact) (base D : List Nat) (N n : Nat) (ds : List Nat) (hN : a.tmps.size = N) (hok : formOkN n l.toArray base N = true) (hsq : seqC l n = true) (hn : n ≤ l.length) (hds : dstsOk (l.take n) ds = true) (hD : (D.all fun d => ds.contains d) = true)
    (hbase : ∀ t ∈ base, (F t).holds (a.tmps.getD t undef) w) (hstep : ∀ o ∈ l.take n, Obn l.toArray Q F base N D o)
    (hend : ∀ (v : Nat → Value) w', (∀ t ∈ ds, (F t).holds (v t) w') → Below w.heap.size w w' → (∀ s ∈ D, ∃ b, v s = .pointer (some ⟨b, 0, none⟩) ∧ w.heap.size ≤ b ∧ b < w'.heap.size) → (∀ s ∈ D, ∀ t ∈ D, s ≠ t → v s ≠ v t) →
      wpList Tryz.prog l.toArray Q (l.drop n) { tmps := lay a.tmps ds v, defers := a.defers } w') : (Code.region id l.toArray true).wp Tryz.prog Q a w := by
  have hnone : ∀ i, (Array.replicate l.length false).getD i false = true → False := fun i hi => by
    rw [Array.getD_eq_getD_getElem?, Array.getElem?_replicate] at hi
    split at hi <;> simp at hi
  refine wp_region_any hm (wpAny_seqFirstN (a0 := a) (w0 := w) (n := n) (D := D) hok (by simpa using hsq) (by simpa using hn) rfl (fun i o hi ho => hstep o ?_) ?_ _ _ _ _ (by simp) hN rfl (fun t ht => ?_) (fun i t hi _ => (hnone i hi).elim) (fun _ _ => rfl) (Below.refl _ _).drew (fun i hi1 hi2 => ?_) (fun i _ _ hi => (hnone i hi).elim) ⟨fun _ _ i hi => (hnone i hi).elim, fun _ _ _ _ _ i _ hi => (hnone i hi).elim⟩ ?_)
  · rw [List.getElem?_toArray] at ho
    refine List.mem_of_getElem? (i := i) ?_
    rw [List.getElem?_take, if_pos hi, ho]
  · intro listed a' w' hdef hsz hbs hall hoth hbel hlst hnews
    have hw : ∀ t ∈ ds, ∃ i, i < n ∧ (l.toArray[i]?).bind Oper.dst = some t := fun t ht => by
      have h1 := hds
      simp only [dstsOk, Bool.and_eq_true] at h1
      obtain ⟨o, ho, hd⟩ := List.any_eq_true.1 (List.all_eq_true.1 h1.2 t ht)
      obtain ⟨i, hi⟩ := List.getElem?_of_mem ho
      have hlt : i < (l.take n).length := (List.getElem?_eq_some_iff.1 hi).1
      have hin : i < n := by rw [List.length_take] at hlt; omega
      rw [List.getElem?_take, if_pos hin] at hi
      exact ⟨i, hin, by rw [List.getElem?_toArray, hi]; exact (by simpa using hd)⟩
    have hDs : ∀ s ∈ D, s ∈ ds := fun s hs => List.contains_iff_mem.1 (List.all_eq_true.1 hD s hs)
    have h := hend (fun t => a'.tmps.getD t undef) w' (fun t ht => by
      obtain ⟨i, hin, hi⟩ := hw t ht
      exact hall i t hin hi) hbel (fun s hs => by
      obtain ⟨i, hin, hi⟩ := hw s (hDs s hs)
      exact hnews.1 s hs i (hlst i hin) hi) (fun s hs t ht hne => by
      obtain ⟨i, hin, hi⟩ := hw s (hDs s hs)
      obtain ⟨k, hkn, hk⟩ := hw t (hDs t ht)
      exact hnews.2 s hs t ht hne i k (hlst i hin) hi (hlst k hkn) hk)
    have heq : a' = { tmps := lay a.tmps ds fun t => a'.tmps.getD t undef, defers := a.defers } := by
      obtain ⟨ts, df⟩ := a'
      have hdef' : df = a.defers := hdef
      subst hdef'
      congr 1
      have hsz' : ts.size = N := hsz
      refine Array.ext_getElem? fun t => ?_
      rcases Nat.lt_or_ge t N with hlt | hge
      · by_cases htd : t ∈ ds
        · rw [lay_at ds _ _ t htd (by omega), Array.getD_eq_getD_getElem?, Array.getElem?_eq_getElem (by omega)]; rfl
        · rw [lay_other ds _ _ t htd]
          have := hoth t fun i hin hi => by
            have h1 := hds
            simp only [dstsOk, Bool.and_eq_true] at h1
            rw [List.getElem?_toArray] at hi
            cases hl : l[i]? with
            | none => rw [hl] at hi; cases hi
            | some o =>
              rw [hl] at hi
              have hm' : o ∈ l.take n := List.mem_of_getElem? (i := i) (by rw [List.getElem?_take, if_pos hin, hl])
              have h2 := List.all_eq_true.1 h1.1 o hm'
              have h3 : o.dst = some t := hi
              rw [h3] at h2
              exact htd (by simpa using h2)
          have h2 : ts.getD t undef = a.tmps.getD t undef := this
          rw [Array.getD_eq_getD_getElem?, Array.getD_eq_getD_getElem?, Array.getElem?_eq_getElem (by omega), Array.getElem?_eq_getElem (by omega)] at h2
          rw [Array.getElem?_eq_getElem (by omega), Array.getElem?_eq_getElem (by omega)]
          exact congrArg some h2
      · rw [Array.getElem?_eq_none (by omega), Array.getElem?_eq_none (by rw [lay_size]; omega)]
    rw [heq]
    exact h
  · exact (F t).stable _ _ _ (hbase t ht) (Below.refl _ _).drew
  · rw [Array.getD_eq_getD_getElem?, Array.getElem?_replicate, if_pos hi2]; rfl
  · unfold left_
    exact Nat.le_trans (List.length_filter_le _ _) (by simp)
end Go.Proofs.YthfodpbecddheaaGreatDoor
/-
  What a call leaves (Is, Iq, Ib, Cg); byte strings as lists. No conditions.
-/
namespace Go.Proofs.YthfodpbecddheaaGreatDoor
open Go.RowKit
/-- The call returns this value and leaves the world as it was. -/
def Is (v : Value) (w : World) (e : Ending) (w' : World) : Prop := e = .returned v ∧ w = w'
/-- The same, and it may have drawn. -/
def Iq (v : Value) (w : World) (e : Ending) (w' : World) : Prop := ∃ n : Nat, e = .returned v ∧ w' = w.drewN n
/-- The call returns this value, and memory only grows. -/
def Ib (v : Value) (w : World) (e : Ending) (w' : World) : Prop := e = .returned v ∧ Below w.heap.size w w'
theorem ret_is {k : IntKind} {a b : Int} {w : World} (h : a = b) : Is (.int k b) w (.returned (.int k a)) w := ⟨by rw [h], rfl⟩
theorem ret_bool {a b : Bool} {w : World} (h : a = b) : Is (.bool b) w (.returned (.bool a)) w := ⟨by rw [h], rfl⟩
theorem Below.next {w w1 w2 : World} (h : Below w.heap.size w w1) (k : Below w1.heap.size w1 w2) : Below w.heap.size w w2 := h.trans (k.mono h.size)
theorem below_drewN {B : Nat} {w w' : World} (h : Below B w w') (n : Nat) : Below B w (w'.drewN n) := ⟨h.os, h.tape, h.output, h.size, h.block⟩
theorem drewN_add (w : World) (a b : Nat) : (w.drewN a).drewN b = w.drewN (a + b) := by simp [World.drewN, Nat.add_assoc]
/-- A list of bytes as a string. -/
def bs (l : List UInt8) : ByteArray := ⟨l.toArray⟩
theorem bs_list (l : List UInt8) : (bs l).data.toList = l := rfl
theorem bs_size (l : List UInt8) : (bs l).size = l.length := rfl
theorem bs_of (s : ByteArray) : s = bs s.data.toList := by apply ByteArray.ext; simp [bs]
theorem bs_eq {s : ByteArray} {l : List UInt8} (h : s.data.toList = l) : s = bs l := by rw [← h]; exact bs_of s
theorem ext_list (s : ByteArray) (i j : Nat) : (s.extract i j).data.toList = (s.data.toList.take j).drop i := by
  rw [ByteArray.data_extract, Array.toList_extract, List.extract_eq_take_drop, List.drop_take]
theorem bs_drop (l : List UInt8) (k n : Nat) (h : l.length ≤ n) : (bs l).extract k n = bs (l.drop k) := by
  refine bs_eq ?_
  rw [ext_list, bs_list, List.take_of_length_le h]
theorem bs_take (l : List UInt8) (n : Nat) : (bs l).extract 0 n = bs (l.take n) := by
  refine bs_eq ?_
  rw [ext_list, bs_list, List.drop_zero]
theorem bs_slice (l : List UInt8) (i j : Nat) : (bs l).extract i j = bs ((l.take j).drop i) := by
  refine bs_eq ?_
  rw [ext_list, bs_list]
theorem bs_append (l m : List UInt8) : bs l ++ bs m = bs (l ++ m) := by
  apply ByteArray.ext
  simp [bs, ByteArray.data_append]
theorem bs_inj {l m : List UInt8} (h : bs l = bs m) : l = m := by rw [← bs_list l, h, bs_list]
theorem toList_bs (l : List UInt8) : (bs l).toList = l := by rw [ByteArray.toList_eq]; rfl
end Go.Proofs.YthfodpbecddheaaGreatDoor
/-
  Obligations of a region's operations, each slot's value told exactly, in memory that has only grown since W0. No conditions beyond those that each names.
-/
namespace Go.Proofs.YthfodpbecddheaaGreatDoor
open Go.RowKit
section
variable {ops : Array Oper} {Q : Exit → Act → World → Prop} {F : Nat → Fact} {base : List Nat} {N : Nat} {o : Oper} {W0 : World}
/-- The operation's guard is met. -/
def Gd (W0 : World) (ops : Array Oper) (F : Nat → Fact) (base : List Nat) (N : Nat) (o : Oper) : Prop :=
  o.guard = none ∨ ∃ (j d : Nat) (b : Bool), o.guard = some (j, b) ∧ (ops[j]?).bind Oper.dst = some d ∧ known ops base o d = true ∧ d < N ∧ F d = Fact.at_ W0 (.bool b)
theorem gd_wanted {a : Act} {w : World} (hN : a.tmps.size = N) (hf : ∀ t, known ops base o t = true → (F t).holds (a.tmps.getD t undef) w) (hg : Gd W0 ops F base N o) : Region.wanted o (yielded ops a.tmps) = true := by
  rcases hg with h | ⟨j, d, b, h, hd, hk, hlt, hF⟩
  · simp [Region.wanted, h]
  · have h1 := hf d hk
    rw [hF] at h1
    have h2 : a.tmps[d]? = some (.bool b) := by
      have : a.tmps.getD d undef = .bool b := h1.1
      rw [Array.getD_eq_getD_getElem?, Array.getElem?_eq_getElem (by omega)] at this
      rw [Array.getElem?_eq_getElem (by omega)]
      exact congrArg some this
    have h3 : ((ops[j]?).bind fun x => x.dst) = some d := hd
    simp [Region.wanted, h, yielded, h3, h2]
theorem at_val (hg : Gd W0 ops F base N o) (h : ∀ (a : Act) (w : World), (∀ t, known ops base o t = true → (F t).holds (a.tmps.getD t undef) w) →
    ∃ v w', (execOp a.eval o).run Tryz.prog w = .ok (.value v) w' ∧ Below w.heap.size w w' ∧ ∀ t, o.dst = some t → (F t).holds v w') : Ob ops Q F base N o := by
  intro a w K hN hb hp hK
  have hf := fun t (hk : known ops base o t = true) => known_fact hb hp hk
  rw [if_pos (gd_wanted hN hf hg)]
  obtain ⟨v, w', hr, hbw, hF⟩ := h a w hf
  unfold Oper.wp
  rw [hr]
  exact hK v w' hbw hF
theorem at_enter (hg : Gd W0 ops F base N o) (h : ∀ (a : Act) (w : World), (∀ t, known ops base o t = true → (F t).holds (a.tmps.getD t undef) w) →
    ∃ f args, (execOp a.eval o).run Tryz.prog w = .ok (.enter f args) w ∧ Calls Tryz.prog f args w fun e w' => ∃ v, e = .returned v ∧ Below w.heap.size w w' ∧ ∀ t, o.dst = some t → (F t).holds v w') : Ob ops Q F base N o := by
  intro a w K hN hb hp hK
  have hf := fun t (hk : known ops base o t = true) => known_fact hb hp hk
  rw [if_pos (gd_wanted hN hf hg)]
  obtain ⟨f, args, hr, hc⟩ := h a w hf
  unfold Oper.wp
  rw [hr]
  refine hc.mono ?_
  rintro e w' ⟨v, rfl, hbw, hF⟩
  exact hK v w' hbw hF
/-- An operation on one slot. -/
theorem at1 (t d : Nat) (u r : Value) (hd : o.dst = some d) (hg : Gd W0 ops F base N o) (hk : known ops base o t = true) (hv : F t = Fact.at_ W0 u) (hF : F d = Fact.at_ W0 r)
    (h : ∀ (a : Act) (w : World), Below W0.heap.size W0 w → a.eval (.tmp t) = u → (execOp a.eval o).run Tryz.prog w = .ok (.value r) w) : Ob ops Q F base N o :=
  at_val hg fun a w hf => by
    have h1 := hf t hk
    rw [hv] at h1
    exact ⟨r, w, h a w h1.2 h1.1, Below.refl _ _, fun s hs => by rw [hd] at hs; injection hs with hs; subst hs; rw [hF]; exact ⟨rfl, h1.2⟩⟩
/-- An operation on two slots. -/
theorem at2 (t s d : Nat) (u v r : Value) (hd : o.dst = some d) (hg : Gd W0 ops F base N o) (hk : known ops base o t = true) (hk2 : known ops base o s = true) (hv : F t = Fact.at_ W0 u) (hv2 : F s = Fact.at_ W0 v) (hF : F d = Fact.at_ W0 r)
    (h : ∀ (a : Act) (w : World), Below W0.heap.size W0 w → a.eval (.tmp t) = u → a.eval (.tmp s) = v → (execOp a.eval o).run Tryz.prog w = .ok (.value r) w) : Ob ops Q F base N o :=
  at_val hg fun a w hf => by
    have h1 := hf t hk
    rw [hv] at h1
    have h2 := hf s hk2
    rw [hv2] at h2
    exact ⟨r, w, h a w h1.2 h1.1 h2.1, Below.refl _ _, fun s hs => by rw [hd] at hs; injection hs with hs; subst hs; rw [hF]; exact ⟨rfl, h1.2⟩⟩
/-- A copy of a slot. -/
theorem atcopy (t d : Nat) (u : Value) (ho : o.op = .move (.tmp t) ∨ o.op = .assign (.tmp t)) (hd : o.dst = some d) (hg : Gd W0 ops F base N o) (hk : known ops base o t = true) (hv : F t = Fact.at_ W0 u) (hF : F d = Fact.at_ W0 u) : Ob ops Q F base N o :=
  at1 t d u u hd hg hk hv hF fun a w _ h => by
    have h' : a.eval (.tmp t) = u := h
    rcases ho with ho | ho <;> simp [execOp, ho, h']
theorem Ib.at_ {u : Value} {w : World} {e : Ending} {w' : World} (hb : Below W0.heap.size W0 w) (h : Ib u w e w') : ∃ v, e = .returned v ∧ Below w.heap.size w w' ∧ (Fact.at_ W0 u).holds v w' := ⟨u, h.1, h.2, rfl, upG hb h.2⟩
theorem atc2 (f : FuncId) (t s d : Nat) (u v r : Value) (tys : Array TypeId) (ho : o.op = .call { callee := .value (.func f), args := #[.tmp t, .tmp s], argTypes := tys }) (hd : o.dst = some d) (hg : Gd W0 ops F base N o) (hk : known ops base o t = true) (hk2 : known ops base o s = true) (hv : F t = Fact.at_ W0 u) (hv2 : F s = Fact.at_ W0 v) (hfn : fnOk f = true) (hF : F d = Fact.at_ W0 r)
    (hc : ∀ w, Below W0.heap.size W0 w → Calls Tryz.prog f #[u, v] w (Ib r w)) : Ob ops Q F base N o :=
  at_enter hg fun a w hf => by
    have h1 := hf t hk
    rw [hv] at h1
    have h2 := hf s hk2
    rw [hv2] at h2
    have h1' : a.tmps.getD t undef = u := h1.1
    have h2' : a.tmps.getD s undef = v := h2.1
    refine ⟨f, #[u, v], by rw [← h1', ← h2']; simpa [execOp, ho, resolve, Act.eval] using run_invoke hfn _ w, (hc w h1.2).mono fun e w' h => ?_⟩
    obtain ⟨v, h2, h3, h4⟩ := Ib.at_ h1.2 h
    exact ⟨v, h2, h3, fun s hs => by rw [hd] at hs; injection hs with hs; subst hs; rw [hF]; exact h4⟩
theorem atc3 (f : FuncId) (t s x d : Nat) (u v z r : Value) (tys : Array TypeId) (ho : o.op = .call { callee := .value (.func f), args := #[.tmp t, .tmp s, .tmp x], argTypes := tys }) (hd : o.dst = some d) (hg : Gd W0 ops F base N o) (hk : known ops base o t = true) (hk2 : known ops base o s = true) (hk3 : known ops base o x = true) (hv : F t = Fact.at_ W0 u) (hv2 : F s = Fact.at_ W0 v) (hv3 : F x = Fact.at_ W0 z) (hfn : fnOk f = true) (hF : F d = Fact.at_ W0 r)
    (hc : ∀ w, Below W0.heap.size W0 w → Calls Tryz.prog f #[u, v, z] w (Ib r w)) : Ob ops Q F base N o :=
  at_enter hg fun a w hf => by
    have h1 := hf t hk
    rw [hv] at h1
    have h2 := hf s hk2
    rw [hv2] at h2
    have h3 := hf x hk3
    rw [hv3] at h3
    have h1' : a.tmps.getD t undef = u := h1.1
    have h2' : a.tmps.getD s undef = v := h2.1
    have h3' : a.tmps.getD x undef = z := h3.1
    refine ⟨f, #[u, v, z], by rw [← h1', ← h2', ← h3']; simpa [execOp, ho, resolve, Act.eval] using run_invoke hfn _ w, (hc w h1.2).mono fun e w' h => ?_⟩
    obtain ⟨v, h2, h3, h4⟩ := Ib.at_ h1.2 h
    exact ⟨v, h2, h3, fun s hs => by rw [hd] at hs; injection hs with hs; subst hs; rw [hF]; exact h4⟩
end
end Go.Proofs.YthfodpbecddheaaGreatDoor
/-
  Bytes that are appended to a slice of the call's own, and a slice of bytes as a string. No conditions beyond those that each names.
-/
namespace Go.Proofs.YthfodpbecddheaaGreatDoor
open Go.RowKit
/-- Bytes as cells. -/
def bcells (l : List UInt8) : List Value := l.map fun b => .int .u8 (b.toNat : Int)
/-- The slice v owns the bytes l. -/
def Ow (B : Nat) (w : World) (v : Value) (l : List UInt8) : Prop := w.ownsRow B 5 1 v l.length (bcells l)
theorem Ow.nil (B : Nat) (w : World) : Ow B w (.slice none 0 0) [] := World.ownsRow_nil _ _ _ _
theorem bcells_snoc (l : List UInt8) (b : UInt8) : bcells (l ++ [b]) = bcells l ++ [.int .u8 (b.toNat : Int)] := by simp [bcells]
theorem Ow.other {B : Nat} {w w' : World} {v : Value} {l : List UInt8} (h : Ow B w v l) (hb : Below w.heap.size w w') : Ow B w' v l := by
  unfold Ow World.ownsRow at *
  refine ⟨h.1, ?_⟩
  rcases h.2 with h1 | ⟨g, cap, cur, h1, h2, h3, h4⟩
  · exact .inl h1
  · refine .inr ⟨g, cap, cur, h1, h2, ?_, h4⟩
    rw [hb.block g (Array.getElem?_eq_some_iff.1 h3).1]
    exact h3
theorem infoB : (Tryz.prog.info? 5).map (fun i => (i.zero, i.size, i.bytes)) = some (some (.int .u8 0), 1, 1) := by kernel_rfl
theorem one (w : World) (o : Obj) : Below w.heap.size w (w.alloc o) := (Below.refl _ _).alloc (Nat.le_refl _) o
theorem wpList_push {w : World} {ops : Array Oper} {rest : List Oper} {o : Oper} {a : Act} {Q : Exit → Act → World → Prop} (hgd : o.guard = none) (s x : Operand)
    (ho : o.op = .call { callee := .builtin .append, args := #[s, x], argTypes := #[143, 143] }) (B : Nat) (v : Value) (l : List UInt8) (b : UInt8) (ad : Addr) (d : Nat) (hs : a.eval s = v) (hx : a.eval x = .slice (some ad) 1 d)
    (hown : Ow B w v l) (hc : w.cell? ad = some (.int .u8 (b.toNat : Int))) (hm : l.length + 1 ≤ 140737488355328) (hB : B ≤ w.heap.size)
    (h : ∀ v' w', Ow B w' v' (l ++ [b]) → w.grownBy w' v.ownBlock → wpList Tryz.prog ops Q rest (a.put o.dst v') w') : wpList Tryz.prog ops Q (o :: rest) a w := by
  obtain ⟨i, hi, hz, hs5, hby⟩ := info_parts infoB
  refine wpList_append_own_at w hgd s x 143 ho B 5 i _ 1 1 Tryz.underlying143 hi hz hs5 hby rfl (by omega) v l.length (bcells l) hs hown ad 1 d [.int .u8 (b.toNat : Int)] hx rfl
    (by intro j u hj
        cases j with
        | zero => simp at hj; subst hj; rw [Addr.add_zero']; exact hc
        | succ j => simp at hj) (by simp [Value.oneCell']) (by simp only [maxLen]; omega) (by omega) hB ?_
  intro v' w' h1 h2 _ _
  refine h v' w' ?_ h2
  unfold Ow
  rw [bcells_snoc, List.length_append]
  exact h1
/-- An owned slice that isn't empty, as a string. -/
theorem Ow.str {B : Nat} {w : World} {v : Value} {l : List UInt8} (h : Ow B w v l) (h0 : l ≠ []) :
    (convert 143 9 v).run Tryz.prog w = .ok (.string (bs l)) w := by
  have h1 := h
  rcases h.2 with ⟨_, h2⟩ | ⟨g, cap, cur, hv, h2, h3, h4, h5, h6, h7⟩
  · exact absurd (List.eq_nil_of_length_eq_zero h2) h0
  · subst hv
    refine run_convert_bytes_back w 143 9 5 ⟨g, 0, none⟩ cap l Tryz.underlying143 Tryz.underlying5 Tryz.underlying9 fun j hj => ?_
    have := World.ownsRow.cellAt h1 j (by omega)
    rw [show (⟨g, 0, none⟩ : Addr).add j = ⟨g, j, none⟩ by simp [Addr.add]; exact Eq.symm, this]
    simp [bcells, List.getElem?_eq_getElem hj]
theorem of_toNat {n : Nat} (h : n < 256) : (UInt8.ofNat n).toNat = n := by rw [UInt8.toNat_ofNat']; exact Nat.mod_eq_of_lt h
end Go.Proofs.YthfodpbecddheaaGreatDoor
/-
  Contracts of the reference's byte classes, of names and of white space. No conditions but Go's own bounds of a string's length.
-/
namespace Go.Proofs.YthfodpbecddheaaGreatDoor
open Go.RowKit
theorem ret_bool2 {a b : Bool} {w : World} (h : a = true ↔ b = true) : Is (.bool b) w (.returned (.bool a)) w := ⟨by rw [Bool.eq_iff_iff.2 h], rfl⟩
theorem beq_nat (c d : UInt8) : (c == d) = ((c.toNat : Int) == (d.toNat : Int)) := by
  rw [Bool.eq_iff_iff]
  simp only [beq_iff_eq]
  exact ⟨fun h => by rw [h], fun h => UInt8.toNat_inj.1 (by omega)⟩
end Go.Proofs.YthfodpbecddheaaGreatDoor
/-
  The reference's names. No conditions but Go's own bounds of a string's length.
-/
namespace Go.Proofs.YthfodpbecddheaaGreatDoor
open Go.RowKit
theorem tw_at (p : UInt8 → Bool) (l : List UInt8) (j : Nat) (h : j < l.length) : ((l.drop j).takeWhile p).length = if p (l[j]'h) then ((l.drop (j + 1)).takeWhile p).length + 1 else 0 := by
  rw [List.drop_eq_getElem_cons h, List.takeWhile_cons]
  split <;> simp_all
theorem tw_le (p : UInt8 → Bool) (l : List UInt8) (j : Nat) : ((l.drop j).takeWhile p).length ≤ l.length - j := by
  have := (List.takeWhile_sublist p (l := l.drop j)).length_le
  rwa [List.length_drop] at this
def t3 (x : Nat × Nat × Nat) : Value := .tuple #[.int .i64 (x.1 : Int), .int .i64 (x.2.1 : Int), .int .i64 (x.2.2 : Int)]
end Go.Proofs.YthfodpbecddheaaGreatDoor
/-
  The reference's numbers. No conditions but Go's own bounds of a string's length.
-/
namespace Go.Proofs.YthfodpbecddheaaGreatDoor
open Go.RowKit
theorem isD_in {c : UInt8} (h : isD c = true) : 48 ≤ c.toNat ∧ c.toNat ≤ 57 := by
  unfold isD at h
  simpa using h
end Go.Proofs.YthfodpbecddheaaGreatDoor
/-
  The reference's strings. No conditions but Go's own bounds of a string's length.
-/
namespace Go.Proofs.YthfodpbecddheaaGreatDoor
open Go.RowKit
theorem qs_nil (i : Nat) (out : List UInt8) : qs [] i out = .error i := by rw [qs]
end Go.Proofs.YthfodpbecddheaaGreatDoor
/-
  The reference's number at a place. No conditions but Go's own bounds of a string's length.
-/
namespace Go.Proofs.YthfodpbecddheaaGreatDoor
open Go.RowKit
def t4 (x : Nat × Int × Nat × Nat) : Value := .tuple #[.int .i64 (x.1 : Int), .int .i64 x.2.1, .int .i64 (x.2.2.1 : Int), .int .i64 (x.2.2.2 : Int)]
end Go.Proofs.YthfodpbecddheaaGreatDoor
/-
  What the reference says of each class of tokens is what a scan says. No conditions.
-/
namespace Go.Proofs.YthfodpbecddheaaGreatDoor
theorem drop_head (l : List UInt8) (j k : Nat) : ((l.drop j).drop k).head? = l[j + k]? := by
  rw [List.drop_drop, List.head?_drop]
theorem tw_prefix (p : UInt8 → Bool) (l : List UInt8) (j : Nat) : (l.take (j + ((l.drop j).takeWhile p).length)).drop j = (l.drop j).takeWhile p := by
  rw [List.drop_take, Nat.add_sub_cancel_left]
  exact (List.prefix_iff_eq_take.1 (List.takeWhile_prefix p)).symm
theorem mark_tok {c : UInt8} (r : List UInt8) (hM : isM c = true) : tok c r = .ok (4, [c], 0, 1) := by
  obtain ⟨f1, f2, f3, f4, -⟩ := mark_facts c hM
  unfold tok
  rw [if_neg (by rw [f1]; decide), if_neg (by rw [f2, f3]; decide), if_neg f4, if_pos hM]
theorem no_tok {c : UInt8} (r : List UInt8) (hL : isL c = false) (hD : (isD c || c == 45) = false) (hq : c ≠ 34) (hM : isM c = false) : tok c r = .error (2, 0) := by
  unfold tok
  rw [if_neg (by rw [hL]; decide), if_neg (by rw [hD]; decide), if_neg hq, if_neg (by rw [hM]; decide)]
/-- A scan that has gone on to place j, with the tokens ts. -/
def At (l : List UInt8) (R : Except (Nat × Nat) (List Tk)) (j : Nat) (ts : List Tk) : Prop := (match sc (l.drop j) j with | .error x => .error x | .ok us => .ok (ts ++ us)) = R
theorem At.done {l : List UInt8} {R : Except (Nat × Nat) (List Tk)} {ts : List Tk} (h : At l R l.length ts) : R = .ok (ts ++ [⟨0, [], 0, l.length⟩]) := by
  unfold At at h
  rw [List.drop_length, sc_nil] at h
  exact h.symm
theorem At.next {l : List UInt8} {R : Except (Nat × Nat) (List Tk)} {j : Nat} {ts : List Tk} {c : UInt8} {r t : List UInt8} {kd k : Nat} {n : Int} (h : At l R j ts) (hd : l.drop j = c :: r) (ht : tok c r = .ok (kd, t, n, k)) (hk : 1 ≤ k) (hkl : j + k ≤ l.length) :
    At l R (l.length - (sk false (l.drop (j + k))).length) (ts ++ [⟨kd, t, n, j⟩]) ∧ j < l.length - (sk false (l.drop (j + k))).length := by
  have hlen : l.length - j = r.length + 1 := by rw [← List.length_drop, hd]; rfl
  have hr : r.drop (k - 1) = l.drop (j + k) := by
    have := congrArg (List.drop k) hd
    rw [List.drop_drop] at this
    rw [this]
    obtain ⟨m, rfl⟩ : ∃ m, k = m + 1 := ⟨k - 1, by omega⟩
    simp
  have h1 := sk_length false (l.drop (j + k))
  have h2 := sk_drop false (l.drop (j + k))
  rw [List.length_drop] at h1 h2
  have h3 : l.drop (l.length - (sk false (l.drop (j + k))).length) = sk false (l.drop (j + k)) := by
    conv => rhs; rw [h2, List.drop_drop]
    congr 1
    omega
  refine ⟨?_, by omega⟩
  unfold At at h ⊢
  rw [hd, sc_cons, ht] at h
  simp only at h
  rw [hr, show j + (r.length + 1 - (sk false (l.drop (j + k))).length) = l.length - (sk false (l.drop (j + k))).length by omega] at h
  rw [h3]
  cases hs : sc (sk false (l.drop (j + k))) (l.length - (sk false (l.drop (j + k))).length) with
  | error x => rw [hs] at h; exact h
  | ok us =>
    rw [hs] at h
    simp only at h ⊢
    rw [← h]
    simp
theorem At.start (l : List UInt8) (hl : l.length ≤ 4000) : At l (scan l) (l.length - (sk false l).length) [] := by
  have h1 := sk_length false l
  have h2 := sk_drop false l
  unfold At scan
  rw [if_neg (by omega), ← h2]
  cases sc (sk false l) (l.length - (sk false l).length) <;> rfl
end Go.Proofs.YthfodpbecddheaaGreatDoor
/-
  The reference's scan. No conditions but Go's own bounds of a string's length.
-/
namespace Go.Proofs.YthfodpbecddheaaGreatDoor
open Go.RowKit
/-- A token's cells. -/
def tc (t : Tk) : List Value := [.int .i64 (t.kind : Int), .string (bs t.text), .int .i64 t.num, .int .i64 (t.at_ : Int)]
def tcells (l : List Tk) : List Value := l.flatMap tc
/-- The slice v owns the tokens l. -/
def Ot (B : Nat) (w : World) (v : Value) (l : List Tk) : Prop := w.ownsRow B 199 4 v l.length (tcells l)
theorem Ot.nil (B : Nat) (w : World) : Ot B w (.slice none 0 0) [] := World.ownsRow_nil _ _ _ _
theorem Ot.other {B : Nat} {w w' : World} {v : Value} {l : List Tk} (h : Ot B w v l) (hb : Below w.heap.size w w') : Ot B w' v l := by
  unfold Ot World.ownsRow at *
  refine ⟨h.1, ?_⟩
  rcases h.2 with h1 | ⟨g, cap, cur, h1, h2, h3, h4⟩
  · exact .inl h1
  · refine .inr ⟨g, cap, cur, h1, h2, ?_, h4⟩
    rw [hb.block g (Array.getElem?_eq_some_iff.1 h3).1]
    exact h3
/-- What a scan leaves. -/
def ScanP (R : Except (Nat × Nat) (List Tk)) (w : World) (e : Ending) (w' : World) : Prop := Below w.heap.size w w' ∧ match R with
  | .error (x, p) => e = .returned (.tuple #[.slice none 0 0, .int .i64 (x : Int), .int .i64 (p : Int)])
  | .ok ts => ∃ v, e = .returned (.tuple #[v, .int .i64 0, .int .i64 0]) ∧ Ot w.heap.size w' v ts
theorem ScanP.ok {R : Except (Nat × Nat) (List Tk)} {w w' : World} {ts : List Tk} {v : Value} (h : R = .ok ts) (hb : Below w.heap.size w w') (ho : Ot w.heap.size w' v ts) : ScanP R w (.returned (.tuple #[v, .int .i64 0, .int .i64 0])) w' := by
  subst h
  exact ⟨hb, v, rfl, ho⟩
end Go.Proofs.YthfodpbecddheaaGreatDoor
/-
  The reference's printing of numbers and strings. No conditions but Go's own bounds.
-/
namespace Go.Proofs.YthfodpbecddheaaGreatDoor
open Go.RowKit
theorem dg_len (n : Nat) : ∀ k, n < 10 ^ (k + 1) → (dg n).length ≤ k + 1 := by
  induction n using Nat.strongRecOn with
  | _ n ih =>
    intro k h
    by_cases h10 : n < 10
    · rw [dg_small h10]; simp
    · rw [dg_big h10, List.length_append]
      cases k with
      | zero => simp at h; omega
      | succ k =>
        have := ih (n / 10) (by omega) k (by rw [Nat.pow_succ] at h; omega)
        simp; omega
end Go.Proofs.YthfodpbecddheaaGreatDoor
/-
  The reference's printing of a string's content, and what a token of a result is. No conditions but Go's own bounds.
-/
namespace Go.Proofs.YthfodpbecddheaaGreatDoor
open Go.RowKit
theorem esc_length (a : List UInt8) : (esc a).length ≤ 2 * a.length := by
  induction a with
  | nil => simp [esc]
  | cons c r ih => simp only [esc]; split <;> simp <;> omega
end Go.Proofs.YthfodpbecddheaaGreatDoor
/-
  The reference's Valid. No conditions but Go's own bounds.
-/
namespace Go.Proofs.YthfodpbecddheaaGreatDoor
open Go.RowKit
/-- A token as it comes in: its kind and its place are any numbers. -/
structure Tv where
  kind : Int
  text : List UInt8
  num : Int
  at_ : Int
/-- The token that it is; a kind below 0 is no token's kind, as 0 is none that can be printed. -/
def Tv.tk (t : Tv) : Tk := ⟨t.kind.toNat, t.text, t.num, t.at_.toNat⟩
theorem str_beq (q l : List UInt8) : ((bs q).toList == (bs l).toList) = (q == l) := by rw [toList_bs, toList_bs]
theorem grown1 {w : World} (o : Obj) : Below w.heap.size w (w.alloc o) := (Below.refl _ w).alloc (Nat.le_refl _) o
/-- One mark. -/
def oneM (t : List UInt8) : Bool := match t with | [c] => isM c | _ => false
theorem okT1 (t : List UInt8) (n a : Int) : okT (Tv.tk ⟨1, t, n, a⟩) = (isN t && n == 0) := rfl
theorem okT2 (t : List UInt8) (n a : Int) : okT (Tv.tk ⟨2, t, n, a⟩) = (t == []) := rfl
theorem okT3 (t : List UInt8) (n a : Int) : okT (Tv.tk ⟨3, t, n, a⟩) = ((t.all fun c => decide (32 ≤ c.toNat) && decide (c.toNat ≤ 126)) && decide (t.length ≤ 200) && n == 0) := rfl
theorem okT4 (t : List UInt8) (n a : Int) : okT (Tv.tk ⟨4, t, n, a⟩) = (oneM t && n == 0) := rfl
theorem okT0 (k : Int) (t : List UInt8) (n a : Int) (h1 : k ≠ 1) (h2 : k ≠ 2) (h3 : k ≠ 3) (h4 : k ≠ 4) : okT (Tv.tk ⟨k, t, n, a⟩) = false := by
  unfold okT Tv.tk
  rw [if_neg (show ¬ k.toNat = 1 by omega), if_neg (show ¬ k.toNat = 2 by omega), if_neg (show ¬ k.toNat = 3 by omega), if_neg (show ¬ k.toNat = 4 by omega)]
end Go.Proofs.YthfodpbecddheaaGreatDoor
/-
  The reference's Print. No conditions but Go's own bounds; at most 60 tokens.
-/
namespace Go.Proofs.YthfodpbecddheaaGreatDoor
open Go.RowKit
def Tv.ok (t : Tv) : Prop := t.text.length ≤ 9223372036854775807 ∧ -9223372036854775808 ≤ t.num ∧ t.num ≤ 9223372036854775807
theorem add_block (a : Addr) (i : Nat) : (a.add i).block = a.block := by unfold Addr.add; split <;> rfl
theorem dec_len (n : Int) (h1 : -9223372036854775808 ≤ n) (h2 : n ≤ 9223372036854775807) : (dec n).length ≤ 21 := by
  have := dg_len n.natAbs 19 (by omega)
  unfold dec
  split
  · simp; omega
  · omega
theorem quo_len (l : List UInt8) : (quo l).length ≤ 2 * l.length + 2 := by
  have := esc_length l
  simp [quo]
  omega
end Go.Proofs.YthfodpbecddheaaGreatDoor
/-
  The reference's scan of a text that is too long; lists of tokens in memory; Same. No conditions but Go's own bounds.
-/
namespace Go.Proofs.YthfodpbecddheaaGreatDoor
open Go.RowKit
/-- The elements of the slice at A are the tokens l. -/
def Tr (w : World) (A : Option Addr) (l : List Tk) : Prop := l.length = 0 ∨ ∃ a : Addr, A = some a ∧ a.block < w.heap.size ∧ ∀ i (h : i < l.length),
  w.cell? ((a.add (i * 4)).add 0) = some (.int .i64 ((l[i]'h).kind : Int)) ∧ w.cell? ((a.add (i * 4)).add 1) = some (.string (bs (l[i]'h).text)) ∧ w.cell? ((a.add (i * 4)).add 2) = some (.int .i64 (l[i]'h).num) ∧ w.cell? ((a.add (i * 4)).add 3) = some (.int .i64 ((l[i]'h).at_ : Int))
theorem Tr.next {w w' : World} {A : Option Addr} {l : List Tk} (h : Tr w A l) (hb : Below w.heap.size w w') : Tr w' A l := by
  rcases h with h | ⟨a, h1, h2, h3⟩
  · exact .inl h
  · refine .inr ⟨a, h1, by have := hb.size; omega, fun i hi => ?_⟩
    obtain ⟨c0, c1, c2, c3⟩ := h3 i hi
    have ad : ∀ j, ((a.add (i * 4)).add j).block < w.heap.size := fun j => by rw [add_block, add_block]; exact h2
    exact ⟨(hb.cell (ad 0)).trans c0, (hb.cell (ad 1)).trans c1, (hb.cell (ad 2)).trans c2, (hb.cell (ad 3)).trans c3⟩
theorem tcells_at (l : List Tk) (i j : Nat) (h : i < l.length) (hj : j < 4) : (tcells l)[i * 4 + j]? = (tc (l[i]'h))[j]? := by
  induction l generalizing i with
  | nil => simp at h
  | cons t l ih =>
    have e : tcells (t :: l) = tc t ++ tcells l := by simp [tcells]
    have h4 : (tc t).length = 4 := rfl
    rw [e]
    cases i with
    | zero => rw [List.getElem?_append_left (by omega)]; simp
    | succ i =>
      rw [List.getElem?_append_right (by omega), h4, show (i + 1) * 4 + j - 4 = i * 4 + j by omega]
      exact ih i (by simpa using h)
theorem plain_add (g o k : Nat) : (⟨g, o, none⟩ : Addr).add k = ⟨g, o + k, none⟩ := by
  by_cases h : k = 0
  · subst h; rfl
  · simp [Addr.add, h]
theorem Ot.tr {B : Nat} {w : World} {v : Value} {l : List Tk} (h : Ot B w v l) : ∃ A c, v = .slice A l.length c ∧ l.length ≤ 9223372036854775807 ∧ Tr w A l := by
  obtain ⟨h0, h⟩ := h
  rcases h with ⟨rfl, hn⟩ | ⟨g, cap, cur, rfl, hB, hg, h1, h2, h3, h4⟩
  · exact ⟨none, 0, by rw [hn], by omega, .inl hn⟩
  · refine ⟨_, _, rfl, by simp only [maxLen] at h2; omega, .inr ⟨_, rfl, (Array.getElem?_eq_some_iff.1 hg).1, fun i hi => ?_⟩⟩
    have key : ∀ j, j < 4 → w.cell? (((⟨g, 0, none⟩ : Addr).add (i * 4)).add j) = (tc (l[i]'hi))[j]? := fun j hj => by
      rw [← tcells_at l i j hi hj, ← h4, List.getElem?_take_of_lt (by omega)]
      rw [show ((⟨g, 0, none⟩ : Addr).add (i * 4)).add j = ⟨g, i * 4 + j, none⟩ by rw [plain_add, plain_add, Nat.zero_add]]
      simp [World.cell?, hg]
    exact ⟨key 0 (by decide), key 1 (by decide), key 2 (by decide), key 3 (by decide)⟩
end Go.Proofs.YthfodpbecddheaaGreatDoor
/-
  The reference's scanner: NewScanner, Peek, Next, Mark, Word. No conditions but Go's own bounds.
-/
namespace Go.Proofs.YthfodpbecddheaaGreatDoor
open Go.RowKit
/-- What NewScanner leaves. -/
def NewP (R : Except (Nat × Nat) (List Tk)) (w : World) (e : Ending) (w' : World) : Prop := Below w.heap.size w w' ∧ match R with
  | .error (x, p) => e = .returned (.tuple #[.agg #[.slice none 0 0, .int .i64 0], .int .i64 (x : Int), .int .i64 (p : Int)])
  | .ok ts => ∃ v, e = .returned (.tuple #[.agg #[v, .int .i64 0], .int .i64 0, .int .i64 0]) ∧ Ot w.heap.size w' v ts
theorem NewP.ok {R : Except (Nat × Nat) (List Tk)} {w w' : World} {ts : List Tk} {v : Value} (h : R = .ok ts) (hb : Below w.heap.size w w') (ho : Ot w.heap.size w' v ts) : NewP R w (.returned (.tuple #[.agg #[v, .int .i64 0], .int .i64 0, .int .i64 0])) w' := by
  subst h
  exact ⟨hb, v, rfl, ho⟩
/-- A scanner at block g: its tokens, and the place of the next one. -/
structure Sn (w : World) (g : Nat) (A : Option Addr) (c : Nat) (l : List Tk) (j : Nat) : Prop where
  lt : g < w.heap.size
  c0 : w.cell? ⟨g, 0, none⟩ = some (.slice A l.length c)
  c1 : w.cell? ⟨g, 1, none⟩ = some (.int .i64 (j : Int))
  f1 : w.frozen? ⟨g, 1, none⟩ = false
  ne : ∀ a, A = some a → a.block ≠ g
  tr : Tr w A l
theorem Sn.next {w w' : World} {g : Nat} {A : Option Addr} {c : Nat} {l : List Tk} {j : Nat} (h : Sn w g A c l j) (hb : Below w.heap.size w w') : Sn w' g A c l j :=
  ⟨Nat.lt_of_lt_of_le h.lt hb.size, (hb.cell h.lt).trans h.c0, (hb.cell h.lt).trans h.c1, (hb.frozen h.lt).trans h.f1, h.ne, h.tr.next hb⟩
/-- A token as a value. -/
def Tk.val (t : Tk) : Value := .agg #[.int .i64 (t.kind : Int), .string (bs t.text), .int .i64 t.num, .int .i64 (t.at_ : Int)]
/-- A variable of four cells at block b. -/
structure V4 (w : World) (b : Nat) (x y z u : Value) : Prop where
  lt : b < w.heap.size
  c0 : w.cell? ⟨b, 0, none⟩ = some x
  c1 : w.cell? ⟨b, 1, none⟩ = some y
  c2 : w.cell? ⟨b, 2, none⟩ = some z
  c3 : w.cell? ⟨b, 3, none⟩ = some u
  f0 : w.frozen? ⟨b, 0, none⟩ = false
  f1 : w.frozen? ⟨b, 1, none⟩ = false
  f2 : w.frozen? ⟨b, 2, none⟩ = false
  f3 : w.frozen? ⟨b, 3, none⟩ = false
theorem V4.next {w w' : World} {b : Nat} {x y z u : Value} (h : V4 w b x y z u) (hb : Below w.heap.size w w') : V4 w' b x y z u :=
  ⟨Nat.lt_of_lt_of_le h.lt hb.size, (hb.cell h.lt).trans h.c0, (hb.cell h.lt).trans h.c1, (hb.cell h.lt).trans h.c2, (hb.cell h.lt).trans h.c3, (hb.frozen h.lt).trans h.f0, (hb.frozen h.lt).trans h.f1, (hb.frozen h.lt).trans h.f2, (hb.frozen h.lt).trans h.f3⟩
theorem V4.new (w : World) (x y z u : Value) (t : TypeId) : V4 (w.alloc (Obj.cells #[x, y, z, u] t)) w.heap.size x y z u :=
  ⟨by simp, by simp, by simp, by simp, by simp, by simp, by simp, by simp, by simp⟩
end Go.Proofs.YthfodpbecddheaaGreatDoor


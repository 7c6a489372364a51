/-
  What a row's proof needs behind the walk: the law returned true and nothing that was there has changed. No conditions.
-/
import Derived.Test.YthfodpbecddheaaGreatDoorRows
import Derived.WalkKit
import Derived.ProofKit
import Derived.OpenShut
import Derived.Lay
import Derived.WalkSpells
import Derived.WalkLawsBesides
import Derived.Lib.Hide
import Derived.IntWalk
import Derived.BigQuiet
import Derived.Deep.QuietTactic
import Derived.Orders
import Derived.RegionTactic
namespace Go.Proofs.YthfodpbecddheaaGreatDoor
open Go.ChangeShapes Go.WideShapes Go.ChangeAt Go.RowKit
theorem post_true {H : Type} {enc : TypeId × Value → H} {f : Func} {s : ChangeSpec} {W W' : World} {args : Array Value} {ds : List (DataW H)} {before pa : List MemPlace} (hs : s.vars = []) (hrt : f.resultTypes = #[4])
    (hW : DataW.Whole enc Tryz.prog f.params.toList s.vars false W args.toList ds [] before) (hres : (s.fn H (ds ++ [])).results = [.lit (.bool true)]) (hvs : (s.fn H (ds ++ [])).vars = [])
    (hargs : DataW.TrodAll enc Tryz.prog W' 0 (fun b => decide (b < W.heap.size)) true f.params.toList args.toList (s.fn H (ds ++ [])).args pa) (hb : Below W.heap.size W W') :
    s.post enc Tryz.prog f false true false false W args (.bool true) W' := by
  refine ⟨ds, [], before, [], pa, [], hW, ?_, hargs, ?_, hb.frame _, fun h => by cases h⟩
  · rw [hres, hrt]
    exact trodAll_mk1 (shut_bool Tryz.underlying4 _)
  · rw [hs, hvs]
    rfl
end Go.Proofs.YthfodpbecddheaaGreatDoor
/-
  A law for a region whose order Go leaves open, where each operation only adds new memory: whatever the order, each slot meets its fact. No conditions beyond those that it names.
-/
namespace Go.Proofs.YthfodpbecddheaaGreatDoor
open Go.RowKit
theorem oneG (w : World) (o : Obj) : Below w.heap.size w (w.alloc o) := (Below.refl _ _).alloc (Nat.le_refl _) o
theorem upG {a w w1 : World} (h : Below a.heap.size a w) (hb : Below w.heap.size w w1) : Below a.heap.size a w1 := h.trans (hb.mono h.size)
/-- What is known of a slot's value, and goes on being true while memory only grows. -/
structure Fact where
  holds : Value → World → Prop
  stable : ∀ v w w', holds v w → Below w.heap.size w w' → holds v w'
def Fact.any : Fact := ⟨fun _ _ => True, fun _ _ _ _ _ => trivial⟩
def Fact.eq (u : Value) : Fact := ⟨fun v _ => v = u, fun _ _ _ h _ => h⟩
section
variable (ops : Array Oper) (Q : Exit → Act → World → Prop) (F : Nat → Fact) (base : List Nat) (N : Nat)
/-- The obligation of oneG operation. -/
def Ob (o : Oper) : Prop := ∀ (a : Act) (w : World) (K : Act → World → Prop), a.tmps.size = N → (∀ t ∈ base, (F t).holds (a.tmps.getD t undef) w) →
  (∀ e ∈ o.after, Region.binds .any e = true → ∀ t, (ops[e.on]?).bind Oper.dst = some t → (F t).holds (a.tmps.getD t undef) w) →
  (∀ v w', Below w.heap.size w w' → (∀ t, o.dst = some t → (F t).holds v w') → K (a.put o.dst v) w') →
  (if Region.wanted o (yielded ops a.tmps) = true then Oper.wp Tryz.prog o a w K Q else K (a.put o.dst undef) w)
/-- The region's form: edges go back, each slot is written once, and none of those that came in. -/
def formOk : Bool := (List.range ops.size).all fun i => match ops[i]? with
  | none => true
  | some o => (o.after.all fun e => !Region.binds .any e || decide (e.on < i)) && (match o.dst with
    | none => true
    | some t => decide (t < N) && !base.contains t && (List.range ops.size).all fun j => j == i || (ops[j]?).bind Oper.dst != some t)
/-- What holds on the way. -/
structure Inv (a0 : Act) (w0 : World) (listed : Array Bool) (a : Act) (w : World) : Prop where
  lsize : listed.size = ops.size
  tsize : a.tmps.size = N
  defers : a.defers = a0.defers
  base : ∀ t ∈ base, (F t).holds (a.tmps.getD t undef) w
  done : ∀ (i t : Nat), listed.getD i false = true → (ops[i]?).bind Oper.dst = some t → (F t).holds (a.tmps.getD t undef) w
  other : ∀ (t : Nat), (∀ (i : Nat), (ops[i]?).bind Oper.dst ≠ some t) → a.tmps.getD t undef = a0.tmps.getD t undef
  below : Below w0.heap.size w0 w
end
section
variable {ops : Array Oper} {Q : Exit → Act → World → Prop} {F : Nat → Fact} {base : List Nat} {N : Nat}
theorem formOk_at (h : formOk ops base N = true) {i : Nat} {o : Oper} (ho : ops[i]? = some o) :
    (∀ e ∈ o.after, Region.binds .any e = true → e.on < i) ∧ ∀ t, o.dst = some t → t < N ∧ t ∉ base ∧ ∀ j, j ≠ i → (ops[j]?).bind Oper.dst ≠ some t := by
  have hi : i < ops.size := (Array.getElem?_eq_some_iff.1 ho).1
  have h1 := List.all_eq_true.1 h i (List.mem_range.2 hi)
  simp only [ho, Bool.and_eq_true] at h1
  refine ⟨fun e he hb => ?_, fun t ht => ?_⟩
  · have := Array.all_eq_true_iff_forall_mem.1 h1.1 e he
    simpa [hb] using this
  · have h2 := h1.2
    rw [ht] at h2
    simp only [Bool.and_eq_true, decide_eq_true_eq, Bool.not_eq_true'] at h2
    refine ⟨h2.1.1, fun hm => ?_, fun j hj e => ?_⟩
    · have := h2.1.2
      rw [List.contains_iff_mem.2 hm] at this
      cases this
    · have hjs : j < ops.size := by
        rcases Nat.lt_or_ge j ops.size with h5 | h5
        · exact h5
        · rw [Array.getElem?_eq_none h5] at e; cases e
      have := List.all_eq_true.1 h2.2 j (List.mem_range.2 hjs)
      simp only [Bool.or_eq_true, beq_iff_eq, bne_iff_ne, ne_eq] at this
      rcases this with h5 | h5
      · exact hj h5
      · exact h5 e
theorem getD_put_same {a : Act} {t : Nat} {v : Value} (h : t < a.tmps.size) : (a.put (some t) v).tmps.getD t undef = v := by
  simp [Act.put, Array.getD, h]
theorem getD_put_other {a : Act} {d : Option Nat} {t : Nat} {v : Value} (h : d ≠ some t) : (a.put d v).tmps.getD t undef = a.tmps.getD t undef := by
  cases d with
  | none => rfl
  | some s =>
    have : s ≠ t := fun e => h (by rw [e])
    simp only [Act.put, Array.getD_eq_getD_getElem?, Array.getElem?_setIfInBounds, if_neg this]
theorem Inv.step (hok : formOk ops base N = true) {a0 : Act} {w0 : World} {listed : Array Bool} {a : Act} {w w' : World} (h : Inv ops F base N a0 w0 listed a w) {i : Nat} {o : Oper} (ho : ops[i]? = some o) {v : Value}
    (hb : Below w.heap.size w w') (hF : ∀ t, o.dst = some t → (F t).holds v w') : Inv ops F base N a0 w0 (listed.setIfInBounds i true) (a.put o.dst v) w' := by
  obtain ⟨_, hd⟩ := formOk_at hok ho
  refine ⟨by simpa using h.lsize, ?_, ?_, fun t ht => ?_, fun j t hj hjt => ?_, fun t ht => ?_, upG h.below hb⟩
  · cases o.dst <;> simpa [Act.put] using h.tsize
  · cases o.dst <;> simpa [Act.put] using h.defers
  · rw [getD_put_other (fun e => (hd t e).2.1 ht)]
    exact (F t).stable _ _ _ (h.base t ht) hb
  · by_cases hji : j = i
    · subst hji
      rw [ho] at hjt
      have hjt' : o.dst = some t := hjt
      rw [hjt', getD_put_same (by rw [h.tsize]; exact (hd t hjt').1)]
      exact hF t hjt'
    · have hl : listed.getD j false = true := by
        simpa only [Array.getD_eq_getD_getElem?, Array.getElem?_setIfInBounds, if_neg (Ne.symm hji)] using hj
      rw [getD_put_other (fun e => (hd t e).2.2 j hji hjt)]
      exact (F t).stable _ _ _ (h.done j t hl hjt) hb
  · rw [getD_put_other (fun e => ht i (by rw [ho]; exact e))]
    exact h.other t ht
theorem all_listed (hok : formOk ops base N = true) {listed : Array Bool} (hl : listed.size = ops.size) (hr : Region.ready .any ops listed = []) : ∀ i, i < ops.size → listed.getD i false = true := by
  intro i
  induction i using Nat.strongRecOn with
  | _ i ih =>
    intro hi
    cases hg : listed.getD i false with
    | true => rfl
    | false =>
      exfalso
      have hmem : i ∈ Region.ready .any ops listed := by
        refine mem_ready.2 ⟨?_, ops[i], Array.getElem?_eq_getElem hi, fun e he hb => ?_⟩
        · rw [Array.getD_eq_getD_getElem?, Array.getElem?_eq_getElem (by omega)] at hg ⊢
          exact hg
        · have := (formOk_at hok (Array.getElem?_eq_getElem hi)).1 e he hb
          exact ih e.on this (by omega)
      rw [hr] at hmem
      cases hmem
/-- How many operations have not come upG yet. -/
def left_ (listed : Array Bool) (n : Nat) : Nat := ((List.range n).filter fun i => !listed.getD i true).length
theorem left_step {listed : Array Bool} {n i : Nat} (hi : i < n) (hs : listed.size = n) (h : listed.getD i true = false) : left_ (listed.setIfInBounds i true) n + 1 ≤ left_ listed n := by
  unfold left_
  have key : ∀ l : List Nat, l.Nodup → (∀ j ∈ l, j < n) → (i ∈ l → ((l.filter fun j => !(listed.setIfInBounds i true).getD j true).length + 1 = (l.filter fun j => !listed.getD j true).length)) ∧
      (i ∉ l → ((l.filter fun j => !(listed.setIfInBounds i true).getD j true).length = (l.filter fun j => !listed.getD j true).length)) := by
    intro l
    induction l with
    | nil => intro _ _; exact ⟨(fun h => by cases h), fun _ => rfl⟩
    | cons j l ih =>
      intro hnd hlt
      obtain ⟨hj, hnd⟩ := List.nodup_cons.1 hnd
      obtain ⟨ih1, ih2⟩ := ih hnd (fun k hk => hlt k (by simp [hk]))
      have hjn := hlt j (by simp)
      by_cases hji : j = i
      · subst hji
        have e1 : (listed.setIfInBounds j true).getD j true = true := by simp [Array.getD_eq_getD_getElem?, hs, hjn]
        refine ⟨fun _ => ?_, fun hno => absurd (by simp) hno⟩
        simp only [List.filter_cons, e1, h, Bool.not_true, Bool.not_false, if_true, List.length_cons]
        have := ih2 hj
        simp only [Bool.false_eq_true, if_false]
        omega
      · have e1 : (listed.setIfInBounds i true).getD j true = listed.getD j true := by
          simp only [Array.getD_eq_getD_getElem?, Array.getElem?_setIfInBounds, if_neg (Ne.symm hji)]
        refine ⟨fun hm => ?_, fun hno => ?_⟩
        · have := ih1 (by rcases List.mem_cons.1 hm with h5 | h5; exact absurd h5.symm hji; exact h5)
          simp only [List.filter_cons, e1]
          split <;> (try simp only [List.length_cons]) <;> omega
        · have := ih2 (fun h5 => hno (by simp [h5]))
          simp only [List.filter_cons, e1]
          split <;> (try simp only [List.length_cons]) <;> omega
  have := (key (List.range n) List.nodup_range (fun j hj => List.mem_range.1 hj)).1 (List.mem_range.2 hi)
  omega
theorem wpAny_stable (hok : formOk ops base N = true) {a0 : Act} {w0 : World} (hstep : ∀ o ∈ ops.toList, Ob ops Q F base N o)
    (hend : ∀ a w, a.defers = a0.defers → a.tmps.size = N → (∀ t ∈ base, (F t).holds (a.tmps.getD t undef) w) → (∀ (i t : Nat), (ops[i]?).bind Oper.dst = some t → (F t).holds (a.tmps.getD t undef) w) →
      (∀ (t : Nat), (∀ (i : Nat), (ops[i]?).bind Oper.dst ≠ some t) → a.tmps.getD t undef = a0.tmps.getD t undef) → Below w0.heap.size w0 w → Q .normal a w) :
    ∀ (fuel : Nat) (listed : Array Bool) (a : Act) (w : World), Inv ops F base N a0 w0 listed a w → left_ listed ops.size ≤ fuel → wpAny Tryz.prog .any ops Q fuel listed a w := by
  have hfin : ∀ (listed : Array Bool) (a : Act) (w : World), Inv ops F base N a0 w0 listed a w → Region.ready .any ops listed = [] → Q .normal a w := fun listed a w h hr =>
    hend a w h.defers h.tsize h.base (fun i t hit => h.done i t (all_listed hok h.lsize hr i (by
      rcases Nat.lt_or_ge i ops.size with h5 | h5
      · exact h5
      · rw [Array.getElem?_eq_none h5] at hit; cases hit)) hit) h.other h.below
  intro fuel
  induction fuel with
  | zero =>
    intro listed a w h hl
    have hr : Region.ready .any ops listed = [] := by
      cases hr : Region.ready .any ops listed with
      | nil => rfl
      | cons i rs =>
        exfalso
        have hm : i ∈ Region.ready .any ops listed := by rw [hr]; simp
        obtain ⟨h1, o, ho, _⟩ := mem_ready.1 hm
        have := left_step (Array.getElem?_eq_some_iff.1 ho).1 h.lsize h1
        omega
    exact ⟨hr, hfin listed a w h hr⟩
  | succ fuel ih =>
    intro listed a w h hl
    refine ⟨hfin listed a w h, fun i hi => ?_⟩
    obtain ⟨h1, o, ho, hedges⟩ := mem_ready.1 hi
    have hlt : i < ops.size := (Array.getElem?_eq_some_iff.1 ho).1
    have hmem : o ∈ ops.toList := by
      have := (Array.getElem?_eq_some_iff.1 ho).2
      rw [← this]; simp
    refine wpOp_step ho fun K' hK => hstep o hmem a w K' h.tsize h.base (fun e he hb t het => h.done e.on t (hedges e he hb) het) fun v w' hb hF => hK _ _ (ih _ _ _ (h.step hok ho hb hF) ?_)
    have := left_step hlt h.lsize h1
    omega
/-- **A region that only adds new memory, whatever its order.** -/
theorem wp_region_stable {id : Nat} {l : List Oper} {a : Act} {w : World} (hm : Tryz.prog.follows .mixedOrders = true) (F : Nat → Fact) (base : List Nat) (N : Nat) (hN : a.tmps.size = N) (hok : formOk l.toArray base N = true)
    (hbase : ∀ t ∈ base, (F t).holds (a.tmps.getD t undef) w) (hstep : ∀ o ∈ l, Ob l.toArray Q F base N o)
    (hend : ∀ a' w', a'.defers = a.defers → a'.tmps.size = N → (∀ t ∈ base, (F t).holds (a'.tmps.getD t undef) w') → (∀ (i t : Nat), (l.toArray[i]?).bind Oper.dst = some t → (F t).holds (a'.tmps.getD t undef) w') →
      (∀ (t : Nat), (∀ (i : Nat), (l.toArray[i]?).bind Oper.dst ≠ some t) → a'.tmps.getD t undef = a.tmps.getD t undef) → Below w.heap.size w w' → Q .normal a' w') : (Code.region id l.toArray true).wp Tryz.prog Q a w := by
  refine wp_region_any hm (wpAny_stable (a0 := a) (w0 := w) hok (by simpa using hstep) hend _ _ _ _ ⟨by simp, hN, rfl, fun t ht => ?_, fun i t hi _ => ?_, fun _ _ => rfl, (Below.refl _ _).drew⟩ ?_)
  · exact (F t).stable _ _ _ (hbase t ht) (Below.refl _ _).drew
  · rw [Array.getD_eq_getD_getElem?, Array.getElem?_replicate] at hi
    split at hi <;> simp at hi
  · unfold left_
    exact Nat.le_trans (List.length_filter_le _ _) (by simp)
end
/-- The values of a region's slots, laid into the act. -/
def lay (ts : Array Value) (ds : List Nat) (v : Nat → Value) : Array Value := ds.foldl (fun ts d => ts.setIfInBounds d (v d)) ts
theorem lay_size (ds : List Nat) : ∀ (ts : Array Value) (v : Nat → Value), (lay ts ds v).size = ts.size := by
  induction ds with
  | nil => intro ts v; rfl
  | cons d ds ih => intro ts v; exact (ih _ v).trans (by simp)
theorem lay_other (ds : List Nat) : ∀ (ts : Array Value) (v : Nat → Value) (t : Nat), t ∉ ds → (lay ts ds v)[t]? = ts[t]? := by
  induction ds with
  | nil => intro ts v t _; rfl
  | cons d ds ih =>
    intro ts v t ht
    simp only [List.mem_cons, not_or] at ht
    exact (ih _ v t ht.2).trans (by rw [Array.getElem?_setIfInBounds, if_neg (Ne.symm ht.1)])
theorem lay_at (ds : List Nat) : ∀ (ts : Array Value) (v : Nat → Value) (t : Nat), t ∈ ds → t < ts.size → (lay ts ds v)[t]? = some (v t) := by
  induction ds with
  | nil => intro ts v t h; cases h
  | cons d ds ih =>
    intro ts v t ht hs
    by_cases hm : t ∈ ds
    · exact ih _ v t hm (by simpa using hs)
    · have htd : t = d := by
        rcases List.mem_cons.1 ht with h | h
        · exact h
        · exact absurd h hm
      subst htd
      exact (lay_other ds _ v t hm).trans (by rw [Array.getElem?_setIfInBounds, if_pos rfl, if_pos hs])
/-- Whether ds are the slots that the operations write. -/
def dstsOk (l : List Oper) (ds : List Nat) : Bool := (l.all fun o => match o.dst with | some t => ds.contains t | none => true) && ds.all fun d => l.any fun o => o.dst == some d
/-- **A region that only adds new memory, whatever its order**, and what comes behind it. -/
theorem wp_region_on {Q : Exit → Act → World → Prop} {id : Nat} {l : List Oper} {a : Act} {w : World} (hm : Tryz.prog.follows .mixedOrders = true) (F : Nat → Fact) (base : List Nat) (N : Nat) (ds : List Nat) (hN : a.tmps.size = N) (hok : formOk l.toArray base N = true) (hds : dstsOk l ds = true)
    (hbase : ∀ t ∈ base, (F t).holds (a.tmps.getD t undef) w) (hstep : ∀ o ∈ l, Ob l.toArray Q F base N o)
    (hend : ∀ (v : Nat → Value) w', (∀ t ∈ ds, (F t).holds (v t) w') → Below w.heap.size w w' → Q .normal { tmps := lay a.tmps ds v, defers := a.defers } w') : (Code.region id l.toArray true).wp Tryz.prog Q a w := by
  refine wp_region_stable hm F base N hN hok hbase hstep fun a' w' hdef hsz hbs hall hoth hbel => ?_
  have hw : ∀ t ∈ ds, ∃ i, (l.toArray[i]?).bind Oper.dst = some t := fun t ht => by
    have h1 := hds
    simp only [dstsOk, Bool.and_eq_true] at h1
    have h2 := List.any_eq_true.1 (List.all_eq_true.1 h1.2 t ht)
    obtain ⟨o, ho, hd⟩ := h2
    obtain ⟨i, hi⟩ := List.getElem?_of_mem ho
    exact ⟨i, by rw [List.getElem?_toArray, hi]; exact (by simpa using hd)⟩
  have h := hend (fun t => a'.tmps.getD t undef) w' (fun t ht => by
    obtain ⟨i, hi⟩ := hw t ht
    exact hall i t hi) hbel
  have heq : a' = { tmps := lay a.tmps ds fun t => a'.tmps.getD t undef, defers := a.defers } := by
    obtain ⟨ts, df⟩ := a'
    have hdef' : df = a.defers := hdef
    subst hdef'
    congr 1
    have hsz' : ts.size = N := hsz
    refine Array.ext_getElem? fun t => ?_
    rcases Nat.lt_or_ge t N with hlt | hge
    · by_cases htd : t ∈ ds
      · rw [lay_at ds _ _ t htd (by omega), Array.getD_eq_getD_getElem?, Array.getElem?_eq_getElem (by omega)]; rfl
      · rw [lay_other ds _ _ t htd]
        have := hoth t fun i hi => by
          have h1 := hds
          simp only [dstsOk, Bool.and_eq_true] at h1
          rw [List.getElem?_toArray] at hi
          cases hl : l[i]? with
          | none => rw [hl] at hi; cases hi
          | some o =>
            rw [hl] at hi
            have h2 := List.all_eq_true.1 h1.1 o (List.mem_of_getElem? hl)
            have h3 : o.dst = some t := hi
            rw [h3] at h2
            exact htd (by simpa using h2)
        have h2 : ts.getD t undef = a.tmps.getD t undef := this
        rw [Array.getD_eq_getD_getElem?, Array.getD_eq_getD_getElem?, Array.getElem?_eq_getElem (by omega), Array.getElem?_eq_getElem (by omega)] at h2
        rw [Array.getElem?_eq_getElem (by omega), Array.getElem?_eq_getElem (by omega)]
        exact congrArg some h2
    · rw [Array.getElem?_eq_none (by omega), Array.getElem?_eq_none (by rw [lay_size]; omega)]
  rw [heq]
  exact h
end Go.Proofs.YthfodpbecddheaaGreatDoor
/-
  The obligations of single operations in a region that only adds memory. No conditions beyond those that each names.
-/
namespace Go.Proofs.YthfodpbecddheaaGreatDoor
open Go.RowKit
/-- The slot t came in, or is written by an operation that this oneG waits for. -/
def known (ops : Array Oper) (base : List Nat) (o : Oper) (t : Nat) : Bool := base.contains t || o.after.any fun e => Region.binds .any e && (ops[e.on]?).bind Oper.dst == some t
section
variable {ops : Array Oper} {Q : Exit → Act → World → Prop} {F : Nat → Fact} {base : List Nat} {N : Nat} {o : Oper}
theorem known_fact {a : Act} {w : World} (hb : ∀ t ∈ base, (F t).holds (a.tmps.getD t undef) w)
    (hp : ∀ e ∈ o.after, Region.binds .any e = true → ∀ t, (ops[e.on]?).bind Oper.dst = some t → (F t).holds (a.tmps.getD t undef) w) {t : Nat} (hk : known ops base o t = true) : (F t).holds (a.tmps.getD t undef) w := by
  unfold known at hk
  rw [Bool.or_eq_true] at hk
  rcases hk with h | h
  · exact hb t (List.contains_iff_mem.1 h)
  · rw [Array.any_eq_true'] at h
    obtain ⟨e, he, h2⟩ := h
    simp only [Bool.and_eq_true, beq_iff_eq] at h2
    exact hp e he h2.1 t h2.2
/-- The operation's guard is met. -/
def GuardOk (ops : Array Oper) (F : Nat → Fact) (base : List Nat) (N : Nat) (o : Oper) : Prop :=
  o.guard = none ∨ ∃ (j d : Nat) (b : Bool), o.guard = some (j, b) ∧ (ops[j]?).bind Oper.dst = some d ∧ known ops base o d = true ∧ d < N ∧ F d = Fact.eq (.bool b)
theorem wanted_of {a : Act} {w : World} (hN : a.tmps.size = N) (hf : ∀ t, known ops base o t = true → (F t).holds (a.tmps.getD t undef) w) (hg : GuardOk ops F base N o) : Region.wanted o (yielded ops a.tmps) = true := by
  rcases hg with h | ⟨j, d, b, h, hd, hk, hlt, hF⟩
  · simp [Region.wanted, h]
  · have h1 := hf d hk
    rw [hF] at h1
    have h2 : a.tmps[d]? = some (.bool b) := by
      have : a.tmps.getD d undef = .bool b := h1
      rw [Array.getD_eq_getD_getElem?, Array.getElem?_eq_getElem (by omega)] at this
      rw [Array.getElem?_eq_getElem (by omega)]
      exact congrArg some this
    have h3 : ((ops[j]?).bind fun x => x.dst) = some d := hd
    simp [Region.wanted, h, yielded, h3, h2]
theorem ob_val (hg : GuardOk ops F base N o) (h : ∀ (a : Act) (w : World), (∀ t, known ops base o t = true → (F t).holds (a.tmps.getD t undef) w) →
    ∃ v w', (execOp a.eval o).run Tryz.prog w = .ok (.value v) w' ∧ Below w.heap.size w w' ∧ ∀ t, o.dst = some t → (F t).holds v w') : Ob ops Q F base N o := by
  intro a w K hN hb hp hK
  have hf := fun t (hk : known ops base o t = true) => known_fact hb hp hk
  rw [if_pos (wanted_of hN hf hg)]
  obtain ⟨v, w', hr, hbw, hF⟩ := h a w hf
  unfold Oper.wp
  rw [hr]
  exact hK v w' hbw hF
/-- A copy of a slot. -/
theorem ob_copy (t d : Nat) (ho : o.op = .move (.tmp t) ∨ o.op = .assign (.tmp t)) (hd : o.dst = some d) (hg : GuardOk ops F base N o) (hk : known ops base o t = true) (hF : F d = F t) : Ob ops Q F base N o :=
  ob_val hg fun a w hf => ⟨a.tmps.getD t undef, w, by rcases ho with h | h <;> simp [execOp, h, Act.eval], Below.refl _ _, fun s hs => by
    rw [hd] at hs; injection hs with hs; subst hs; rw [hF]; exact hf t hk⟩
end
/-- The function has a body of its own. -/
noncomputable def fnOk (f : FuncId) : Bool := match Tryz.prog.funcs[f]? with
  | some fn => !(fn.name == "runtime.NumGoroutine") && !fn.body.isNone
  | none => false
theorem run_callFunc {f : FuncId} (h : fnOk f = true) (args : Array Value) (w : World) : (callFunc f args).run Tryz.prog w = .ok (.enter f args) w := by
  unfold fnOk at h
  cases hf : Tryz.prog.funcs[f]? with
  | none => rw [hf] at h; cases h
  | some fn =>
    rw [hf] at h
    simp only [Bool.and_eq_true, Bool.not_eq_true'] at h
    have h1 : fn.name ≠ "runtime.NumGoroutine" := by simpa using h.1
    have h2 : fn.body ≠ none := by intro e; have := h.2; rw [e] at this; cases this
    simp [callFunc, hf, h1, h2]
theorem run_invoke {f : FuncId} (h : fnOk f = true) (args : Array Value) (w : World) : ((Deferred.ofValue (.func (.func f) #[] #[]) args).run Tryz.prog w).andThen (fun d w' => (invoke d.target d.args).run Tryz.prog w') = .ok (.enter f args) w := by
  simp [Deferred.ofValue, invoke, run_callFunc h]
section
variable {ops : Array Oper} {Q : Exit → Act → World → Prop} {F : Nat → Fact} {base : List Nat} {N : Nat} {o : Oper}
/-- A known value, in memory that has only grown since w0. -/
def Fact.at_ (w0 : World) (u : Value) : Fact := ⟨fun v w => v = u ∧ Below w0.heap.size w0 w, fun _ _ _ ⟨h, hb⟩ hb' => ⟨h, upG hb hb'⟩⟩
theorem fcs {α : Type} {p : α → Prop} {a : α} {l : List α} (h : p a ∧ ∀ x ∈ l, p x) : ∀ x ∈ a :: l, p x := List.forall_mem_cons.2 h
theorem fnl {α : Type} {p : α → Prop} : ∀ x ∈ ([] : List α), p x := fun _ h => absurd h List.not_mem_nil
end
/-- What is known of a slot. -/
def FF (ks : List (Nat × Fact)) (t : Nat) : Fact := (ks.lookup t).getD Fact.any
end Go.Proofs.YthfodpbecddheaaGreatDoor
/-
  A region whose first operations only add memory, in any order, and whose last ones each come behind all before them. No conditions beyond those that it names.
-/
namespace Go.Proofs.YthfodpbecddheaaGreatDoor
open Go.RowKit
/-- The operations that an operation waits for, by way of others too, as bits of a number. -/
def maskOf (acc : List Nat) (es : List Nat) : Nat := es.foldl (fun m e => m ||| (1 <<< e) ||| acc.getD e 0) 0
def masks : List Nat → List (List Nat) → List Nat
  | acc, [] => acc
  | acc, es :: ess => masks (acc ++ [maskOf acc es]) ess
def edgesOf (o : Oper) : List Nat := (o.after.toList.filter fun e => Region.binds .any e).map fun e => e.on
theorem edgesOf_mem {o : Oper} {j : Nat} : j ∈ edgesOf o ↔ ∃ e ∈ o.after, Region.binds .any e = true ∧ e.on = j := by
  simp [edgesOf, and_assoc]
/-- From index k on, each operation comes behind all before it. -/
def seqC (ops : List Oper) (k : Nat) : Bool :=
  true && (List.range ops.length).all fun i => decide (i < k) || (List.range i).all fun j => ((masks [] (ops.map edgesOf)).getD i 0).testBit j
theorem maskOf_sound (L : Nat → Prop) (acc : List Nat) (hacc : ∀ e j, (acc.getD e 0).testBit j = true → L e → L j) :
    ∀ (es : List Nat) (m : Nat), (∀ e ∈ es, L e) → (∀ j, m.testBit j = true → L j) → ∀ j, (es.foldl (fun m e => m ||| (1 <<< e) ||| acc.getD e 0) m).testBit j = true → L j := by
  intro es
  induction es with
  | nil => intro m _ hm j hj; exact hm j hj
  | cons e es ih =>
    intro m hes hm j hj
    refine ih _ (fun x hx => hes x (List.mem_cons_of_mem _ hx)) (fun i hi => ?_) j hj
    have he := hes e (List.mem_cons_self ..)
    simp only [Nat.testBit_or, Bool.or_eq_true] at hi
    rcases hi with (hi | hi) | hi
    · exact hm i hi
    · rw [Nat.one_shiftLeft, Nat.testBit_two_pow] at hi
      have : e = i := of_decide_eq_true hi
      subst this
      exact he
    · exact hacc e i hi he
theorem masks_sound (L : Nat → Prop) (ess0 : List (List Nat)) (hcl : ∀ i es, ess0[i]? = some es → L i → ∀ e ∈ es, L e) :
    ∀ (ess : List (List Nat)) (acc : List Nat), (∀ i, ess[i]? = ess0[acc.length + i]?) → (∀ i j, (acc.getD i 0).testBit j = true → (∀ es, ess0[i]? = some es → ∀ e ∈ es, L e) → L j) →
      ∀ i j, ((masks acc ess).getD i 0).testBit j = true → (∀ es, ess0[i]? = some es → ∀ e ∈ es, L e) → L j := by
  intro ess
  induction ess with
  | nil => intro acc _ h; exact h
  | cons es ess ih =>
    intro acc heq h
    refine ih (acc ++ [maskOf acc es]) (fun i => ?_) (fun i j hj hL => ?_)
    · have := heq (i + 1)
      simp only [List.length_append, List.length_cons, List.length_nil]
      rw [show acc.length + (0 + 1) + i = acc.length + (i + 1) from by omega, ← this]
      simp
    · rcases Nat.lt_trichotomy i acc.length with h1 | h1 | h1
      · rw [List.getD_eq_getElem?_getD, List.getElem?_append_left h1, ← List.getD_eq_getElem?_getD] at hj
        exact h i j hj hL
      · subst h1
        rw [List.getD_eq_getElem?_getD, List.getElem?_append_right (Nat.le_refl _)] at hj
        simp only [Nat.sub_self, List.getElem?_cons_zero, Option.getD_some] at hj
        have he : ess0[acc.length]? = some es := by
          have := heq 0
          rw [Nat.add_zero] at this
          rw [← this]
          rfl
        exact maskOf_sound L acc (fun e j' hj' hLe => h e j' hj' fun es' hes' => hcl e es' hes' hLe) es 0 (hL es he) (fun _ hb => by simp at hb) j hj
      · rw [List.getD_eq_getElem?_getD, List.getElem?_eq_none (by simp; omega)] at hj
        simp at hj
section
variable {ops : Array Oper} {Q : Exit → Act → World → Prop} {F : Nat → Fact} {base : List Nat} {N : Nat} {D : List Nat}
theorem seqC_at {k : Nat} (h : seqC ops.toList k = true) (L : Nat → Prop) (hcl : ∀ i o, ops[i]? = some o → L i → ∀ e ∈ o.after, Region.binds .any e = true → L e.on)
    {i : Nat} {o : Oper} (ho : ops[i]? = some o) (hk : k ≤ i) (hL : ∀ e ∈ o.after, Region.binds .any e = true → L e.on) : ∀ j, j < i → L j := by
  intro j hj
  have hi : i < ops.size := (Array.getElem?_eq_some_iff.1 ho).1
  simp only [seqC, Bool.and_eq_true] at h
  have h1 := List.all_eq_true.1 h.2 i (List.mem_range.2 (by simpa using hi))
  rw [Bool.or_eq_true] at h1
  rcases h1 with h1 | h1
  · have := of_decide_eq_true h1
    omega
  · have h2 := List.all_eq_true.1 h1 j (List.mem_range.2 hj)
    have hmap : ∀ (m : Nat) (es : List Nat), (ops.toList.map edgesOf)[m]? = some es → ∃ o, ops[m]? = some o ∧ edgesOf o = es := fun m es hm => by
      rw [List.getElem?_map, Array.getElem?_toList] at hm
      cases hq : ops[m]? with
      | none => rw [hq] at hm; cases hm
      | some o' => rw [hq] at hm; exact ⟨o', rfl, by simpa using hm⟩
    refine masks_sound L (ops.toList.map edgesOf) (fun m es hm hLm e he => ?_) _ [] (fun m => by simp) (fun m j' hb => by simp at hb) i j h2 fun es hes e he => ?_
    · obtain ⟨o', ho', rfl⟩ := hmap m es hm
      obtain ⟨e', he', hb', rfl⟩ := edgesOf_mem.1 he
      exact hcl m o' ho' hLm e' he' hb'
    · obtain ⟨o', ho', rfl⟩ := hmap i es hes
      rw [ho] at ho'
      injection ho' with ho'
      subst ho'
      obtain ⟨e', he', hb', rfl⟩ := edgesOf_mem.1 he
      exact hL e' he' hb'
/-- An array of flags that holds each flag's edges. -/
def Closed (ops : Array Oper) (listed : Array Bool) : Prop := ∀ i o, ops[i]? = some o → listed.getD i false = true → ∀ e ∈ o.after, Region.binds .any e = true → listed.getD e.on false = true
theorem listed_set {listed : Array Bool} {i j : Nat} (hi : i < listed.size) : (listed.setIfInBounds i true).getD j false = true ↔ j = i ∨ listed.getD j false = true := by
  by_cases hji : j = i
  · subst hji
    simp [Array.getD_eq_getD_getElem?, hi]
  · simp only [Array.getD_eq_getD_getElem?, Array.getElem?_setIfInBounds, if_neg (Ne.symm hji), hji, false_or]
theorem Closed.set {listed : Array Bool} (h : Closed ops listed) (hs : listed.size = ops.size) {i : Nat} {o : Oper} (ho : ops[i]? = some o) (he : ∀ e ∈ o.after, Region.binds .any e = true → listed.getD e.on false = true) : Closed ops (listed.setIfInBounds i true) := by
  have hlt : i < listed.size := by rw [hs]; exact (Array.getElem?_eq_some_iff.1 ho).1
  intro j o' ho' hl e hm hb
  rw [listed_set hlt] at hl ⊢
  rcases hl with rfl | hl
  · rw [ho] at ho'
    injection ho' with ho'
    subst ho'
    exact .inr (he e hm hb)
  · exact .inr (h j o' ho' hl e hm hb)
theorem flip_getD {listed : Array Bool} {i : Nat} {b : Bool} (h : listed.getD i b = !b) (c : Bool) : listed.getD i c = !b := by
  rw [Array.getD_eq_getD_getElem?] at h ⊢
  cases hl : listed[i]? with
  | none => rw [hl] at h; cases b <;> cases h
  | some x => rw [hl] at h; exact h
theorem wpAny_seqTail {k0 : Nat} (hok : seqC ops.toList k0 = true) (hback : ∀ i o, ops[i]? = some o → ∀ e ∈ o.after, Region.binds .any e = true → e.on < i) : ∀ (m fuel k : Nat) (listed : Array Bool) (a : Act) (w : World), k + m = ops.size → k0 ≤ k → (∀ i, i < k → listed.getD i false = true) → (∀ i, k ≤ i → i < ops.size → listed.getD i true = false) → listed.size = ops.size → Closed ops listed →
    wpList Tryz.prog ops Q (ops.toList.drop k) a w → m ≤ fuel → wpAny Tryz.prog .any ops Q fuel listed a w := by
  intro m
  induction m with
  | zero =>
    intro fuel k listed a w hk _ hl _ hs _ hw _
    have hr : Region.ready .any ops listed = [] := by
      cases hr : Region.ready .any ops listed with
      | nil => rfl
      | cons i rs =>
        exfalso
        have hm : i ∈ Region.ready .any ops listed := by rw [hr]; simp
        obtain ⟨h1, o, ho, _⟩ := mem_ready.1 hm
        have hi := (Array.getElem?_eq_some_iff.1 ho).1
        have h2 := hl i (by omega)
        have h3 : listed.getD i false = false := flip_getD (b := true) h1 false
        rw [h3] at h2
        cases h2
    have hq : Q .normal a w := by
      rw [List.drop_of_length_le (by simp; omega)] at hw
      exact hw
    cases fuel with
    | zero => exact ⟨hr, hq⟩
    | succ fuel => exact ⟨fun _ => hq, fun i hi => by rw [hr] at hi; cases hi⟩
  | succ m ih =>
    intro fuel k listed a w hk hk0 hl hn hs hcl hw hf
    obtain ⟨fuel, rfl⟩ : ∃ f, fuel = f + 1 := ⟨fuel - 1, by omega⟩
    have hlt : k < ops.size := by omega
    have hok' : ops[k]? = some ops[k] := Array.getElem?_eq_getElem hlt
    have hready : k ∈ Region.ready .any ops listed := mem_ready.2 ⟨hn k (Nat.le_refl _) hlt, ops[k], hok', fun e he hb => hl _ (hback k _ hok' e he hb)⟩
    refine ⟨fun h => (by rw [h] at hready; cases hready), fun i hi => ?_⟩
    obtain ⟨h1, o, ho, hedges⟩ := mem_ready.1 hi
    have hil := (Array.getElem?_eq_some_iff.1 ho).1
    have hik : i = k := by
      have h3 : listed.getD i false = false := flip_getD (b := true) h1 false
      rcases Nat.lt_trichotomy i k with h | h | h
      · rw [hl i h] at h3; cases h3
      · exact h
      · exfalso
        have h4 := seqC_at hok (fun j => listed.getD j false = true) (fun j o' ho' hj => hcl j o' ho' hj) ho (by omega) hedges k h
        have h5 := hn k (Nat.le_refl _) hlt
        have h6 : listed.getD k false = false := flip_getD (b := true) h5 false
        rw [h6] at h4
        cases h4
    subst hik
    have hd : ops.toList.drop i = o :: ops.toList.drop (i + 1) := by
      have h7 : i < ops.toList.length := by simpa using hil
      rw [List.drop_eq_getElem_cons h7]
      have h8 := (Array.getElem?_eq_some_iff.1 ho).2
      simp [h8]
    rw [hd] at hw
    have hnext : ∀ a' w', wpList Tryz.prog ops Q (ops.toList.drop (i + 1)) a' w' → wpAny Tryz.prog .any ops Q fuel (listed.setIfInBounds i true) a' w' := fun a' w' h' => by
      refine ih fuel (i + 1) _ a' w' (by omega) (by omega) (fun j hj => ?_) (fun j hj1 hj2 => ?_) (by simpa using hs) (hcl.set hs ho hedges) h' (by omega)
      · by_cases hji : j = i
        · subst hji
          simp [Array.getD_eq_getD_getElem?, hs, hlt]
        · simpa only [Array.getD_eq_getD_getElem?, Array.getElem?_setIfInBounds, if_neg (Ne.symm hji)] using hl j (by omega)
      · have hji : j ≠ i := by omega
        simpa only [Array.getD_eq_getD_getElem?, Array.getElem?_setIfInBounds, if_neg (Ne.symm hji)] using hn j (by omega) hj2
    unfold wpOp
    rw [ho]
    unfold wpList at hw
    show if Region.wanted o (yielded ops a.tmps) = true then _ else _
    split
    · rename_i hwant
      rw [if_pos hwant] at hw
      exact hw.imp (Oper.wp_mono hnext) id
    · rename_i hwant
      rw [if_neg hwant] at hw
      exact hnext _ _ hw
/-- The obligation of oneG operation; oneG that makes a variable of D shows that it is the newest block. -/
def Obn (ops : Array Oper) (Q : Exit → Act → World → Prop) (F : Nat → Fact) (base : List Nat) (N : Nat) (D : List Nat) (o : Oper) : Prop := ∀ (a : Act) (w : World) (K : Act → World → Prop), a.tmps.size = N → (∀ t ∈ base, (F t).holds (a.tmps.getD t undef) w) →
  (∀ e ∈ o.after, Region.binds .any e = true → ∀ t, (ops[e.on]?).bind Oper.dst = some t → (F t).holds (a.tmps.getD t undef) w) →
  (∀ v w', Below w.heap.size w w' → (∀ t, o.dst = some t → (F t).holds v w') → (∀ t ∈ D, o.dst = some t → v = .pointer (some ⟨w.heap.size, 0, none⟩) ∧ w.heap.size < w'.heap.size) → K (a.put o.dst v) w') →
  (if Region.wanted o (yielded ops a.tmps) = true then Oper.wp Tryz.prog o a w K Q else K (a.put o.dst undef) w)
theorem Ob.new_ {o : Oper} (h : Ob ops Q F base N o) (hD : (match o.dst with | some t => D.contains t | none => false) = false) : Obn ops Q F base N D o := by
  intro a w K hN hb hp hK
  refine h a w K hN hb hp fun v w' hb' hF => hK v w' hb' hF fun t ht hd => ?_
  rw [hd] at hD
  have h1 : D.contains t = true := List.contains_iff_mem.2 ht
  have h2 : D.contains t = false := hD
  rw [h1] at h2
  cases h2
/-- The variables of D that are there lie at and behind g, apart from oneG another. -/
def News (g : Nat) (D : List Nat) (ops : Array Oper) (listed : Array Bool) (a : Act) (w : World) : Prop :=
  (∀ s ∈ D, ∀ i, listed.getD i false = true → (ops[i]?).bind Oper.dst = some s → ∃ b, a.tmps.getD s undef = .pointer (some ⟨b, 0, none⟩) ∧ g ≤ b ∧ b < w.heap.size) ∧
  (∀ s ∈ D, ∀ t ∈ D, s ≠ t → ∀ i k, listed.getD i false = true → (ops[i]?).bind Oper.dst = some s → listed.getD k false = true → (ops[k]?).bind Oper.dst = some t → a.tmps.getD s undef ≠ a.tmps.getD t undef)
theorem News.step (hok : formOk ops base N = true) {g : Nat} {listed : Array Bool} {a : Act} {w w' : World} (h : News g D ops listed a w) (hs : listed.size = ops.size) (hN : a.tmps.size = N) (hg : g ≤ w.heap.size) {i : Nat} {o : Oper} (ho : ops[i]? = some o) {v : Value}
    (hb : Below w.heap.size w w') (hv : ∀ t ∈ D, o.dst = some t → v = .pointer (some ⟨w.heap.size, 0, none⟩) ∧ w.heap.size < w'.heap.size) : News g D ops (listed.setIfInBounds i true) (a.put o.dst v) w' := by
  have hlt : i < listed.size := by rw [hs]; exact (Array.getElem?_eq_some_iff.1 ho).1
  obtain ⟨_, hdst⟩ := formOk_at hok ho
  have hval : ∀ s ∈ D, ∀ j, (listed.setIfInBounds i true).getD j false = true → (ops[j]?).bind Oper.dst = some s → (j = i ∧ o.dst = some s ∧ (a.put o.dst v).tmps.getD s undef = .pointer (some ⟨w.heap.size, 0, none⟩) ∧ w.heap.size < w'.heap.size) ∨
      (listed.getD j false = true ∧ (a.put o.dst v).tmps.getD s undef = a.tmps.getD s undef) := fun s hsD j hj hjs => by
    by_cases hji : j = i
    · subst hji
      rw [ho] at hjs
      have hjs' : o.dst = some s := hjs
      obtain ⟨h1, h2⟩ := hv s hsD hjs'
      refine .inl ⟨rfl, hjs', ?_, h2⟩
      rw [hjs', getD_put_same (by rw [hN]; exact (hdst s hjs').1)]
      exact h1
    · refine .inr ⟨((listed_set hlt).1 hj).resolve_left hji, ?_⟩
      exact getD_put_other fun e => (hdst s e).2.2 j hji hjs
  refine ⟨fun s hsD j hj hjs => ?_, fun s hsD t htD hne j k hj hjs hk hkt => ?_⟩
  · rcases hval s hsD j hj hjs with ⟨_, _, h1, h2⟩ | ⟨h1, h2⟩
    · exact ⟨_, h1, hg, h2⟩
    · obtain ⟨b, h3, h4, h5⟩ := h.1 s hsD j h1 hjs
      exact ⟨b, h2.trans h3, h4, Nat.lt_of_lt_of_le h5 hb.size⟩
  · rcases hval s hsD j hj hjs with ⟨rfl, h0, h1, _⟩ | ⟨h1, h2⟩
    · rcases hval t htD k hk hkt with ⟨rfl, h5, _, _⟩ | ⟨h5, h6⟩
      · rw [h0] at h5
        injection h5 with h5
        exact absurd h5 hne
      · obtain ⟨b, h7, _, h8⟩ := h.1 t htD k h5 hkt
        rw [h1, h6, h7]
        intro e
        injection e with e
        injection e with e
        injection e with e
        omega
    · rcases hval t htD k hk hkt with ⟨rfl, _, h5, _⟩ | ⟨h5, h6⟩
      · obtain ⟨b, h7, _, h8⟩ := h.1 s hsD j h1 hjs
        rw [h5, h2, h7]
        intro e
        injection e with e
        injection e with e
        injection e with e
        omega
      · rw [h2, h6]
        exact h.2 s hsD t htD hne j k h1 hjs h5 hkt
end
end Go.Proofs.YthfodpbecddheaaGreatDoor


/-
  A region that only adds new memory, in its own order. No conditions beyond those that it names.
-/
import Derived.Test.YtgfahenhobnjpaaG4
namespace Go.Proofs.Ytgfahenhobnjpaa
open Go.RowKit
section
variable {ops : Array Oper} {Q : Exit → Act → World → Prop} {F : Nat → Fact} {base : List Nat} {N : Nat}
theorem wpList_stable (hok : formOk ops base N = true) {a0 : Act} {w0 : World} (hstep : ∀ o ∈ ops.toList, Ob ops Q F base N o)
    (hend : ∀ a w, a.defers = a0.defers → a.tmps.size = N → (∀ t ∈ base, (F t).holds (a.tmps.getD t undef) w) → (∀ (i t : Nat), (ops[i]?).bind Oper.dst = some t → (F t).holds (a.tmps.getD t undef) w) →
      (∀ (t : Nat), (∀ (i : Nat), (ops[i]?).bind Oper.dst ≠ some t) → a.tmps.getD t undef = a0.tmps.getD t undef) → Below w0.heap.size w0 w → Q .normal a w) :
    ∀ (m k : Nat) (listed : Array Bool) (a : Act) (w : World), k + m = ops.size → (∀ i, i < k → listed.getD i false = true) → Inv ops F base N a0 w0 listed a w → wpList Try.prog ops Q (ops.toList.drop k) a w := by
  intro m
  induction m with
  | zero =>
    intro k listed a w hk hl h
    rw [List.drop_of_length_le (by simp; omega)]
    exact hend a w h.defers h.tsize h.base (fun i t hit => h.done i t (hl i (by
      rcases Nat.lt_or_ge i ops.size with h5 | h5
      · omega
      · rw [Array.getElem?_eq_none h5] at hit; cases hit)) hit) h.other h.below
  | succ m ih =>
    intro k listed a w hk hl h
    have hlt : k < ops.size := by omega
    have ho : ops[k]? = some ops[k] := Array.getElem?_eq_getElem hlt
    have hd : ops.toList.drop k = ops[k] :: ops.toList.drop (k + 1) := by
      rw [List.drop_eq_getElem_cons (by simpa using hlt)]; simp
    rw [hd]
    have hback := (formOk_at hok ho).1
    refine wpList_step fun K hK => hstep _ (by simp) a w K h.tsize h.base (fun e he hb' t het => h.done e.on t (hl e.on (hback e he hb')) het) fun v w' hb hF => hK _ _ (ih (k + 1) (listed.setIfInBounds k true) _ _ (by omega) (fun j hj => ?_) (h.step hok ho hb hF))
    by_cases hjk : j = k
    · subst hjk
      simp [Array.getD_eq_getD_getElem?, h.lsize, hlt]
    · simpa only [Array.getD_eq_getD_getElem?, Array.getElem?_setIfInBounds, if_neg (Ne.symm hjk)] using hl j (by omega)
theorem wp_region_stable0 {id : Nat} {l : List Oper} {a : Act} {w : World} (F : Nat → Fact) (base : List Nat) (N : Nat) (hN : a.tmps.size = N) (hok : formOk l.toArray base N = true)
    (hbase : ∀ t ∈ base, (F t).holds (a.tmps.getD t undef) w) (hstep : ∀ o ∈ l, Ob l.toArray Q F base N o)
    (hend : ∀ a' w', a'.defers = a.defers → a'.tmps.size = N → (∀ t ∈ base, (F t).holds (a'.tmps.getD t undef) w') → (∀ (i t : Nat), (l.toArray[i]?).bind Oper.dst = some t → (F t).holds (a'.tmps.getD t undef) w') →
      (∀ (t : Nat), (∀ (i : Nat), (l.toArray[i]?).bind Oper.dst ≠ some t) → a'.tmps.getD t undef = a.tmps.getD t undef) → Below w.heap.size w w' → Q .normal a' w') : (Code.region id l.toArray false).wp Try.prog Q a w := by
  refine wp_region_lit ?_
  have h := wpList_stable (a0 := a) (w0 := w) hok (by simpa using hstep) hend l.length 0 (Array.replicate l.length false) a w (by simp) (fun i hi => absurd hi (Nat.not_lt_zero i)) ⟨by simp, hN, rfl, hbase, fun i t hi _ => ?_, fun _ _ => rfl, Below.refl _ _⟩
  · simpa using h
  · rw [Array.getD_eq_getD_getElem?, Array.getElem?_replicate] at hi
    split at hi <;> simp at hi
end
/-- A region that only adds new memory, in its own order, and what comes behind it. -/
theorem wp_region_off {Q : Exit → Act → World → Prop} {id : Nat} {l : List Oper} {a : Act} {w : World} (F : Nat → Fact) (base : List Nat) (N : Nat) (ds : List Nat) (hN : a.tmps.size = N) (hok : formOk l.toArray base N = true) (hds : dstsOk l ds = true)
    (hbase : ∀ t ∈ base, (F t).holds (a.tmps.getD t undef) w) (hstep : ∀ o ∈ l, Ob l.toArray Q F base N o)
    (hend : ∀ (v : Nat → Value) w', (∀ t ∈ ds, (F t).holds (v t) w') → Below w.heap.size w w' → Q .normal { tmps := lay a.tmps ds v, defers := a.defers } w') : (Code.region id l.toArray false).wp Try.prog Q a w := by
  refine wp_region_stable0 F base N hN hok hbase hstep fun a' w' hdef hsz hbs hall hoth hbel => ?_
  have hw : ∀ t ∈ ds, ∃ i, (l.toArray[i]?).bind Oper.dst = some t := fun t ht => by
    have h1 := hds
    simp only [dstsOk, Bool.and_eq_true] at h1
    have h2 := List.any_eq_true.1 (List.all_eq_true.1 h1.2 t ht)
    obtain ⟨o, ho, hd⟩ := h2
    obtain ⟨i, hi⟩ := List.getElem?_of_mem ho
    exact ⟨i, by rw [List.getElem?_toArray, hi]; exact (by simpa using hd)⟩
  have h := hend (fun t => a'.tmps.getD t undef) w' (fun t ht => by
    obtain ⟨i, hi⟩ := hw t ht
    exact hall i t hi) hbel
  have heq : a' = { tmps := lay a.tmps ds fun t => a'.tmps.getD t undef, defers := a.defers } := by
    obtain ⟨ts, df⟩ := a'
    have hdef' : df = a.defers := hdef
    subst hdef'
    congr 1
    have hsz' : ts.size = N := hsz
    refine Array.ext_getElem? fun t => ?_
    rcases Nat.lt_or_ge t N with hlt | hge
    · by_cases htd : t ∈ ds
      · rw [lay_at ds _ _ t htd (by omega), Array.getD_eq_getD_getElem?, Array.getElem?_eq_getElem (by omega)]; rfl
      · rw [lay_other ds _ _ t htd]
        have := hoth t fun i hi => by
          have h1 := hds
          simp only [dstsOk, Bool.and_eq_true] at h1
          rw [List.getElem?_toArray] at hi
          cases hl : l[i]? with
          | none => rw [hl] at hi; cases hi
          | some o =>
            rw [hl] at hi
            have h2 := List.all_eq_true.1 h1.1 o (List.mem_of_getElem? hl)
            have h3 : o.dst = some t := hi
            rw [h3] at h2
            exact htd (by simpa using h2)
        have h2 : ts.getD t undef = a.tmps.getD t undef := this
        rw [Array.getD_eq_getD_getElem?, Array.getD_eq_getD_getElem?, Array.getElem?_eq_getElem (by omega), Array.getElem?_eq_getElem (by omega)] at h2
        rw [Array.getElem?_eq_getElem (by omega), Array.getElem?_eq_getElem (by omega)]
        exact congrArg some h2
    · rw [Array.getElem?_eq_none (by omega), Array.getElem?_eq_none (by rw [lay_size]; omega)]
  rw [heq]
  exact h
section
variable {ops : Array Oper} {Q : Exit → Act → World → Prop} {F : Nat → Fact} {base : List Nat} {N : Nat} {o : Oper}
theorem ob_lt2 (k : IntKind) (t s d : Nat) (y z : Int) (b : Bool) (ty ty' : TypeId) (hb : decide (y < z) = b) (ho : o.op = .binOp .lss ty (.tmp t) (.tmp s) ty') (hd : o.dst = some d) (hg : GuardOk ops F base N o) (hk : known ops base o t = true) (hk2 : known ops base o s = true) (hv : F t = Fact.eq (.int k y)) (hv2 : F s = Fact.eq (.int k z)) (hF : F d = Fact.eq (.bool b)) : Ob ops Q F base N o :=
  ob_two t s d _ _ _ hd hg hk hk2 hv hv2 hF fun a w h1 h2 => by
    subst hb
    exact go_lss k y z a w _ ty ty' o t ho h1 h2
end
end Go.Proofs.Ytgfahenhobnjpaa

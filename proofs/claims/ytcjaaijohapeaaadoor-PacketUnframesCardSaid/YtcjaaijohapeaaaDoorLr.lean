/-
  Obligations of a region's operations, each slot's value told exactly, in memory that has only grown since W0. No conditions beyond those that each names.
-/
import Derived.Test.YtcjaaijohapeaaaDoorG3
import Derived.Test.YtcjaaijohapeaaaDoorLa
namespace Go.Proofs.YtcjaaijohapeaaaDoor
open Go.RowKit
section
variable {ops : Array Oper} {Q : Exit → Act → World → Prop} {F : Nat → Fact} {base : List Nat} {N : Nat} {o : Oper} {W0 : World}
/-- The operation's guard is met. -/
def Gd (W0 : World) (ops : Array Oper) (F : Nat → Fact) (base : List Nat) (N : Nat) (o : Oper) : Prop :=
  o.guard = none ∨ ∃ (j d : Nat) (b : Bool), o.guard = some (j, b) ∧ (ops[j]?).bind Oper.dst = some d ∧ known ops base o d = true ∧ d < N ∧ F d = Fact.at_ W0 (.bool b)
theorem gd_wanted {a : Act} {w : World} (hN : a.tmps.size = N) (hf : ∀ t, known ops base o t = true → (F t).holds (a.tmps.getD t undef) w) (hg : Gd W0 ops F base N o) : Region.wanted o (yielded ops a.tmps) = true := by
  rcases hg with h | ⟨j, d, b, h, hd, hk, hlt, hF⟩
  · simp [Region.wanted, h]
  · have h1 := hf d hk
    rw [hF] at h1
    have h2 : a.tmps[d]? = some (.bool b) := by
      have : a.tmps.getD d undef = .bool b := h1.1
      rw [Array.getD_eq_getD_getElem?, Array.getElem?_eq_getElem (by omega)] at this
      rw [Array.getElem?_eq_getElem (by omega)]
      exact congrArg some this
    have h3 : ((ops[j]?).bind fun x => x.dst) = some d := hd
    simp [Region.wanted, h, yielded, h3, h2]
theorem at_val (hg : Gd W0 ops F base N o) (h : ∀ (a : Act) (w : World), (∀ t, known ops base o t = true → (F t).holds (a.tmps.getD t undef) w) →
    ∃ v w', (execOp a.eval o).run Tryd.prog w = .ok (.value v) w' ∧ Below w.heap.size w w' ∧ ∀ t, o.dst = some t → (F t).holds v w') : Ob ops Q F base N o := by
  intro a w K hN hb hp hK
  have hf := fun t (hk : known ops base o t = true) => known_fact hb hp hk
  rw [if_pos (gd_wanted hN hf hg)]
  obtain ⟨v, w', hr, hbw, hF⟩ := h a w hf
  unfold Oper.wp
  rw [hr]
  exact hK v w' hbw hF
theorem at_enter (hg : Gd W0 ops F base N o) (h : ∀ (a : Act) (w : World), (∀ t, known ops base o t = true → (F t).holds (a.tmps.getD t undef) w) →
    ∃ f args, (execOp a.eval o).run Tryd.prog w = .ok (.enter f args) w ∧ Calls Tryd.prog f args w fun e w' => ∃ v, e = .returned v ∧ Below w.heap.size w w' ∧ ∀ t, o.dst = some t → (F t).holds v w') : Ob ops Q F base N o := by
  intro a w K hN hb hp hK
  have hf := fun t (hk : known ops base o t = true) => known_fact hb hp hk
  rw [if_pos (gd_wanted hN hf hg)]
  obtain ⟨f, args, hr, hc⟩ := h a w hf
  unfold Oper.wp
  rw [hr]
  refine hc.mono ?_
  rintro e w' ⟨v, rfl, hbw, hF⟩
  exact hK v w' hbw hF
/-- An operation on one slot. -/
theorem at1 (t d : Nat) (u r : Value) (hd : o.dst = some d) (hg : Gd W0 ops F base N o) (hk : known ops base o t = true) (hv : F t = Fact.at_ W0 u) (hF : F d = Fact.at_ W0 r)
    (h : ∀ (a : Act) (w : World), Below W0.heap.size W0 w → a.eval (.tmp t) = u → (execOp a.eval o).run Tryd.prog w = .ok (.value r) w) : Ob ops Q F base N o :=
  at_val hg fun a w hf => by
    have h1 := hf t hk
    rw [hv] at h1
    exact ⟨r, w, h a w h1.2 h1.1, Below.refl _ _, fun s hs => by rw [hd] at hs; injection hs with hs; subst hs; rw [hF]; exact ⟨rfl, h1.2⟩⟩
/-- An operation on two slots. -/
theorem at2 (t s d : Nat) (u v r : Value) (hd : o.dst = some d) (hg : Gd W0 ops F base N o) (hk : known ops base o t = true) (hk2 : known ops base o s = true) (hv : F t = Fact.at_ W0 u) (hv2 : F s = Fact.at_ W0 v) (hF : F d = Fact.at_ W0 r)
    (h : ∀ (a : Act) (w : World), Below W0.heap.size W0 w → a.eval (.tmp t) = u → a.eval (.tmp s) = v → (execOp a.eval o).run Tryd.prog w = .ok (.value r) w) : Ob ops Q F base N o :=
  at_val hg fun a w hf => by
    have h1 := hf t hk
    rw [hv] at h1
    have h2 := hf s hk2
    rw [hv2] at h2
    exact ⟨r, w, h a w h1.2 h1.1 h2.1, Below.refl _ _, fun s hs => by rw [hd] at hs; injection hs with hs; subst hs; rw [hF]; exact ⟨rfl, h1.2⟩⟩
/-- A copy of a slot. -/
theorem atcopy (t d : Nat) (u : Value) (ho : o.op = .move (.tmp t) ∨ o.op = .assign (.tmp t)) (hd : o.dst = some d) (hg : Gd W0 ops F base N o) (hk : known ops base o t = true) (hv : F t = Fact.at_ W0 u) (hF : F d = Fact.at_ W0 u) : Ob ops Q F base N o :=
  at1 t d u u hd hg hk hv hF fun a w _ h => by
    have h' : a.eval (.tmp t) = u := h
    rcases ho with ho | ho <;> simp [execOp, ho, h']
/-- A choice whose flag is b. -/
theorem atpick (c t d : Nat) (b : Bool) (u : Value) (x y : Operand) (ho : o.op = .pick (.tmp c) x y) (hx : (if b then x else y) = .tmp t) (hd : o.dst = some d) (hg : Gd W0 ops F base N o) (hkc : known ops base o c = true) (hk : known ops base o t = true) (hc : F c = Fact.at_ W0 (.bool b)) (hv : F t = Fact.at_ W0 u) (hF : F d = Fact.at_ W0 u) : Ob ops Q F base N o :=
  at2 c t d (.bool b) u u hd hg hkc hk hc hv hF fun a w _ h1 h2 => by
    cases b
    · have hy : y = .tmp t := hx
      subst hy
      simp [execOp, ho, h1, h2, asBool]
    · have hy : x = .tmp t := hx
      subst hy
      simp [execOp, ho, h1, h2, asBool]
theorem atpickk (c d : Nat) (b : Bool) (u : Value) (x y : Operand) (ho : o.op = .pick (.tmp c) x y) (hx : (if b then x else y) = .const u) (hd : o.dst = some d) (hg : Gd W0 ops F base N o) (hkc : known ops base o c = true) (hc : F c = Fact.at_ W0 (.bool b)) (hF : F d = Fact.at_ W0 u) : Ob ops Q F base N o :=
  at1 c d (.bool b) u hd hg hkc hc hF fun a w _ h1 => by
    have hu : a.eval (.const u) = u := rfl
    cases b
    · have hy : y = .const u := hx
      subst hy
      simp [execOp, ho, h1, hu, asBool]
    · have hy : x = .const u := hx
      subst hy
      simp [execOp, ho, h1, hu, asBool]
/-- An operation whose guard is not met, or was not run. -/
theorem atskip (t0 j d t : Nat) (b : Bool) (v0 : Value) (hgd : o.guard = some (j, b)) (hdj : (ops[j]?).bind Oper.dst = some d) (hk : known ops base o d = true) (hlt : d < N) (hFd : F d = Fact.at_ W0 (.bool (!b)) ∨ F d = Fact.at_ W0 undef) (hk0 : known ops base o t0 = true) (hv0 : F t0 = Fact.at_ W0 v0) (ht : o.dst = some t) (hF : F t = Fact.at_ W0 undef) : Ob ops Q F base N o := by
  intro a w K hN hb hp hK
  have hbw : Below W0.heap.size W0 w := by
    have h1 := known_fact hb hp hk0
    rw [hv0] at h1
    exact h1.2
  have h1 := known_fact hb hp hk
  have h3 : ((ops[j]?).bind fun x => x.dst) = some d := hdj
  have h4 : a.tmps[d]? = some (.bool (!b)) ∨ a.tmps[d]? = some undef := by
    have hd : a.tmps[d]? = some (a.tmps.getD d undef) := by rw [Array.getD_eq_getD_getElem?, Array.getElem?_eq_getElem (by omega)]; rfl
    rcases hFd with h | h
    · rw [h] at h1; left; rw [hd, h1.1]
    · rw [h] at h1; right; rw [hd, h1.1]
  rw [if_neg (by rcases h4 with h | h <;> (cases b <;> simp [Region.wanted, hgd, yielded, h3, h, undef]))]
  exact hK undef w (Below.refl _ _) fun s hs => by rw [ht] at hs; injection hs with hs; subst hs; rw [hF]; exact ⟨rfl, hbw⟩
theorem Ib.at_ {u : Value} {w : World} {e : Ending} {w' : World} (hb : Below W0.heap.size W0 w) (h : Ib u w e w') : ∃ v, e = .returned v ∧ Below w.heap.size w w' ∧ (Fact.at_ W0 u).holds v w' := ⟨u, h.1, h.2, rfl, upG hb h.2⟩
theorem Is.ib {u : Value} {w : World} {e : Ending} {w' : World} (h : Is u w e w') : Ib u w e w' := ⟨h.1, h.2 ▸ Below.refl _ _⟩
/-- Calls. -/
theorem atc0 (f : FuncId) (t0 d : Nat) (v0 r : Value) (tys : Array TypeId) (ho : o.op = .call { callee := .value (.func f), args := #[], argTypes := tys }) (hd : o.dst = some d) (hg : Gd W0 ops F base N o) (hk0 : known ops base o t0 = true) (hv0 : F t0 = Fact.at_ W0 v0) (hfn : fnOk f = true) (hF : F d = Fact.at_ W0 r)
    (hc : ∀ w, Below W0.heap.size W0 w → Calls Tryd.prog f #[] w (Ib r w)) : Ob ops Q F base N o :=
  at_enter hg fun a w hf => by
    have h1 := hf t0 hk0
    rw [hv0] at h1
    refine ⟨f, #[], by simpa [execOp, ho, resolve, Act.eval] using run_invoke hfn _ w, (hc w h1.2).mono fun e w' h => ?_⟩
    obtain ⟨v, h2, h3, h4⟩ := Ib.at_ h1.2 h
    exact ⟨v, h2, h3, fun s hs => by rw [hd] at hs; injection hs with hs; subst hs; rw [hF]; exact h4⟩
theorem atc1 (f : FuncId) (t d : Nat) (u r : Value) (tys : Array TypeId) (ho : o.op = .call { callee := .value (.func f), args := #[.tmp t], argTypes := tys }) (hd : o.dst = some d) (hg : Gd W0 ops F base N o) (hk : known ops base o t = true) (hv : F t = Fact.at_ W0 u) (hfn : fnOk f = true) (hF : F d = Fact.at_ W0 r)
    (hc : ∀ w, Below W0.heap.size W0 w → Calls Tryd.prog f #[u] w (Ib r w)) : Ob ops Q F base N o :=
  at_enter hg fun a w hf => by
    have h1 := hf t hk
    rw [hv] at h1
    have h1' : a.tmps.getD t undef = u := h1.1
    refine ⟨f, #[u], by rw [← h1']; simpa [execOp, ho, resolve, Act.eval] using run_invoke hfn _ w, (hc w h1.2).mono fun e w' h => ?_⟩
    obtain ⟨v, h2, h3, h4⟩ := Ib.at_ h1.2 h
    exact ⟨v, h2, h3, fun s hs => by rw [hd] at hs; injection hs with hs; subst hs; rw [hF]; exact h4⟩
theorem atc2 (f : FuncId) (t s d : Nat) (u v r : Value) (tys : Array TypeId) (ho : o.op = .call { callee := .value (.func f), args := #[.tmp t, .tmp s], argTypes := tys }) (hd : o.dst = some d) (hg : Gd W0 ops F base N o) (hk : known ops base o t = true) (hk2 : known ops base o s = true) (hv : F t = Fact.at_ W0 u) (hv2 : F s = Fact.at_ W0 v) (hfn : fnOk f = true) (hF : F d = Fact.at_ W0 r)
    (hc : ∀ w, Below W0.heap.size W0 w → Calls Tryd.prog f #[u, v] w (Ib r w)) : Ob ops Q F base N o :=
  at_enter hg fun a w hf => by
    have h1 := hf t hk
    rw [hv] at h1
    have h2 := hf s hk2
    rw [hv2] at h2
    have h1' : a.tmps.getD t undef = u := h1.1
    have h2' : a.tmps.getD s undef = v := h2.1
    refine ⟨f, #[u, v], by rw [← h1', ← h2']; simpa [execOp, ho, resolve, Act.eval] using run_invoke hfn _ w, (hc w h1.2).mono fun e w' h => ?_⟩
    obtain ⟨v, h2, h3, h4⟩ := Ib.at_ h1.2 h
    exact ⟨v, h2, h3, fun s hs => by rw [hd] at hs; injection hs with hs; subst hs; rw [hF]; exact h4⟩
theorem atc2k (f : FuncId) (t d : Nat) (u v r : Value) (tys : Array TypeId) (ho : o.op = .call { callee := .value (.func f), args := #[.tmp t, .const v], argTypes := tys }) (hd : o.dst = some d) (hg : Gd W0 ops F base N o) (hk : known ops base o t = true) (hv : F t = Fact.at_ W0 u) (hfn : fnOk f = true) (hF : F d = Fact.at_ W0 r)
    (hc : ∀ w, Below W0.heap.size W0 w → Calls Tryd.prog f #[u, v] w (Ib r w)) : Ob ops Q F base N o :=
  at_enter hg fun a w hf => by
    have h1 := hf t hk
    rw [hv] at h1
    have h1' : a.tmps.getD t undef = u := h1.1
    refine ⟨f, #[u, v], by rw [← h1']; simpa [execOp, ho, resolve, Act.eval] using run_invoke hfn _ w, (hc w h1.2).mono fun e w' h => ?_⟩
    obtain ⟨v, h2, h3, h4⟩ := Ib.at_ h1.2 h
    exact ⟨v, h2, h3, fun s hs => by rw [hd] at hs; injection hs with hs; subst hs; rw [hF]; exact h4⟩
theorem atc3 (f : FuncId) (t s x d : Nat) (u v z r : Value) (tys : Array TypeId) (ho : o.op = .call { callee := .value (.func f), args := #[.tmp t, .tmp s, .tmp x], argTypes := tys }) (hd : o.dst = some d) (hg : Gd W0 ops F base N o) (hk : known ops base o t = true) (hk2 : known ops base o s = true) (hk3 : known ops base o x = true) (hv : F t = Fact.at_ W0 u) (hv2 : F s = Fact.at_ W0 v) (hv3 : F x = Fact.at_ W0 z) (hfn : fnOk f = true) (hF : F d = Fact.at_ W0 r)
    (hc : ∀ w, Below W0.heap.size W0 w → Calls Tryd.prog f #[u, v, z] w (Ib r w)) : Ob ops Q F base N o :=
  at_enter hg fun a w hf => by
    have h1 := hf t hk
    rw [hv] at h1
    have h2 := hf s hk2
    rw [hv2] at h2
    have h3 := hf x hk3
    rw [hv3] at h3
    have h1' : a.tmps.getD t undef = u := h1.1
    have h2' : a.tmps.getD s undef = v := h2.1
    have h3' : a.tmps.getD x undef = z := h3.1
    refine ⟨f, #[u, v, z], by rw [← h1', ← h2', ← h3']; simpa [execOp, ho, resolve, Act.eval] using run_invoke hfn _ w, (hc w h1.2).mono fun e w' h => ?_⟩
    obtain ⟨v, h2, h3, h4⟩ := Ib.at_ h1.2 h
    exact ⟨v, h2, h3, fun s hs => by rw [hd] at hs; injection hs with hs; subst hs; rw [hF]; exact h4⟩
end
end Go.Proofs.YtcjaaijohapeaaaDoor

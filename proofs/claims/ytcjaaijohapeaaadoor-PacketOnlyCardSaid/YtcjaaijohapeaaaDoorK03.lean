/-
  The obligations of single operations in a region that only adds memory. No conditions beyond those that each names.
-/
import Derived.Test.YtcjaaijohapeaaaDoorK02
namespace Go.Proofs.YtcjaaijohapeaaaDoor
open Go.RowKit
/-- The slot t came in, or is written by an operation that this oneG waits for. -/
def known (ops : Array Oper) (base : List Nat) (o : Oper) (t : Nat) : Bool := base.contains t || o.after.any fun e => Region.binds .any e && (ops[e.on]?).bind Oper.dst == some t
section
variable {ops : Array Oper} {Q : Exit → Act → World → Prop} {F : Nat → Fact} {base : List Nat} {N : Nat} {o : Oper}
theorem known_fact {a : Act} {w : World} (hb : ∀ t ∈ base, (F t).holds (a.tmps.getD t undef) w)
    (hp : ∀ e ∈ o.after, Region.binds .any e = true → ∀ t, (ops[e.on]?).bind Oper.dst = some t → (F t).holds (a.tmps.getD t undef) w) {t : Nat} (hk : known ops base o t = true) : (F t).holds (a.tmps.getD t undef) w := by
  unfold known at hk
  rw [Bool.or_eq_true] at hk
  rcases hk with h | h
  · exact hb t (List.contains_iff_mem.1 h)
  · rw [Array.any_eq_true'] at h
    obtain ⟨e, he, h2⟩ := h
    simp only [Bool.and_eq_true, beq_iff_eq] at h2
    exact hp e he h2.1 t h2.2
/-- The operation's guard is met. -/
def GuardOk (ops : Array Oper) (F : Nat → Fact) (base : List Nat) (N : Nat) (o : Oper) : Prop :=
  o.guard = none ∨ ∃ (j d : Nat) (b : Bool), o.guard = some (j, b) ∧ (ops[j]?).bind Oper.dst = some d ∧ known ops base o d = true ∧ d < N ∧ F d = Fact.eq (.bool b)
theorem wanted_of {a : Act} {w : World} (hN : a.tmps.size = N) (hf : ∀ t, known ops base o t = true → (F t).holds (a.tmps.getD t undef) w) (hg : GuardOk ops F base N o) : Region.wanted o (yielded ops a.tmps) = true := by
  rcases hg with h | ⟨j, d, b, h, hd, hk, hlt, hF⟩
  · simp [Region.wanted, h]
  · have h1 := hf d hk
    rw [hF] at h1
    have h2 : a.tmps[d]? = some (.bool b) := by
      have : a.tmps.getD d undef = .bool b := h1
      rw [Array.getD_eq_getD_getElem?, Array.getElem?_eq_getElem (by omega)] at this
      rw [Array.getElem?_eq_getElem (by omega)]
      exact congrArg some this
    have h3 : ((ops[j]?).bind fun x => x.dst) = some d := hd
    simp [Region.wanted, h, yielded, h3, h2]
theorem ob_val (hg : GuardOk ops F base N o) (h : ∀ (a : Act) (w : World), (∀ t, known ops base o t = true → (F t).holds (a.tmps.getD t undef) w) →
    ∃ v w', (execOp a.eval o).run Tryd.prog w = .ok (.value v) w' ∧ Below w.heap.size w w' ∧ ∀ t, o.dst = some t → (F t).holds v w') : Ob ops Q F base N o := by
  intro a w K hN hb hp hK
  have hf := fun t (hk : known ops base o t = true) => known_fact hb hp hk
  rw [if_pos (wanted_of hN hf hg)]
  obtain ⟨v, w', hr, hbw, hF⟩ := h a w hf
  unfold Oper.wp
  rw [hr]
  exact hK v w' hbw hF
theorem ob_enter (hg : GuardOk ops F base N o) (h : ∀ (a : Act) (w : World), (∀ t, known ops base o t = true → (F t).holds (a.tmps.getD t undef) w) →
    ∃ f args, (execOp a.eval o).run Tryd.prog w = .ok (.enter f args) w ∧ Calls Tryd.prog f args w fun e w' => ∃ v, e = .returned v ∧ Below w.heap.size w w' ∧ ∀ t, o.dst = some t → (F t).holds v w') : Ob ops Q F base N o := by
  intro a w K hN hb hp hK
  have hf := fun t (hk : known ops base o t = true) => known_fact hb hp hk
  rw [if_pos (wanted_of hN hf hg)]
  obtain ⟨f, args, hr, hc⟩ := h a w hf
  unfold Oper.wp
  rw [hr]
  refine hc.mono ?_
  rintro e w' ⟨v, rfl, hbw, hF⟩
  exact hK v w' hbw hF
/-- A copy of a slot. -/
theorem ob_copy (t d : Nat) (ho : o.op = .move (.tmp t) ∨ o.op = .assign (.tmp t)) (hd : o.dst = some d) (hg : GuardOk ops F base N o) (hk : known ops base o t = true) (hF : F d = F t) : Ob ops Q F base N o :=
  ob_val hg fun a w hf => ⟨a.tmps.getD t undef, w, by rcases ho with h | h <;> simp [execOp, h, Act.eval], Below.refl _ _, fun s hs => by
    rw [hd] at hs; injection hs with hs; subst hs; rw [hF]; exact hf t hk⟩
/-- A constant. -/
theorem ob_const (v : Value) (d : Nat) (ho : o.op = .move (.const v) ∨ o.op = .assign (.const v)) (hd : o.dst = some d) (hg : GuardOk ops F base N o) (hF : F d = Fact.eq v) : Ob ops Q F base N o :=
  ob_val hg fun a w _ => ⟨v, w, by rcases ho with h | h <;> simp [execOp, h, Act.eval], Below.refl _ _, fun s hs => by
    rw [hd] at hs; injection hs with hs; subst hs; rw [hF]; rfl⟩
/-- 'a && b', a true: b. -/
theorem ob_pick (c t d : Nat) (u : Value) (ho : o.op = .pick (.tmp c) (.tmp t) (.const u)) (hd : o.dst = some d) (hg : GuardOk ops F base N o) (hkc : known ops base o c = true) (hk : known ops base o t = true) (hc : F c = Fact.eq (.bool true)) (hF : F d = F t) : Ob ops Q F base N o :=
  ob_val hg fun a w hf => ⟨a.tmps.getD t undef, w, by
    have h1 := hf c hkc
    rw [hc] at h1
    have h2 : a.tmps.getD c undef = .bool true := h1
    simp [execOp, ho, Act.eval, h2, asBool], Below.refl _ _, fun s hs => by
    rw [hd] at hs; injection hs with hs; subst hs; rw [hF]; exact hf t hk⟩
end
/-- A call that returns what meets R, and only adds memory. -/
def Ret (R : Fact) (w : World) (e : Ending) (w' : World) : Prop := ∃ u, e = .returned u ∧ Below w.heap.size w w' ∧ R.holds u w'
/-- The function has a body of its own. -/
noncomputable def fnOk (f : FuncId) : Bool := match Tryd.prog.funcs[f]? with
  | some fn => !(fn.name == "runtime.NumGoroutine") && !fn.body.isNone
  | none => false
theorem run_callFunc {f : FuncId} (h : fnOk f = true) (args : Array Value) (w : World) : (callFunc f args).run Tryd.prog w = .ok (.enter f args) w := by
  unfold fnOk at h
  cases hf : Tryd.prog.funcs[f]? with
  | none => rw [hf] at h; cases h
  | some fn =>
    rw [hf] at h
    simp only [Bool.and_eq_true, Bool.not_eq_true'] at h
    have h1 : fn.name ≠ "runtime.NumGoroutine" := by simpa using h.1
    have h2 : fn.body ≠ none := by intro e; have := h.2; rw [e] at this; cases this
    simp [callFunc, hf, h1, h2]
theorem run_invoke {f : FuncId} (h : fnOk f = true) (args : Array Value) (w : World) : ((Deferred.ofValue (.func (.func f) #[] #[]) args).run Tryd.prog w).andThen (fun d w' => (invoke d.target d.args).run Tryd.prog w') = .ok (.enter f args) w := by
  simp [Deferred.ofValue, invoke, run_callFunc h]
section
variable {ops : Array Oper} {Q : Exit → Act → World → Prop} {F : Nat → Fact} {base : List Nat} {N : Nat} {o : Oper}
theorem ob_call1 (f : FuncId) (t d : Nat) (tys : Array TypeId) (ho : o.op = .call { callee := .value (.func f), args := #[.tmp t], argTypes := tys }) (hd : o.dst = some d) (hg : GuardOk ops F base N o) (hk : known ops base o t = true) (hfn : fnOk f = true)
    (hc : ∀ v w, (F t).holds v w → Calls Tryd.prog f #[v] w (Ret (F d) w)) : Ob ops Q F base N o :=
  ob_enter hg fun a w hf => ⟨f, #[a.tmps.getD t undef], by simpa [execOp, ho, resolve, Act.eval] using run_invoke hfn _ w, (hc _ w (hf t hk)).mono fun e w' ⟨u, he, hb, hr⟩ => ⟨u, he, hb, fun s hs => by
    rw [hd] at hs; injection hs with hs; subst hs; exact hr⟩⟩
theorem ob_call2 (f : FuncId) (t s d : Nat) (tys : Array TypeId) (ho : o.op = .call { callee := .value (.func f), args := #[.tmp t, .tmp s], argTypes := tys }) (hd : o.dst = some d) (hg : GuardOk ops F base N o) (hk : known ops base o t = true) (hk2 : known ops base o s = true) (hfn : fnOk f = true)
    (hc : ∀ v u w, (F t).holds v w → (F s).holds u w → Calls Tryd.prog f #[v, u] w (Ret (F d) w)) : Ob ops Q F base N o :=
  ob_enter hg fun a w hf => ⟨f, #[a.tmps.getD t undef, a.tmps.getD s undef], by simpa [execOp, ho, resolve, Act.eval] using run_invoke hfn _ w, (hc _ _ w (hf t hk) (hf s hk2)).mono fun e w' ⟨u, he, hb, hr⟩ => ⟨u, he, hb, fun s hs => by
    rw [hd] at hs; injection hs with hs; subst hs; exact hr⟩⟩
theorem ob_callc (f : FuncId) (v : Value) (d : Nat) (tys : Array TypeId) (ho : o.op = .call { callee := .value (.func f), args := #[.const v], argTypes := tys }) (hd : o.dst = some d) (hg : GuardOk ops F base N o) (hfn : fnOk f = true)
    (hc : ∀ w, Calls Tryd.prog f #[v] w (Ret (F d) w)) : Ob ops Q F base N o :=
  ob_enter hg fun a w _ => ⟨f, #[v], by simpa [execOp, ho, resolve, Act.eval] using run_invoke hfn _ w, (hc w).mono fun e w' ⟨u, he, hb, hr⟩ => ⟨u, he, hb, fun s hs => by
    rw [hd] at hs; injection hs with hs; subst hs; exact hr⟩⟩
theorem ob_call0 (f : FuncId) (d : Nat) (tys : Array TypeId) (ho : o.op = .call { callee := .value (.func f), args := #[], argTypes := tys }) (hd : o.dst = some d) (hg : GuardOk ops F base N o) (hfn : fnOk f = true)
    (hc : ∀ w, Calls Tryd.prog f #[] w (Ret (F d) w)) : Ob ops Q F base N o :=
  ob_enter hg fun a w _ => ⟨f, #[], by simpa [execOp, ho, resolve, Act.eval] using run_invoke hfn _ w, (hc w).mono fun e w' ⟨u, he, hb, hr⟩ => ⟨u, he, hb, fun s hs => by
    rw [hd] at hs; injection hs with hs; subst hs; exact hr⟩⟩
theorem ob_two (t s d : Nat) (v u r : Value) (hd : o.dst = some d) (hg : GuardOk ops F base N o) (hk : known ops base o t = true) (hk2 : known ops base o s = true) (ht : F t = Fact.eq v) (hs : F s = Fact.eq u) (hF : F d = Fact.eq r)
    (h : ∀ (a : Act) (w : World), a.eval (.tmp t) = v → a.eval (.tmp s) = u → (execOp a.eval o).run Tryd.prog w = .ok (.value r) w) : Ob ops Q F base N o :=
  ob_val hg fun a w hf => ⟨r, w, by
    have h1 := hf t hk
    have h2 := hf s hk2
    rw [ht] at h1
    rw [hs] at h2
    exact h a w h1 h2, Below.refl _ _, fun x hx => by
    rw [hd] at hx; injection hx with hx; subst hx; rw [hF]; rfl⟩
theorem ob_one (t d : Nat) (v r : Value) (hd : o.dst = some d) (hg : GuardOk ops F base N o) (hk : known ops base o t = true) (ht : F t = Fact.eq v) (hF : F d = Fact.eq r)
    (h : ∀ (a : Act) (w : World), a.eval (.tmp t) = v → (execOp a.eval o).run Tryd.prog w = .ok (.value r) w) : Ob ops Q F base N o :=
  ob_val hg fun a w hf => ⟨r, w, by
    have h1 := hf t hk
    rw [ht] at h1
    exact h a w h1, Below.refl _ _, fun x hx => by
    rw [hd] at hx; injection hx with hx; subst hx; rw [hF]; rfl⟩
theorem go_eql_bool (b c : Bool) (a : Act) (w : World) (t s : Nat) (o : Oper) (ho : o.op = .binOp .eql 4 (.tmp t) (.tmp s) 4) (h1 : a.eval (.tmp t) = .bool b) (h2 : a.eval (.tmp s) = .bool c) :
    (execOp a.eval o).run Tryd.prog w = .ok (.value (.bool (b == c))) w := by
  simp [execOp, ho, h1, h2]
  go_simp
theorem go_eql_int (b c : Int) (a : Act) (w : World) (t s : Nat) (k : IntKind) (ty ty' : TypeId) (o : Oper) (ho : o.op = .binOp .eql ty (.tmp t) (.tmp s) ty') (h1 : a.eval (.tmp t) = .int k b) (h2 : a.eval (.tmp s) = .int k c) :
    (execOp a.eval o).run Tryd.prog w = .ok (.value (.bool (b == c))) w := by
  simp [execOp, ho, h1, h2, eqGuard_at_int, binOp_eql]
/-- An operation whose guard says no. -/
theorem ob_skip (j d t : Nat) (b : Bool) (hgd : o.guard = some (j, b)) (hdj : (ops[j]?).bind Oper.dst = some d) (hk : known ops base o d = true) (hlt : d < N) (hFd : F d = Fact.eq (.bool (!b))) (ht : o.dst = some t) (hF : F t = Fact.eq undef) : Ob ops Q F base N o := by
  intro a w K hN hb hp hK
  have h1 := known_fact hb hp hk
  rw [hFd] at h1
  have h2 : a.tmps[d]? = some (.bool (!b)) := by
    have : a.tmps.getD d undef = .bool (!b) := h1
    rw [Array.getD_eq_getD_getElem?, Array.getElem?_eq_getElem (by omega)] at this
    rw [Array.getElem?_eq_getElem (by omega)]
    exact congrArg some this
  have h3 : ((ops[j]?).bind fun x => x.dst) = some d := hdj
  rw [if_neg (by simp [Region.wanted, hgd, yielded, h3, h2])]
  exact hK undef w (Below.refl _ _) fun s hs => by rw [ht] at hs; injection hs with hs; subst hs; rw [hF]; rfl
/-- 'a && b', a false. -/
theorem ob_pick_no (c t d : Nat) (u : Value) (ho : o.op = .pick (.tmp c) (.tmp t) (.const u)) (hd : o.dst = some d) (hg : GuardOk ops F base N o) (hkc : known ops base o c = true) (hc : F c = Fact.eq (.bool false)) (hF : F d = Fact.eq u) : Ob ops Q F base N o :=
  ob_val hg fun a w hf => ⟨u, w, by
    have h1 := hf c hkc
    rw [hc] at h1
    have h2 : a.tmps[c]?.getD undef = .bool false := by rw [← Array.getD_eq_getD_getElem?]; exact h1
    simp [execOp, ho, Act.eval, h2, asBool], Below.refl _ _, fun s hs => by
    rw [hd] at hs; injection hs with hs; subst hs; rw [hF]; rfl⟩
/-- A number is compared with a constant. -/
theorem ob_eqc (t d : Nat) (k : IntKind) (ty ty' : TypeId) (z n : Int) (b : Bool) (hb : (z == n) = b) (ho : o.op = .binOp .eql ty (.tmp t) (.const (.int k n)) ty') (hd : o.dst = some d) (hg : GuardOk ops F base N o) (hk : known ops base o t = true) (hv : F t = Fact.eq (.int k z)) (hF : F d = Fact.eq (.bool b)) : Ob ops Q F base N o :=
  ob_one t d _ _ hd hg hk hv hF fun a w h1 => by
    have h3 : a.eval (.const (.int k n)) = .int k n := rfl
    subst hb
    simp [execOp, ho, h1, h3, eqGuard_at_int, binOp_eql]
theorem go_lss (k : IntKind) (b c : Int) (a : Act) (w : World) (x : Operand) (ty ty' : TypeId) (o : Oper) (t : Nat) (ho : o.op = .binOp .lss ty (.tmp t) x ty') (h1 : a.eval (.tmp t) = .int k b) (h2 : a.eval x = .int k c) :
    (execOp a.eval o).run Tryd.prog w = .ok (.value (.bool (decide (b < c)))) w := by
  simp [execOp, ho, h1, h2]
  go_simp
/-- A number is less than a constant. -/
theorem ob_ltc (t d : Nat) (k : IntKind) (ty ty' : TypeId) (z n : Int) (b : Bool) (hb : decide (z < n) = b) (ho : o.op = .binOp .lss ty (.tmp t) (.const (.int k n)) ty') (hd : o.dst = some d) (hg : GuardOk ops F base N o) (hk : known ops base o t = true) (hv : F t = Fact.eq (.int k z)) (hF : F d = Fact.eq (.bool b)) : Ob ops Q F base N o :=
  ob_one t d _ _ hd hg hk hv hF fun a w h1 => by
    subst hb
    exact go_lss k z n a w _ ty ty' o t ho h1 rfl
theorem go_leq (k : IntKind) (b c : Int) (a : Act) (w : World) (x : Operand) (ty ty' : TypeId) (o : Oper) (t : Nat) (ho : o.op = .binOp .leq ty (.tmp t) x ty') (h1 : a.eval (.tmp t) = .int k b) (h2 : a.eval x = .int k c) :
    (execOp a.eval o).run Tryd.prog w = .ok (.value (.bool (decide (b ≤ c)))) w := by
  simp [execOp, ho, h1, h2]
  go_simp
theorem ob_lec (t d : Nat) (k : IntKind) (ty ty' : TypeId) (z n : Int) (b : Bool) (hb : decide (z ≤ n) = b) (ho : o.op = .binOp .leq ty (.tmp t) (.const (.int k n)) ty') (hd : o.dst = some d) (hg : GuardOk ops F base N o) (hk : known ops base o t = true) (hv : F t = Fact.eq (.int k z)) (hF : F d = Fact.eq (.bool b)) : Ob ops Q F base N o :=
  ob_one t d _ _ hd hg hk hv hF fun a w h1 => by
    subst hb
    exact go_leq k z n a w _ ty ty' o t ho h1 rfl
theorem go_gtr (k : IntKind) (b c : Int) (a : Act) (w : World) (x : Operand) (ty ty' : TypeId) (o : Oper) (t : Nat) (ho : o.op = .binOp .gtr ty (.tmp t) x ty') (h1 : a.eval (.tmp t) = .int k b) (h2 : a.eval x = .int k c) :
    (execOp a.eval o).run Tryd.prog w = .ok (.value (.bool (decide (b > c)))) w := by
  simp [execOp, ho, h1, h2]
  go_simp
theorem ob_gtc (t d : Nat) (k : IntKind) (ty ty' : TypeId) (z n : Int) (b : Bool) (hb : decide (z > n) = b) (ho : o.op = .binOp .gtr ty (.tmp t) (.const (.int k n)) ty') (hd : o.dst = some d) (hg : GuardOk ops F base N o) (hk : known ops base o t = true) (hv : F t = Fact.eq (.int k z)) (hF : F d = Fact.eq (.bool b)) : Ob ops Q F base N o :=
  ob_one t d _ _ hd hg hk hv hF fun a w h1 => by
    subst hb
    exact go_gtr k z n a w _ ty ty' o t ho h1 rfl
theorem go_geq' (k : IntKind) (b c : Int) (a : Act) (w : World) (x : Operand) (ty ty' : TypeId) (o : Oper) (t : Nat) (ho : o.op = .binOp .geq ty (.tmp t) x ty') (h1 : a.eval (.tmp t) = .int k b) (h2 : a.eval x = .int k c) :
    (execOp a.eval o).run Tryd.prog w = .ok (.value (.bool (decide (b ≥ c)))) w := by
  simp [execOp, ho, h1, h2]
  go_simp
theorem ob_gec (t d : Nat) (k : IntKind) (ty ty' : TypeId) (z n : Int) (b : Bool) (hb : decide (z ≥ n) = b) (ho : o.op = .binOp .geq ty (.tmp t) (.const (.int k n)) ty') (hd : o.dst = some d) (hg : GuardOk ops F base N o) (hk : known ops base o t = true) (hv : F t = Fact.eq (.int k z)) (hF : F d = Fact.eq (.bool b)) : Ob ops Q F base N o :=
  ob_one t d _ _ hd hg hk hv hF fun a w h1 => by
    subst hb
    exact go_geq' k z n a w _ ty ty' o t ho h1 rfl
/-- Two flags are compared. -/
theorem ob_eqb (t s d : Nat) (x y b : Bool) (hb : (x == y) = b) (ho : o.op = .binOp .eql 4 (.tmp t) (.tmp s) 4) (hd : o.dst = some d) (hg : GuardOk ops F base N o) (hk : known ops base o t = true) (hk2 : known ops base o s = true) (hv : F t = Fact.eq (.bool x)) (hv2 : F s = Fact.eq (.bool y)) (hF : F d = Fact.eq (.bool b)) : Ob ops Q F base N o :=
  ob_two t s d _ _ _ hd hg hk hk2 hv hv2 hF fun a w h1 h2 => by
    subst hb
    exact go_eql_bool x y a w t s o ho h1 h2
theorem go_neq_bool (b c : Bool) (a : Act) (w : World) (t s : Nat) (o : Oper) (ho : o.op = .binOp .neq 4 (.tmp t) (.tmp s) 4) (h1 : a.eval (.tmp t) = .bool b) (h2 : a.eval (.tmp s) = .bool c) :
    (execOp a.eval o).run Tryd.prog w = .ok (.value (.bool (b != c))) w := by
  simp [execOp, ho, h1, h2]
  go_simp
  cases b <;> cases c <;> rfl
theorem ob_neb (t s d : Nat) (x y b : Bool) (hb : (x != y) = b) (ho : o.op = .binOp .neq 4 (.tmp t) (.tmp s) 4) (hd : o.dst = some d) (hg : GuardOk ops F base N o) (hk : known ops base o t = true) (hk2 : known ops base o s = true) (hv : F t = Fact.eq (.bool x)) (hv2 : F s = Fact.eq (.bool y)) (hF : F d = Fact.eq (.bool b)) : Ob ops Q F base N o :=
  ob_two t s d _ _ _ hd hg hk hk2 hv hv2 hF fun a w h1 h2 => by
    subst hb
    exact go_neq_bool x y a w t s o ho h1 h2
/-- Two numbers are compared. -/
theorem ob_eqi (t s d : Nat) (k : IntKind) (ty ty' : TypeId) (x y : Int) (b : Bool) (hb : (x == y) = b) (ho : o.op = .binOp .eql ty (.tmp t) (.tmp s) ty') (hd : o.dst = some d) (hg : GuardOk ops F base N o) (hk : known ops base o t = true) (hk2 : known ops base o s = true) (hv : F t = Fact.eq (.int k x)) (hv2 : F s = Fact.eq (.int k y)) (hF : F d = Fact.eq (.bool b)) : Ob ops Q F base N o :=
  ob_two t s d _ _ _ hd hg hk hk2 hv hv2 hF fun a w h1 h2 => by
    subst hb
    exact go_eql_int x y a w t s k ty ty' o ho h1 h2
theorem go_neq_int (b c : Int) (a : Act) (w : World) (x : Operand) (t : Nat) (k : IntKind) (ty ty' : TypeId) (o : Oper) (ho : o.op = .binOp .neq ty (.tmp t) x ty') (h1 : a.eval (.tmp t) = .int k b) (h2 : a.eval x = .int k c) :
    (execOp a.eval o).run Tryd.prog w = .ok (.value (.bool (b != c))) w := by
  simp [execOp, ho, h1, h2, eqGuard_at_int, binOp_neq]
theorem ob_nei (t s d : Nat) (k : IntKind) (ty ty' : TypeId) (x y : Int) (b : Bool) (hb : (x != y) = b) (ho : o.op = .binOp .neq ty (.tmp t) (.tmp s) ty') (hd : o.dst = some d) (hg : GuardOk ops F base N o) (hk : known ops base o t = true) (hk2 : known ops base o s = true) (hv : F t = Fact.eq (.int k x)) (hv2 : F s = Fact.eq (.int k y)) (hF : F d = Fact.eq (.bool b)) : Ob ops Q F base N o :=
  ob_two t s d _ _ _ hd hg hk hk2 hv hv2 hF fun a w h1 h2 => by
    subst hb
    exact go_neq_int x y a w _ t k ty ty' o ho h1 h2
theorem ob_nec (t d : Nat) (k : IntKind) (ty ty' : TypeId) (z n : Int) (b : Bool) (hb : (z != n) = b) (ho : o.op = .binOp .neq ty (.tmp t) (.const (.int k n)) ty') (hd : o.dst = some d) (hg : GuardOk ops F base N o) (hk : known ops base o t = true) (hv : F t = Fact.eq (.int k z)) (hF : F d = Fact.eq (.bool b)) : Ob ops Q F base N o :=
  ob_one t d _ _ hd hg hk hv hF fun a w h1 => by
    subst hb
    exact go_neq_int z n a w _ t k ty ty' o ho h1 rfl
/-- An operation whose guard was not run. -/
theorem ob_skip2 (j d t : Nat) (b : Bool) (hgd : o.guard = some (j, b)) (hdj : (ops[j]?).bind Oper.dst = some d) (hk : known ops base o d = true) (hlt : d < N) (hFd : F d = Fact.eq undef) (ht : o.dst = some t) (hF : F t = Fact.eq undef) : Ob ops Q F base N o := by
  intro a w K hN hb hp hK
  have h1 := known_fact hb hp hk
  rw [hFd] at h1
  have h2 : a.tmps[d]? = some undef := by
    have : a.tmps.getD d undef = undef := h1
    rw [Array.getD_eq_getD_getElem?, Array.getElem?_eq_getElem (by omega)] at this
    rw [Array.getElem?_eq_getElem (by omega)]
    exact congrArg some this
  have h3 : ((ops[j]?).bind fun x => x.dst) = some d := hdj
  rw [if_neg (by simp [Region.wanted, hgd, yielded, h3, h2, undef])]
  exact hK undef w (Below.refl _ _) fun s hs => by rw [ht] at hs; injection hs with hs; subst hs; rw [hF]; rfl
/-- 'a || b', a true. -/
theorem ob_pick_or (c t d : Nat) (u : Value) (ho : o.op = .pick (.tmp c) (.const u) (.tmp t)) (hd : o.dst = some d) (hg : GuardOk ops F base N o) (hkc : known ops base o c = true) (hc : F c = Fact.eq (.bool true)) (hF : F d = Fact.eq u) : Ob ops Q F base N o :=
  ob_val hg fun a w hf => ⟨u, w, by
    have h1 := hf c hkc
    rw [hc] at h1
    have h2 : a.tmps[c]?.getD undef = .bool true := by rw [← Array.getD_eq_getD_getElem?]; exact h1
    simp [execOp, ho, Act.eval, h2, asBool], Below.refl _ _, fun s hs => by
    rw [hd] at hs; injection hs with hs; subst hs; rw [hF]; rfl⟩
/-- 'a || b', a false: b. -/
theorem ob_pick_else (c t d : Nat) (u : Value) (ho : o.op = .pick (.tmp c) (.const u) (.tmp t)) (hd : o.dst = some d) (hg : GuardOk ops F base N o) (hkc : known ops base o c = true) (hk : known ops base o t = true) (hc : F c = Fact.eq (.bool false)) (hF : F d = F t) : Ob ops Q F base N o :=
  ob_val hg fun a w hf => ⟨a.tmps.getD t undef, w, by
    have h1 := hf c hkc
    rw [hc] at h1
    have h2 : a.tmps[c]?.getD undef = .bool false := by rw [← Array.getD_eq_getD_getElem?]; exact h1
    simp [execOp, ho, Act.eval, h2, asBool], Below.refl _ _, fun s hs => by
    rw [hd] at hs; injection hs with hs; subst hs; rw [hF]; exact hf t hk⟩
theorem ob_cmul (t d : Nat) (c z r : Int) (ty ty' : TypeId) (hr : IntKind.i64.wrap (c * z) = r) (ho : o.op = .binOp .mul ty (.const (.int .i64 c)) (.tmp t) ty') (hd : o.dst = some d) (hg : GuardOk ops F base N o) (hk : known ops base o t = true) (hv : F t = Fact.eq (.int .i64 z)) (hF : F d = Fact.eq (.int .i64 r)) : Ob ops Q F base N o :=
  ob_one t d _ _ hd hg hk hv hF fun a w h1 => by
    have h3 : a.eval (.const (.int .i64 c)) = .int .i64 c := rfl
    subst hr
    simp [execOp, ho, h1, h3]
    go_simp
theorem ob_addc (k : IntKind) (t d : Nat) (c z r : Int) (ty ty' : TypeId) (hr : k.wrap (z + c) = r) (ho : o.op = .binOp .add ty (.tmp t) (.const (.int k c)) ty') (hd : o.dst = some d) (hg : GuardOk ops F base N o) (hk : known ops base o t = true) (hv : F t = Fact.eq (.int k z)) (hF : F d = Fact.eq (.int k r)) : Ob ops Q F base N o :=
  ob_one t d _ _ hd hg hk hv hF fun a w h1 => by
    have h3 : a.eval (.const (.int k c)) = .int k c := rfl
    subst hr
    simp [execOp, ho, h1, h3]
    go_simp
theorem ob_add2 (k : IntKind) (t s d : Nat) (y z r : Int) (ty ty' : TypeId) (hr : k.wrap (y + z) = r) (ho : o.op = .binOp .add ty (.tmp t) (.tmp s) ty') (hd : o.dst = some d) (hg : GuardOk ops F base N o) (hk : known ops base o t = true) (hk2 : known ops base o s = true) (hv : F t = Fact.eq (.int k y)) (hv2 : F s = Fact.eq (.int k z)) (hF : F d = Fact.eq (.int k r)) : Ob ops Q F base N o :=
  ob_two t s d _ _ _ hd hg hk hk2 hv hv2 hF fun a w h1 h2 => by
    subst hr
    simp [execOp, ho, h1, h2]
    go_simp
/-- A known value, in memory that has only grown since w0. -/
def Fact.at_ (w0 : World) (u : Value) : Fact := ⟨fun v w => v = u ∧ Below w0.heap.size w0 w, fun _ _ _ ⟨h, hb⟩ hb' => ⟨h, upG hb hb'⟩⟩
/-- A value read from memory that was there. -/
theorem ob_loadat (w0 : World) (t d : Nat) (ty : TypeId) (p : Addr) (u : Value) (ho : o.op = .load ty (.tmp t)) (hd : o.dst = some d) (hg : GuardOk ops F base N o) (hk : known ops base o t = true) (hv : F t = Fact.at_ w0 (.pointer (some p))) (hF : F d = Fact.eq u)
    (hrun : ∀ w, Below w0.heap.size w0 w → (Instr.loadAt ty (.pointer (some p))).run Tryd.prog w = .ok u w) : Ob ops Q F base N o :=
  ob_val hg fun a w hf => by
    have h1 := hf t hk
    rw [hv] at h1
    obtain ⟨h2, hb⟩ := h1
    have h3 : a.eval (.tmp t) = .pointer (some p) := h2
    exact ⟨u, w, by simp [execOp, ho, h3, hrun w hb], Below.refl _ _, fun s hs => by rw [hd] at hs; injection hs with hs; subst hs; rw [hF]; rfl⟩
/-- The address of a field. -/
theorem ob_fieldat (w0 : World) (t d k : Nat) (ty : TypeId) (p p' : Addr) (ho : o.op = .fieldAddr ty (.tmp t) k) (hd : o.dst = some d) (hg : GuardOk ops F base N o) (hk : known ops base o t = true) (hv : F t = Fact.at_ w0 (.pointer (some p))) (hF : F d = Fact.at_ w0 (.pointer (some p')))
    (hrun : ∀ w, (Instr.fieldAt ty (.pointer (some p)) k).run Tryd.prog w = .ok (.pointer (some p')) w) : Ob ops Q F base N o :=
  ob_val hg fun a w hf => by
    have h1 := hf t hk
    rw [hv] at h1
    obtain ⟨h2, hb⟩ := h1
    have h3 : a.eval (.tmp t) = .pointer (some p) := h2
    exact ⟨.pointer (some p'), w, by simp [execOp, ho, h3, hrun w], Below.refl _ _, fun s hs => by rw [hd] at hs; injection hs with hs; subst hs; rw [hF]; exact ⟨rfl, hb⟩⟩
/-- A product of two slots. -/
theorem ob_mul2 (k : IntKind) (t s d : Nat) (y z r : Int) (ty ty' : TypeId) (hr : k.wrap (y * z) = r) (ho : o.op = .binOp .mul ty (.tmp t) (.tmp s) ty') (hd : o.dst = some d) (hg : GuardOk ops F base N o) (hk : known ops base o t = true) (hk2 : known ops base o s = true) (hv : F t = Fact.eq (.int k y)) (hv2 : F s = Fact.eq (.int k z)) (hF : F d = Fact.eq (.int k r)) : Ob ops Q F base N o :=
  ob_two t s d _ _ _ hd hg hk hk2 hv hv2 hF fun a w h1 h2 => by
    subst hr
    simp [execOp, ho, h1, h2]
    go_simp
/-- Is oneG slot less, or greater, than another? -/
theorem ob_gt2 (k : IntKind) (t s d : Nat) (y z : Int) (b : Bool) (ty ty' : TypeId) (hb : decide (y > z) = b) (ho : o.op = .binOp .gtr ty (.tmp t) (.tmp s) ty') (hd : o.dst = some d) (hg : GuardOk ops F base N o) (hk : known ops base o t = true) (hk2 : known ops base o s = true) (hv : F t = Fact.eq (.int k y)) (hv2 : F s = Fact.eq (.int k z)) (hF : F d = Fact.eq (.bool b)) : Ob ops Q F base N o :=
  ob_two t s d _ _ _ hd hg hk hk2 hv hv2 hF fun a w h1 h2 => by
    subst hb
    exact go_gtr k y z a w _ ty ty' o t ho h1 h2
/-- Two equal values are compared. -/
theorem ob_same (t s d : Nat) (u : Value) (b : Bool) (hd : o.dst = some d) (hg : GuardOk ops F base N o) (hk : known ops base o t = true) (hk2 : known ops base o s = true) (hv : F t = Fact.eq u) (hv2 : F s = Fact.eq u) (hF : F d = Fact.eq (.bool b))
    (h : ∀ (a : Act) (w : World), a.eval (.tmp t) = u → a.eval (.tmp s) = u → (execOp a.eval o).run Tryd.prog w = .ok (.value (.bool b)) w) : Ob ops Q F base N o :=
  ob_two t s d _ _ _ hd hg hk hk2 hv hv2 hF h
theorem fcs {α : Type} {p : α → Prop} {a : α} {l : List α} (h : p a ∧ ∀ x ∈ l, p x) : ∀ x ∈ a :: l, p x := List.forall_mem_cons.2 h
theorem fnl {α : Type} {p : α → Prop} : ∀ x ∈ ([] : List α), p x := fun _ h => absurd h List.not_mem_nil
end
/-- What is known of a slot. -/
def FF (ks : List (Nat × Fact)) (t : Nat) : Fact := (ks.lookup t).getD Fact.any
end Go.Proofs.YtcjaaijohapeaaaDoor

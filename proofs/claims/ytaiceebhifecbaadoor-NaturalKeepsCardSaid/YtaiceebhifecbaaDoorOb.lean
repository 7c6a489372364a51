/-
  The obligations of single operations in a region that only adds memory. No conditions beyond those that each names.
-/
import Derived.Test.YtaiceebhifecbaaDoorReg
namespace Go.Proofs.YtaiceebhifecbaaDoor
open Go.RowKit
/-- The slot t came in, or is written by an operation that this one waits for. -/
def known (ops : Array Oper) (base : List Nat) (o : Oper) (t : Nat) : Bool := base.contains t || o.after.any fun e => Region.binds .any e && (ops[e.on]?).bind Oper.dst == some t
section
variable {ops : Array Oper} {Q : Exit → Act → World → Prop} {F : Nat → Fact} {base : List Nat} {N : Nat} {o : Oper}
theorem known_fact {a : Act} {w : World} (hb : ∀ t ∈ base, (F t).holds (a.tmps.getD t undef) w)
    (hp : ∀ e ∈ o.after, Region.binds .any e = true → ∀ t, (ops[e.on]?).bind Oper.dst = some t → (F t).holds (a.tmps.getD t undef) w) {t : Nat} (hk : known ops base o t = true) : (F t).holds (a.tmps.getD t undef) w := by
  unfold known at hk
  rw [Bool.or_eq_true] at hk
  rcases hk with h | h
  · exact hb t (List.contains_iff_mem.1 h)
  · rw [Array.any_eq_true'] at h
    obtain ⟨e, he, h2⟩ := h
    simp only [Bool.and_eq_true, beq_iff_eq] at h2
    exact hp e he h2.1 t h2.2
/-- The operation's guard is met. -/
def GuardOk (ops : Array Oper) (F : Nat → Fact) (base : List Nat) (N : Nat) (o : Oper) : Prop :=
  o.guard = none ∨ ∃ (j d : Nat) (b : Bool), o.guard = some (j, b) ∧ (ops[j]?).bind Oper.dst = some d ∧ known ops base o d = true ∧ d < N ∧ F d = Fact.eq (.bool b)
theorem wanted_of {a : Act} {w : World} (hN : a.tmps.size = N) (hf : ∀ t, known ops base o t = true → (F t).holds (a.tmps.getD t undef) w) (hg : GuardOk ops F base N o) : Region.wanted o (yielded ops a.tmps) = true := by
  rcases hg with h | ⟨j, d, b, h, hd, hk, hlt, hF⟩
  · simp [Region.wanted, h]
  · have h1 := hf d hk
    rw [hF] at h1
    have h2 : a.tmps[d]? = some (.bool b) := by
      have : a.tmps.getD d undef = .bool b := h1
      rw [Array.getD_eq_getD_getElem?, Array.getElem?_eq_getElem (by omega)] at this
      rw [Array.getElem?_eq_getElem (by omega)]
      exact congrArg some this
    have h3 : ((ops[j]?).bind fun x => x.dst) = some d := hd
    simp [Region.wanted, h, yielded, h3, h2]
theorem ob_val (hg : GuardOk ops F base N o) (h : ∀ (a : Act) (w : World), (∀ t, known ops base o t = true → (F t).holds (a.tmps.getD t undef) w) →
    ∃ v w', (execOp a.eval o).run Tryd.prog w = .ok (.value v) w' ∧ Below w.heap.size w w' ∧ ∀ t, o.dst = some t → (F t).holds v w') : Ob ops Q F base N o := by
  intro a w K hN hb hp hK
  have hf := fun t (hk : known ops base o t = true) => known_fact hb hp hk
  rw [if_pos (wanted_of hN hf hg)]
  obtain ⟨v, w', hr, hbw, hF⟩ := h a w hf
  unfold Oper.wp
  rw [hr]
  exact hK v w' hbw hF
theorem ob_enter (hg : GuardOk ops F base N o) (h : ∀ (a : Act) (w : World), (∀ t, known ops base o t = true → (F t).holds (a.tmps.getD t undef) w) →
    ∃ f args, (execOp a.eval o).run Tryd.prog w = .ok (.enter f args) w ∧ Calls Tryd.prog f args w fun e w' => ∃ v, e = .returned v ∧ Below w.heap.size w w' ∧ ∀ t, o.dst = some t → (F t).holds v w') : Ob ops Q F base N o := by
  intro a w K hN hb hp hK
  have hf := fun t (hk : known ops base o t = true) => known_fact hb hp hk
  rw [if_pos (wanted_of hN hf hg)]
  obtain ⟨f, args, hr, hc⟩ := h a w hf
  unfold Oper.wp
  rw [hr]
  refine hc.mono ?_
  rintro e w' ⟨v, rfl, hbw, hF⟩
  exact hK v w' hbw hF
/-- A copy of a slot. -/
theorem ob_copy (t d : Nat) (ho : o.op = .move (.tmp t) ∨ o.op = .assign (.tmp t)) (hd : o.dst = some d) (hg : GuardOk ops F base N o) (hk : known ops base o t = true) (hF : F d = F t) : Ob ops Q F base N o :=
  ob_val hg fun a w hf => ⟨a.tmps.getD t undef, w, by rcases ho with h | h <;> simp [execOp, h, Act.eval], Below.refl _ _, fun s hs => by
    rw [hd] at hs; injection hs with hs; subst hs; rw [hF]; exact hf t hk⟩
/-- A constant. -/
theorem ob_const (v : Value) (d : Nat) (ho : o.op = .move (.const v) ∨ o.op = .assign (.const v)) (hd : o.dst = some d) (hg : GuardOk ops F base N o) (hF : F d = Fact.eq v) : Ob ops Q F base N o :=
  ob_val hg fun a w _ => ⟨v, w, by rcases ho with h | h <;> simp [execOp, h, Act.eval], Below.refl _ _, fun s hs => by
    rw [hd] at hs; injection hs with hs; subst hs; rw [hF]; rfl⟩
/-- 'a && b', a true: b. -/
theorem ob_pick (c t d : Nat) (u : Value) (ho : o.op = .pick (.tmp c) (.tmp t) (.const u)) (hd : o.dst = some d) (hg : GuardOk ops F base N o) (hkc : known ops base o c = true) (hk : known ops base o t = true) (hc : F c = Fact.eq (.bool true)) (hF : F d = F t) : Ob ops Q F base N o :=
  ob_val hg fun a w hf => ⟨a.tmps.getD t undef, w, by
    have h1 := hf c hkc
    rw [hc] at h1
    have h2 : a.tmps.getD c undef = .bool true := h1
    simp [execOp, ho, Act.eval, h2, asBool], Below.refl _ _, fun s hs => by
    rw [hd] at hs; injection hs with hs; subst hs; rw [hF]; exact hf t hk⟩
/-- A number out of a local variable. -/
theorem ob_load (t d : Nat) (zs : List Nat) (ho : o.op = .load 24 (.tmp t)) (hd : o.dst = some d) (hg : GuardOk ops F base N o) (hk : known ops base o t = true) (hv : F t = Fact.var zs) (hF : F d = Fact.num zs) : Ob ops Q F base N o :=
  ob_val hg fun a w hf => by
    have h1 := hf t hk
    rw [hv] at h1
    obtain ⟨b, A, c, h2, hvar⟩ := h1
    have hc := hvar.cell
    refine ⟨nt A zs.length c, w, ?_, Below.refl _ _, fun s hs => ?_⟩
    · have h3 : a.eval (.tmp t) = .pointer (some ⟨b, 0, none⟩) := h2
      have hrun : (Instr.loadAt 24 (.pointer (some ⟨b, 0, none⟩))).run Tryd.prog w = .ok (nt A zs.length c) w := by
        go_simp
      simp [execOp, ho, h3, hrun]
    · rw [hd] at hs; injection hs with hs; subst hs; rw [hF]
      exact ⟨A, c, rfl, hvar.num⟩
end
end Go.Proofs.YtaiceebhifecbaaDoor

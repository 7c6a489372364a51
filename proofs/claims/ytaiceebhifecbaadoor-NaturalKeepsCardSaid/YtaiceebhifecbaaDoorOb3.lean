/-
  The obligations of pure operations on known operands, in a region that only adds memory. No conditions beyond those that each names.
-/
import Derived.Test.YtaiceebhifecbaaDoorT22
namespace Go.Proofs.YtaiceebhifecbaaDoor
open Go.RowKit
section
variable {ops : Array Oper} {Q : Exit → Act → World → Prop} {F : Nat → Fact} {base : List Nat} {N : Nat} {o : Oper}
theorem ob_two (t s d : Nat) (v u r : Value) (hd : o.dst = some d) (hg : GuardOk ops F base N o) (hk : known ops base o t = true) (hk2 : known ops base o s = true) (ht : F t = Fact.eq v) (hs : F s = Fact.eq u) (hF : F d = Fact.eq r)
    (h : ∀ (a : Act) (w : World), a.eval (.tmp t) = v → a.eval (.tmp s) = u → (execOp a.eval o).run Tryd.prog w = .ok (.value r) w) : Ob ops Q F base N o :=
  ob_val hg fun a w hf => ⟨r, w, by
    have h1 := hf t hk
    have h2 := hf s hk2
    rw [ht] at h1
    rw [hs] at h2
    exact h a w h1 h2, Below.refl _ _, fun x hx => by
    rw [hd] at hx; injection hx with hx; subst hx; rw [hF]; rfl⟩
theorem ob_one (t d : Nat) (v r : Value) (hd : o.dst = some d) (hg : GuardOk ops F base N o) (hk : known ops base o t = true) (ht : F t = Fact.eq v) (hF : F d = Fact.eq r)
    (h : ∀ (a : Act) (w : World), a.eval (.tmp t) = v → (execOp a.eval o).run Tryd.prog w = .ok (.value r) w) : Ob ops Q F base N o :=
  ob_val hg fun a w hf => ⟨r, w, by
    have h1 := hf t hk
    rw [ht] at h1
    exact h a w h1, Below.refl _ _, fun x hx => by
    rw [hd] at hx; injection hx with hx; subst hx; rw [hF]; rfl⟩
theorem go_eql_bool (b c : Bool) (a : Act) (w : World) (t s : Nat) (o : Oper) (ho : o.op = .binOp .eql 4 (.tmp t) (.tmp s) 4) (h1 : a.eval (.tmp t) = .bool b) (h2 : a.eval (.tmp s) = .bool c) :
    (execOp a.eval o).run Tryd.prog w = .ok (.value (.bool (b == c))) w := by
  simp [execOp, ho, h1, h2]
  go_simp
theorem go_eql_int (b c : Int) (a : Act) (w : World) (t s : Nat) (k : IntKind) (ty ty' : TypeId) (o : Oper) (ho : o.op = .binOp .eql ty (.tmp t) (.tmp s) ty') (h1 : a.eval (.tmp t) = .int k b) (h2 : a.eval (.tmp s) = .int k c) :
    (execOp a.eval o).run Tryd.prog w = .ok (.value (.bool (b == c))) w := by
  simp [execOp, ho, h1, h2, eqGuard_at_int, binOp_eql]
theorem go_geq_int (b c : Int) (a : Act) (w : World) (t : Nat) (k : IntKind) (o : Oper) (ho : o.op = .binOp .geq 3 (.tmp t) (.const (.int k c)) 3) (h1 : a.eval (.tmp t) = .int k b) :
    (execOp a.eval o).run Tryd.prog w = .ok (.value (.bool (decide (b ≥ c)))) w := by
  have h3 : a.eval (.const (.int k c)) = .int k c := rfl
  simp [execOp, ho, h1, h3]
  go_simp
end
end Go.Proofs.YtaiceebhifecbaaDoor

/-
  Obligations of the operations of the reference's Parse. No conditions beyond those that each names.
-/
import Derived.Test.YtaiceebhifecbaaDoorT34
namespace Go.Proofs.YtaiceebhifecbaaDoor
open Go.RowKit
section
variable {ops : Array Oper} {Q : Exit → Act → World → Prop} {F : Nat → Fact} {base : List Nat} {N : Nat} {o : Oper}
theorem ob_callm (f : FuncId) (t s d : Nat) (v : Value) (tys : Array TypeId) (ho : o.op = .call { callee := .value (.func f), args := #[.tmp t, .const v, .tmp s], argTypes := tys }) (hd : o.dst = some d) (hg : GuardOk ops F base N o) (hk : known ops base o t = true) (hk2 : known ops base o s = true) (hfn : fnOk f = true)
    (hc : ∀ x u w, (F t).holds x w → (F s).holds u w → Calls Tryd.prog f #[x, v, u] w (Ret (F d) w)) : Ob ops Q F base N o :=
  ob_enter hg fun a w hf => ⟨f, #[a.tmps.getD t undef, v, a.tmps.getD s undef], by simpa [execOp, ho, resolve, Act.eval] using run_invoke hfn _ w, (hc _ _ w (hf t hk) (hf s hk2)).mono fun e w' ⟨u, he, hb, hr⟩ => ⟨u, he, hb, fun s hs => by
    rw [hd] at hs; injection hs with hs; subst hs; exact hr⟩⟩
theorem go_index_str (s : ByteArray) (k c : Nat) (hk : k < s.size) (hc : s[k].toNat = c) (a : Act) (w : World) (t u : Nat) (o : Oper) (ho : o.op = .index 9 (.tmp t) (.tmp u)) (h1 : a.eval (.tmp t) = .string s) (h2 : a.eval (.tmp u) = .int .i64 (k : Int)) :
    (execOp a.eval o).run Tryd.prog w = .ok (.value (.int .u8 (c : Int))) w := by
  subst hc
  simp [execOp, ho, h1, h2]
  go_simp
theorem go_sub_u8 (c r : Nat) (hr : c = r + 48) (hlt : c < 256) (a : Act) (w : World) (t : Nat) (o : Oper) (ho : o.op = .binOp .sub 5 (.tmp t) (.const (.int .u8 48)) 5) (h1 : a.eval (.tmp t) = .int .u8 (c : Int)) :
    (execOp a.eval o).run Tryd.prog w = .ok (.value (.int .u8 (r : Int))) w := by
  have h2 : a.eval (.const (.int .u8 48)) = .int .u8 48 := rfl
  subst hr
  simp [execOp, ho, h1, h2]
  go_simp
  simp [IntKind.wrap, IntKind.signed, IntKind.bits]
  omega
theorem go_conv_u8 (r : Nat) (hr : r < 256) (a : Act) (w : World) (t : Nat) (o : Oper) (ho : o.op = .convert 5 33 (.tmp t)) (h1 : a.eval (.tmp t) = .int .u8 (r : Int)) :
    (execOp a.eval o).run Tryd.prog w = .ok (.value (.int .u64 (r : Int))) w := by
  have hw : IntKind.u64.wrap (r : Int) = (r : Int) := by
    simp [IntKind.wrap, IntKind.signed, IntKind.bits]
    omega
  simp [execOp, ho, h1]
  go_simp
end
end Go.Proofs.YtaiceebhifecbaaDoor

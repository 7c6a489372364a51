/-
  The obligations of calls in a region that only adds memory, and the contracts told by facts. Conditions: numbers of at most 400 digits.
-/
import Derived.Test.YtaiceebhifecbaaDoorOb
namespace Go.Proofs.YtaiceebhifecbaaDoor
open Go.RowKit
/-- A call that returns what meets R, and only adds memory. -/
def Ret (R : Fact) (w : World) (e : Ending) (w' : World) : Prop := ∃ u, e = .returned u ∧ Below w.heap.size w w' ∧ R.holds u w'
/-- The function has a body of its own. -/
noncomputable def fnOk (f : FuncId) : Bool := match Tryd.prog.funcs[f]? with
  | some fn => !(fn.name == "runtime.NumGoroutine") && !fn.body.isNone
  | none => false
theorem run_callFunc {f : FuncId} (h : fnOk f = true) (args : Array Value) (w : World) : (callFunc f args).run Tryd.prog w = .ok (.enter f args) w := by
  unfold fnOk at h
  cases hf : Tryd.prog.funcs[f]? with
  | none => rw [hf] at h; cases h
  | some fn =>
    rw [hf] at h
    simp only [Bool.and_eq_true, Bool.not_eq_true'] at h
    have h1 : fn.name ≠ "runtime.NumGoroutine" := by simpa using h.1
    have h2 : fn.body ≠ none := by intro e; have := h.2; rw [e] at this; cases this
    simp [callFunc, hf, h1, h2]
theorem run_invoke {f : FuncId} (h : fnOk f = true) (args : Array Value) (w : World) : ((Deferred.ofValue (.func (.func f) #[] #[]) args).run Tryd.prog w).andThen (fun d w' => (invoke d.target d.args).run Tryd.prog w') = .ok (.enter f args) w := by
  simp [Deferred.ofValue, invoke, run_callFunc h]
section
variable {ops : Array Oper} {Q : Exit → Act → World → Prop} {F : Nat → Fact} {base : List Nat} {N : Nat} {o : Oper}
theorem ob_call1 (f : FuncId) (t d : Nat) (tys : Array TypeId) (ho : o.op = .call { callee := .value (.func f), args := #[.tmp t], argTypes := tys }) (hd : o.dst = some d) (hg : GuardOk ops F base N o) (hk : known ops base o t = true) (hfn : fnOk f = true)
    (hc : ∀ v w, (F t).holds v w → Calls Tryd.prog f #[v] w (Ret (F d) w)) : Ob ops Q F base N o :=
  ob_enter hg fun a w hf => ⟨f, #[a.tmps.getD t undef], by simpa [execOp, ho, resolve, Act.eval] using run_invoke hfn _ w, (hc _ w (hf t hk)).mono fun e w' ⟨u, he, hb, hr⟩ => ⟨u, he, hb, fun s hs => by
    rw [hd] at hs; injection hs with hs; subst hs; exact hr⟩⟩
theorem ob_call2 (f : FuncId) (t s d : Nat) (tys : Array TypeId) (ho : o.op = .call { callee := .value (.func f), args := #[.tmp t, .tmp s], argTypes := tys }) (hd : o.dst = some d) (hg : GuardOk ops F base N o) (hk : known ops base o t = true) (hk2 : known ops base o s = true) (hfn : fnOk f = true)
    (hc : ∀ v u w, (F t).holds v w → (F s).holds u w → Calls Tryd.prog f #[v, u] w (Ret (F d) w)) : Ob ops Q F base N o :=
  ob_enter hg fun a w hf => ⟨f, #[a.tmps.getD t undef, a.tmps.getD s undef], by simpa [execOp, ho, resolve, Act.eval] using run_invoke hfn _ w, (hc _ _ w (hf t hk) (hf s hk2)).mono fun e w' ⟨u, he, hb, hr⟩ => ⟨u, he, hb, fun s hs => by
    rw [hd] at hs; injection hs with hs; subst hs; exact hr⟩⟩
theorem ob_callc (f : FuncId) (v : Value) (d : Nat) (tys : Array TypeId) (ho : o.op = .call { callee := .value (.func f), args := #[.const v], argTypes := tys }) (hd : o.dst = some d) (hg : GuardOk ops F base N o) (hfn : fnOk f = true)
    (hc : ∀ w, Calls Tryd.prog f #[v] w (Ret (F d) w)) : Ob ops Q F base N o :=
  ob_enter hg fun a w _ => ⟨f, #[v], by simpa [execOp, ho, resolve, Act.eval] using run_invoke hfn _ w, (hc w).mono fun e w' ⟨u, he, hb, hr⟩ => ⟨u, he, hb, fun s hs => by
    rw [hd] at hs; injection hs with hs; subst hs; exact hr⟩⟩
theorem ob_call0 (f : FuncId) (d : Nat) (tys : Array TypeId) (ho : o.op = .call { callee := .value (.func f), args := #[], argTypes := tys }) (hd : o.dst = some d) (hg : GuardOk ops F base N o) (hfn : fnOk f = true)
    (hc : ∀ w, Calls Tryd.prog f #[] w (Ret (F d) w)) : Ob ops Q F base N o :=
  ob_enter hg fun a w _ => ⟨f, #[], by simpa [execOp, ho, resolve, Act.eval] using run_invoke hfn _ w, (hc w).mono fun e w' ⟨u, he, hb, hr⟩ => ⟨u, he, hb, fun s hs => by
    rw [hd] at hs; injection hs with hs; subst hs; exact hr⟩⟩
theorem run_build (w : World) (vs : List Int) (h : vs.length ≤ 3) (h0 : vs ≠ []) : (Instr.buildSlice 22 vs.length ((vs.map fun z => Value.int .u32 z).toArray.mapIdx fun i v => (i, v))).run Tryd.prog w = .ok (.slice (some ⟨w.heap.size, 0, none⟩) vs.length vs.length) (w.alloc (.cells (vs.map fun z => Value.int .u32 z).toArray 35)) := by
  match vs, h, h0 with
  | [x], _, _ => simp; go_simp
  | [x, y], _, _ => simp; go_simp
  | [x, y, z], _, _ => simp; go_simp
theorem ob_build1 (z : Nat) (d : Nat) (ho : o.op = .buildSlice 22 1 #[(0, .const (.int .u32 (z : Int)))]) (hd : o.dst = some d) (hg : GuardOk ops F base N o) (hF : F d = Fact.row [z]) : Ob ops Q F base N o :=
  ob_val hg fun a w _ => ⟨.slice (some ⟨w.heap.size, 0, none⟩) 1 1, w.alloc (.cells #[Value.int .u32 (z : Int)] 35), by
    have h := run_build w [(z : Int)] (by simp) (by simp)
    simp at h
    simp [execOp, ho, Act.eval, h], one _ _, fun s hs => by
    rw [hd] at hs; injection hs with hs; subst hs; rw [hF]
    exact ⟨_, 1, rfl, rd_lits w _ [z] (by simp)⟩⟩
theorem ob_build2 (y z : Nat) (d : Nat) (ho : o.op = .buildSlice 22 2 #[(0, .const (.int .u32 (y : Int))), (1, .const (.int .u32 (z : Int)))]) (hd : o.dst = some d) (hg : GuardOk ops F base N o) (hF : F d = Fact.row [y, z]) : Ob ops Q F base N o :=
  ob_val hg fun a w _ => ⟨.slice (some ⟨w.heap.size, 0, none⟩) 2 2, w.alloc (.cells #[Value.int .u32 (y : Int), Value.int .u32 (z : Int)] 35), by
    have h := run_build w [(y : Int), (z : Int)] (by simp) (by simp)
    simp at h
    simp [execOp, ho, Act.eval, h], one _ _, fun s hs => by
    rw [hd] at hs; injection hs with hs; subst hs; rw [hF]
    exact ⟨_, 2, rfl, rd_lits w _ [y, z] (by simp)⟩⟩
theorem ob_build3 (x y z : Nat) (d : Nat) (ho : o.op = .buildSlice 22 3 #[(0, .const (.int .u32 (x : Int))), (1, .const (.int .u32 (y : Int))), (2, .const (.int .u32 (z : Int)))]) (hd : o.dst = some d) (hg : GuardOk ops F base N o) (hF : F d = Fact.row [x, y, z]) : Ob ops Q F base N o :=
  ob_val hg fun a w _ => ⟨.slice (some ⟨w.heap.size, 0, none⟩) 3 3, w.alloc (.cells #[Value.int .u32 (x : Int), Value.int .u32 (y : Int), Value.int .u32 (z : Int)] 35), by
    have h := run_build w [(x : Int), (y : Int), (z : Int)] (by simp) (by simp)
    simp at h
    simp [execOp, ho, Act.eval, h], one _ _, fun s hs => by
    rw [hd] at hs; injection hs with hs; subst hs; rw [hF]
    exact ⟨_, 3, rfl, rd_lits w _ [x, y, z] (by simp)⟩⟩
theorem ob_eql_int (k : IntKind) (n : Int) (t d : Nat) (ty ty' : TypeId) (ho : o.op = .binOp .eql ty (.tmp t) (.const (.int k n)) ty') (hd : o.dst = some d) (hg : GuardOk ops F base N o) (hk : known ops base o t = true) (ht : F t = Fact.eq (.int k n)) (hF : F d = Fact.eq (.bool true)) : Ob ops Q F base N o :=
  ob_val hg fun a w hf => ⟨.bool true, w, by
    have h1 := hf t hk
    rw [ht] at h1
    have h2 : a.eval (.tmp t) = .int k n := h1
    have h3 : a.eval (.const (.int k n)) = .int k n := rfl
    simp [execOp, ho, h2, h3, eqGuard_at_int, binOp_eql], Below.refl _ _, fun s hs => by
    rw [hd] at hs; injection hs with hs; subst hs; rw [hF]; rfl⟩
theorem ob_eql_str (s : ByteArray) (t d : Nat) (ty' : TypeId) (ho : o.op = .binOp .eql 9 (.tmp t) (.const (.string s)) ty') (hd : o.dst = some d) (hg : GuardOk ops F base N o) (hk : known ops base o t = true) (ht : F t = Fact.eq (.string s)) (hF : F d = Fact.eq (.bool true)) : Ob ops Q F base N o :=
  ob_val hg fun a w hf => ⟨.bool true, w, by
    have h1 := hf t hk
    rw [ht] at h1
    have h2 : a.eval (.tmp t) = .string s := h1
    have h3 : a.eval (.const (.string s)) = .string s := rfl
    have h4 : (binOp .eql 9 (.string s) (.string s)).run Tryd.prog w = .ok (.bool true) w := by go_simp
    simp [execOp, ho, h2, h3, eqGuard_at_string, h4], Below.refl _ _, fun s hs => by
    rw [hd] at hs; injection hs with hs; subst hs; rw [hF]; rfl⟩
end
/-! ### The contracts, told by facts -/
theorem num_of_fr {B : Nat} {w : World} {A : Option Addr} {c : Nat} {zs : List Nat} (h : Fr B w A zs) (hc : zs.length ≤ c) (hd : Nm.Dig zs) (hm : zs.length ≤ 400) : (Fact.num zs).holds (nt A zs.length c) w := ⟨A, c, rfl, h.num hc hd hm⟩
theorem c_nat (zs : List Nat) (hd : Nm.Dig zs) (hm : zs.length ≤ 400) : ∀ v w, (Fact.row zs).holds v w → Calls Tryd.prog 36 #[v] w (Ret (Fact.num zs) w) := by
  rintro v w ⟨A, c, rfl, h⟩
  exact (nat_n zs h rfl hm).mono fun e w' ⟨A', c', he, hc, hf, hb⟩ => ⟨_, he, hb, num_of_fr hf hc hd hm⟩
theorem c_same (xs ys : List Nat) (b : Bool) (hb : decide (xs = ys) = b) : ∀ v u w, (Fact.num xs).holds v w → (Fact.num ys).holds u w → Calls Tryd.prog 18 #[v, u] w (Ret (Fact.eq (.bool b)) w) := by
  rintro v u w ⟨A, c, rfl, h⟩ ⟨B, d, rfl, k⟩
  exact (same_n h k b hb).mono fun e w' ⟨he, hb⟩ => ⟨_, he, hb, rfl⟩
theorem c_add (xs ys rs : List Nat) (hr : Nm.nat (Nm.val xs + Nm.val ys) = rs) (hm : rs.length ≤ 400) : ∀ v u w, (Fact.num xs).holds v w → (Fact.num ys).holds u w → Calls Tryd.prog 19 #[v, u] w (Ret (Fact.num rs) w) := by
  rintro v u w ⟨A, c, rfl, h⟩ ⟨B, d, rfl, k⟩
  exact (add_n h k rs hr).mono fun e w' ⟨A', c', he, hc, hf, hb⟩ => ⟨_, he, hb, num_of_fr hf hc (hr ▸ Nm.dig_nat _) hm⟩
theorem c_mul (xs ys rs : List Nat) (hr : Nm.nat (Nm.val xs * Nm.val ys) = rs) (hm : rs.length ≤ 400) : ∀ v u w, (Fact.num xs).holds v w → (Fact.num ys).holds u w → Calls Tryd.prog 21 #[v, u] w (Ret (Fact.num rs) w) := by
  rintro v u w ⟨A, c, rfl, h⟩ ⟨B, d, rfl, k⟩
  exact (mul_n h k rs hr).mono fun e w' ⟨A', c', he, hc, hf, hb⟩ => ⟨_, he, hb, num_of_fr hf hc (hr ▸ Nm.dig_nat _) hm⟩
theorem c_gcd (L : Nat) (hL : DivOk L) (xs ys rs : List Nat) (hl : Nm.tlen ys ≤ L) (hr : Nm.nat (Nat.gcd (Nm.val xs) (Nm.val ys)) = rs) (hm : rs.length ≤ 400) : ∀ v u w, (Fact.num xs).holds v w → (Fact.num ys).holds u w → Calls Tryd.prog 29 #[v, u] w (Ret (Fact.num rs) w) := by
  rintro v u w ⟨A, c, rfl, h⟩ ⟨B, d, rfl, k⟩
  exact (gcd_n L hL h k hl rs hr).mono fun e w' ⟨A', c', he, hc, hf, hb⟩ => ⟨_, he, hb, num_of_fr hf hc (hr ▸ Nm.dig_nat _) hm⟩
theorem c_cmp (xs ys : List Nat) (z : Int) (hz : cmpI (Nm.val xs) (Nm.val ys) = z) : ∀ v u w, (Fact.num xs).holds v w → (Fact.num ys).holds u w → Calls Tryd.prog 16 #[v, u] w (Ret (Fact.eq (.int .i64 z)) w) := by
  rintro v u w ⟨A, c, rfl, h⟩ ⟨B, d, rfl, k⟩
  subst hz
  exact (cmp_n h k).mono fun e w' ⟨he, hb⟩ => ⟨_, he, hb, rfl⟩
theorem c_bits (xs : List Nat) (n : Nat) (z : Int) (hn : Nm.blen (Nm.val xs) = n) (hz : (n : Int) = z) : ∀ v w, (Fact.num xs).holds v w → Calls Tryd.prog 23 #[v] w (Ret (Fact.eq (.int .i64 z)) w) := by
  rintro v w ⟨A, c, rfl, h⟩
  subst hz
  exact (bits_n h n hn).mono fun e w' ⟨he, hb⟩ => ⟨_, he, hb, rfl⟩
theorem c_format (xs : List Nat) (s : ByteArray) (hs : Nm.dec (Nm.val xs) = Bt s) : ∀ v w, (Fact.num xs).holds v w → Calls Tryd.prog 33 #[v] w (Ret (Fact.eq (.string s)) w) := by
  rintro v w ⟨A, c, rfl, h⟩
  exact (format_n h).mono fun e w' ⟨s', he, hB, hb⟩ => ⟨_, he, hb, by rw [Bt_inj (hB.trans hs)]; rfl⟩
end Go.Proofs.YtaiceebhifecbaaDoor

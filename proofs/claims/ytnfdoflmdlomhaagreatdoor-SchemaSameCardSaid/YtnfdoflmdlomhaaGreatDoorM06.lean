import Derived.Test.YtnfdoflmdlomhaaGreatDoorRows
import Derived.WalkKit
import Derived.WalkSpells
import Derived.WalkLawsBesides
import Derived.Lib.Hide
import Derived.IntWalk
import Derived.BigQuiet
import Derived.Deep.QuietTactic
import Derived.Lib.Strings
import Derived.Laws.BitsAllLaws
import Derived.Laws.DeepNot64
import Derived.WalkSmall
import Derived.LoopTactic
import Derived.Test.YtnfdoflmdlomhaaGreatDoorM05
import Derived.Maps.AppendAt
import Derived.Laws.IdiomStrings
import Derived.OwnWalk
import Derived.Test.YtnfdoflmdlomhaaGreatDoorM02
/-
  What a call leaves (Is, Iq, Ib, Cg); byte strings as lists. No conditions.
-/
namespace Go.Proofs.YtnfdoflmdlomhaaGreatDoor
open Go.RowKit
/-- The call returns this value and leaves the world as it was. -/
def Is (v : Value) (w : World) (e : Ending) (w' : World) : Prop := e = .returned v ∧ w = w'
/-- The same, and it may have drawn. -/
def Iq (v : Value) (w : World) (e : Ending) (w' : World) : Prop := ∃ n : Nat, e = .returned v ∧ w' = w.drewN n
/-- The call returns this value, and memory only grows. -/
def Ib (v : Value) (w : World) (e : Ending) (w' : World) : Prop := e = .returned v ∧ Below w.heap.size w w'
theorem ret_is {k : IntKind} {a b : Int} {w : World} (h : a = b) : Is (.int k b) w (.returned (.int k a)) w := ⟨by rw [h], rfl⟩
theorem ret_bool {a b : Bool} {w : World} (h : a = b) : Is (.bool b) w (.returned (.bool a)) w := ⟨by rw [h], rfl⟩
theorem Below.next {w w1 w2 : World} (h : Below w.heap.size w w1) (k : Below w1.heap.size w1 w2) : Below w.heap.size w w2 := h.trans (k.mono h.size)
theorem below_drewN {B : Nat} {w w' : World} (h : Below B w w') (n : Nat) : Below B w (w'.drewN n) := ⟨h.os, h.tape, h.output, h.size, h.block⟩
theorem drewN_add (w : World) (a b : Nat) : (w.drewN a).drewN b = w.drewN (a + b) := by simp [World.drewN, Nat.add_assoc]
/-- A list of bytes as a string. -/
def bs (l : List UInt8) : ByteArray := ⟨l.toArray⟩
theorem bs_list (l : List UInt8) : (bs l).data.toList = l := rfl
theorem bs_size (l : List UInt8) : (bs l).size = l.length := rfl
theorem bs_of (s : ByteArray) : s = bs s.data.toList := by apply ByteArray.ext; simp [bs]
theorem bs_eq {s : ByteArray} {l : List UInt8} (h : s.data.toList = l) : s = bs l := by rw [← h]; exact bs_of s
theorem ext_list (s : ByteArray) (i j : Nat) : (s.extract i j).data.toList = (s.data.toList.take j).drop i := by
  rw [ByteArray.data_extract, Array.toList_extract, List.extract_eq_take_drop, List.drop_take]
theorem bs_drop (l : List UInt8) (k n : Nat) (h : l.length ≤ n) : (bs l).extract k n = bs (l.drop k) := by
  refine bs_eq ?_
  rw [ext_list, bs_list, List.take_of_length_le h]
theorem bs_take (l : List UInt8) (n : Nat) : (bs l).extract 0 n = bs (l.take n) := by
  refine bs_eq ?_
  rw [ext_list, bs_list, List.drop_zero]
theorem bs_slice (l : List UInt8) (i j : Nat) : (bs l).extract i j = bs ((l.take j).drop i) := by
  refine bs_eq ?_
  rw [ext_list, bs_list]
theorem bs_append (l m : List UInt8) : bs l ++ bs m = bs (l ++ m) := by
  apply ByteArray.ext
  simp [bs, ByteArray.data_append]
theorem bs_get (l : List UInt8) (i : Nat) (h : i < (bs l).size) : (bs l)[i] = l[i]'(by simpa [bs_size] using h) := rfl
theorem bs_inj {l m : List UInt8} (h : bs l = bs m) : l = m := by rw [← bs_list l, h, bs_list]
theorem toList_bs (l : List UInt8) : (bs l).toList = l := by rw [ByteArray.toList_eq]; rfl
end Go.Proofs.YtnfdoflmdlomhaaGreatDoor
/-
  Obligations of a region's operations, each slot's value told exactly, in memory that has only grown since W0. No conditions beyond those that each names.
-/
namespace Go.Proofs.YtnfdoflmdlomhaaGreatDoor
open Go.RowKit
section
variable {ops : Array Oper} {Q : Exit → Act → World → Prop} {F : Nat → Fact} {base : List Nat} {N : Nat} {o : Oper} {W0 : World}
/-- The operation's guard is met. -/
def Gd (W0 : World) (ops : Array Oper) (F : Nat → Fact) (base : List Nat) (N : Nat) (o : Oper) : Prop :=
  o.guard = none ∨ ∃ (j d : Nat) (b : Bool), o.guard = some (j, b) ∧ (ops[j]?).bind Oper.dst = some d ∧ known ops base o d = true ∧ d < N ∧ F d = Fact.at_ W0 (.bool b)
theorem gd_wanted {a : Act} {w : World} (hN : a.tmps.size = N) (hf : ∀ t, known ops base o t = true → (F t).holds (a.tmps.getD t undef) w) (hg : Gd W0 ops F base N o) : Region.wanted o (yielded ops a.tmps) = true := by
  rcases hg with h | ⟨j, d, b, h, hd, hk, hlt, hF⟩
  · simp [Region.wanted, h]
  · have h1 := hf d hk
    rw [hF] at h1
    have h2 : a.tmps[d]? = some (.bool b) := by
      have : a.tmps.getD d undef = .bool b := h1.1
      rw [Array.getD_eq_getD_getElem?, Array.getElem?_eq_getElem (by omega)] at this
      rw [Array.getElem?_eq_getElem (by omega)]
      exact congrArg some this
    have h3 : ((ops[j]?).bind fun x => x.dst) = some d := hd
    simp [Region.wanted, h, yielded, h3, h2]
theorem at_val (hg : Gd W0 ops F base N o) (h : ∀ (a : Act) (w : World), (∀ t, known ops base o t = true → (F t).holds (a.tmps.getD t undef) w) →
    ∃ v w', (execOp a.eval o).run Tryz.prog w = .ok (.value v) w' ∧ Below w.heap.size w w' ∧ ∀ t, o.dst = some t → (F t).holds v w') : Ob ops Q F base N o := by
  intro a w K hN hb hp hK
  have hf := fun t (hk : known ops base o t = true) => known_fact hb hp hk
  rw [if_pos (gd_wanted hN hf hg)]
  obtain ⟨v, w', hr, hbw, hF⟩ := h a w hf
  unfold Oper.wp
  rw [hr]
  exact hK v w' hbw hF
theorem at_enter (hg : Gd W0 ops F base N o) (h : ∀ (a : Act) (w : World), (∀ t, known ops base o t = true → (F t).holds (a.tmps.getD t undef) w) →
    ∃ f args, (execOp a.eval o).run Tryz.prog w = .ok (.enter f args) w ∧ Calls Tryz.prog f args w fun e w' => ∃ v, e = .returned v ∧ Below w.heap.size w w' ∧ ∀ t, o.dst = some t → (F t).holds v w') : Ob ops Q F base N o := by
  intro a w K hN hb hp hK
  have hf := fun t (hk : known ops base o t = true) => known_fact hb hp hk
  rw [if_pos (gd_wanted hN hf hg)]
  obtain ⟨f, args, hr, hc⟩ := h a w hf
  unfold Oper.wp
  rw [hr]
  refine hc.mono ?_
  rintro e w' ⟨v, rfl, hbw, hF⟩
  exact hK v w' hbw hF
/-- An operation on one slot. -/
theorem at1 (t d : Nat) (u r : Value) (hd : o.dst = some d) (hg : Gd W0 ops F base N o) (hk : known ops base o t = true) (hv : F t = Fact.at_ W0 u) (hF : F d = Fact.at_ W0 r)
    (h : ∀ (a : Act) (w : World), Below W0.heap.size W0 w → a.eval (.tmp t) = u → (execOp a.eval o).run Tryz.prog w = .ok (.value r) w) : Ob ops Q F base N o :=
  at_val hg fun a w hf => by
    have h1 := hf t hk
    rw [hv] at h1
    exact ⟨r, w, h a w h1.2 h1.1, Below.refl _ _, fun s hs => by rw [hd] at hs; injection hs with hs; subst hs; rw [hF]; exact ⟨rfl, h1.2⟩⟩
/-- An operation on two slots. -/
theorem at2 (t s d : Nat) (u v r : Value) (hd : o.dst = some d) (hg : Gd W0 ops F base N o) (hk : known ops base o t = true) (hk2 : known ops base o s = true) (hv : F t = Fact.at_ W0 u) (hv2 : F s = Fact.at_ W0 v) (hF : F d = Fact.at_ W0 r)
    (h : ∀ (a : Act) (w : World), Below W0.heap.size W0 w → a.eval (.tmp t) = u → a.eval (.tmp s) = v → (execOp a.eval o).run Tryz.prog w = .ok (.value r) w) : Ob ops Q F base N o :=
  at_val hg fun a w hf => by
    have h1 := hf t hk
    rw [hv] at h1
    have h2 := hf s hk2
    rw [hv2] at h2
    exact ⟨r, w, h a w h1.2 h1.1 h2.1, Below.refl _ _, fun s hs => by rw [hd] at hs; injection hs with hs; subst hs; rw [hF]; exact ⟨rfl, h1.2⟩⟩
/-- A copy of a slot. -/
theorem atcopy (t d : Nat) (u : Value) (ho : o.op = .move (.tmp t) ∨ o.op = .assign (.tmp t)) (hd : o.dst = some d) (hg : Gd W0 ops F base N o) (hk : known ops base o t = true) (hv : F t = Fact.at_ W0 u) (hF : F d = Fact.at_ W0 u) : Ob ops Q F base N o :=
  at1 t d u u hd hg hk hv hF fun a w _ h => by
    have h' : a.eval (.tmp t) = u := h
    rcases ho with ho | ho <;> simp [execOp, ho, h']
/-- A choice whose flag is b. -/
theorem atpick (c t d : Nat) (b : Bool) (u : Value) (x y : Operand) (ho : o.op = .pick (.tmp c) x y) (hx : (if b then x else y) = .tmp t) (hd : o.dst = some d) (hg : Gd W0 ops F base N o) (hkc : known ops base o c = true) (hk : known ops base o t = true) (hc : F c = Fact.at_ W0 (.bool b)) (hv : F t = Fact.at_ W0 u) (hF : F d = Fact.at_ W0 u) : Ob ops Q F base N o :=
  at2 c t d (.bool b) u u hd hg hkc hk hc hv hF fun a w _ h1 h2 => by
    cases b
    · have hy : y = .tmp t := hx
      subst hy
      simp [execOp, ho, h1, h2, asBool]
    · have hy : x = .tmp t := hx
      subst hy
      simp [execOp, ho, h1, h2, asBool]
theorem atpickk (c d : Nat) (b : Bool) (u : Value) (x y : Operand) (ho : o.op = .pick (.tmp c) x y) (hx : (if b then x else y) = .const u) (hd : o.dst = some d) (hg : Gd W0 ops F base N o) (hkc : known ops base o c = true) (hc : F c = Fact.at_ W0 (.bool b)) (hF : F d = Fact.at_ W0 u) : Ob ops Q F base N o :=
  at1 c d (.bool b) u hd hg hkc hc hF fun a w _ h1 => by
    have hu : a.eval (.const u) = u := rfl
    cases b
    · have hy : y = .const u := hx
      subst hy
      simp [execOp, ho, h1, hu, asBool]
    · have hy : x = .const u := hx
      subst hy
      simp [execOp, ho, h1, hu, asBool]
/-- An operation whose guard is not met, or was not run. -/
theorem atskip (t0 j d t : Nat) (b : Bool) (v0 : Value) (hgd : o.guard = some (j, b)) (hdj : (ops[j]?).bind Oper.dst = some d) (hk : known ops base o d = true) (hlt : d < N) (hFd : F d = Fact.at_ W0 (.bool (!b)) ∨ F d = Fact.at_ W0 undef) (hk0 : known ops base o t0 = true) (hv0 : F t0 = Fact.at_ W0 v0) (ht : o.dst = some t) (hF : F t = Fact.at_ W0 undef) : Ob ops Q F base N o := by
  intro a w K hN hb hp hK
  have hbw : Below W0.heap.size W0 w := by
    have h1 := known_fact hb hp hk0
    rw [hv0] at h1
    exact h1.2
  have h1 := known_fact hb hp hk
  have h3 : ((ops[j]?).bind fun x => x.dst) = some d := hdj
  have h4 : a.tmps[d]? = some (.bool (!b)) ∨ a.tmps[d]? = some undef := by
    have hd : a.tmps[d]? = some (a.tmps.getD d undef) := by rw [Array.getD_eq_getD_getElem?, Array.getElem?_eq_getElem (by omega)]; rfl
    rcases hFd with h | h
    · rw [h] at h1; left; rw [hd, h1.1]
    · rw [h] at h1; right; rw [hd, h1.1]
  rw [if_neg (by rcases h4 with h | h <;> (cases b <;> simp [Region.wanted, hgd, yielded, h3, h, undef]))]
  exact hK undef w (Below.refl _ _) fun s hs => by rw [ht] at hs; injection hs with hs; subst hs; rw [hF]; exact ⟨rfl, hbw⟩
theorem Ib.at_ {u : Value} {w : World} {e : Ending} {w' : World} (hb : Below W0.heap.size W0 w) (h : Ib u w e w') : ∃ v, e = .returned v ∧ Below w.heap.size w w' ∧ (Fact.at_ W0 u).holds v w' := ⟨u, h.1, h.2, rfl, upG hb h.2⟩
theorem Is.ib {u : Value} {w : World} {e : Ending} {w' : World} (h : Is u w e w') : Ib u w e w' := ⟨h.1, h.2 ▸ Below.refl _ _⟩
/-- Calls. -/
theorem atc0 (f : FuncId) (t0 d : Nat) (v0 r : Value) (tys : Array TypeId) (ho : o.op = .call { callee := .value (.func f), args := #[], argTypes := tys }) (hd : o.dst = some d) (hg : Gd W0 ops F base N o) (hk0 : known ops base o t0 = true) (hv0 : F t0 = Fact.at_ W0 v0) (hfn : fnOk f = true) (hF : F d = Fact.at_ W0 r)
    (hc : ∀ w, Below W0.heap.size W0 w → Calls Tryz.prog f #[] w (Ib r w)) : Ob ops Q F base N o :=
  at_enter hg fun a w hf => by
    have h1 := hf t0 hk0
    rw [hv0] at h1
    refine ⟨f, #[], by simpa [execOp, ho, resolve, Act.eval] using run_invoke hfn _ w, (hc w h1.2).mono fun e w' h => ?_⟩
    obtain ⟨v, h2, h3, h4⟩ := Ib.at_ h1.2 h
    exact ⟨v, h2, h3, fun s hs => by rw [hd] at hs; injection hs with hs; subst hs; rw [hF]; exact h4⟩
theorem atc1 (f : FuncId) (t d : Nat) (u r : Value) (tys : Array TypeId) (ho : o.op = .call { callee := .value (.func f), args := #[.tmp t], argTypes := tys }) (hd : o.dst = some d) (hg : Gd W0 ops F base N o) (hk : known ops base o t = true) (hv : F t = Fact.at_ W0 u) (hfn : fnOk f = true) (hF : F d = Fact.at_ W0 r)
    (hc : ∀ w, Below W0.heap.size W0 w → Calls Tryz.prog f #[u] w (Ib r w)) : Ob ops Q F base N o :=
  at_enter hg fun a w hf => by
    have h1 := hf t hk
    rw [hv] at h1
    have h1' : a.tmps.getD t undef = u := h1.1
    refine ⟨f, #[u], by rw [← h1']; simpa [execOp, ho, resolve, Act.eval] using run_invoke hfn _ w, (hc w h1.2).mono fun e w' h => ?_⟩
    obtain ⟨v, h2, h3, h4⟩ := Ib.at_ h1.2 h
    exact ⟨v, h2, h3, fun s hs => by rw [hd] at hs; injection hs with hs; subst hs; rw [hF]; exact h4⟩
theorem atc2 (f : FuncId) (t s d : Nat) (u v r : Value) (tys : Array TypeId) (ho : o.op = .call { callee := .value (.func f), args := #[.tmp t, .tmp s], argTypes := tys }) (hd : o.dst = some d) (hg : Gd W0 ops F base N o) (hk : known ops base o t = true) (hk2 : known ops base o s = true) (hv : F t = Fact.at_ W0 u) (hv2 : F s = Fact.at_ W0 v) (hfn : fnOk f = true) (hF : F d = Fact.at_ W0 r)
    (hc : ∀ w, Below W0.heap.size W0 w → Calls Tryz.prog f #[u, v] w (Ib r w)) : Ob ops Q F base N o :=
  at_enter hg fun a w hf => by
    have h1 := hf t hk
    rw [hv] at h1
    have h2 := hf s hk2
    rw [hv2] at h2
    have h1' : a.tmps.getD t undef = u := h1.1
    have h2' : a.tmps.getD s undef = v := h2.1
    refine ⟨f, #[u, v], by rw [← h1', ← h2']; simpa [execOp, ho, resolve, Act.eval] using run_invoke hfn _ w, (hc w h1.2).mono fun e w' h => ?_⟩
    obtain ⟨v, h2, h3, h4⟩ := Ib.at_ h1.2 h
    exact ⟨v, h2, h3, fun s hs => by rw [hd] at hs; injection hs with hs; subst hs; rw [hF]; exact h4⟩
theorem atc2k (f : FuncId) (t d : Nat) (u v r : Value) (tys : Array TypeId) (ho : o.op = .call { callee := .value (.func f), args := #[.tmp t, .const v], argTypes := tys }) (hd : o.dst = some d) (hg : Gd W0 ops F base N o) (hk : known ops base o t = true) (hv : F t = Fact.at_ W0 u) (hfn : fnOk f = true) (hF : F d = Fact.at_ W0 r)
    (hc : ∀ w, Below W0.heap.size W0 w → Calls Tryz.prog f #[u, v] w (Ib r w)) : Ob ops Q F base N o :=
  at_enter hg fun a w hf => by
    have h1 := hf t hk
    rw [hv] at h1
    have h1' : a.tmps.getD t undef = u := h1.1
    refine ⟨f, #[u, v], by rw [← h1']; simpa [execOp, ho, resolve, Act.eval] using run_invoke hfn _ w, (hc w h1.2).mono fun e w' h => ?_⟩
    obtain ⟨v, h2, h3, h4⟩ := Ib.at_ h1.2 h
    exact ⟨v, h2, h3, fun s hs => by rw [hd] at hs; injection hs with hs; subst hs; rw [hF]; exact h4⟩
theorem atc3 (f : FuncId) (t s x d : Nat) (u v z r : Value) (tys : Array TypeId) (ho : o.op = .call { callee := .value (.func f), args := #[.tmp t, .tmp s, .tmp x], argTypes := tys }) (hd : o.dst = some d) (hg : Gd W0 ops F base N o) (hk : known ops base o t = true) (hk2 : known ops base o s = true) (hk3 : known ops base o x = true) (hv : F t = Fact.at_ W0 u) (hv2 : F s = Fact.at_ W0 v) (hv3 : F x = Fact.at_ W0 z) (hfn : fnOk f = true) (hF : F d = Fact.at_ W0 r)
    (hc : ∀ w, Below W0.heap.size W0 w → Calls Tryz.prog f #[u, v, z] w (Ib r w)) : Ob ops Q F base N o :=
  at_enter hg fun a w hf => by
    have h1 := hf t hk
    rw [hv] at h1
    have h2 := hf s hk2
    rw [hv2] at h2
    have h3 := hf x hk3
    rw [hv3] at h3
    have h1' : a.tmps.getD t undef = u := h1.1
    have h2' : a.tmps.getD s undef = v := h2.1
    have h3' : a.tmps.getD x undef = z := h3.1
    refine ⟨f, #[u, v, z], by rw [← h1', ← h2', ← h3']; simpa [execOp, ho, resolve, Act.eval] using run_invoke hfn _ w, (hc w h1.2).mono fun e w' h => ?_⟩
    obtain ⟨v, h2, h3, h4⟩ := Ib.at_ h1.2 h
    exact ⟨v, h2, h3, fun s hs => by rw [hd] at hs; injection hs with hs; subst hs; rw [hF]; exact h4⟩
end
end Go.Proofs.YtnfdoflmdlomhaaGreatDoor
/-
  Bytes that are appended to a slice of the call's own, and a slice of bytes as a string. No conditions beyond those that each names.
-/
namespace Go.Proofs.YtnfdoflmdlomhaaGreatDoor
open Go.RowKit
/-- Bytes as cells. -/
def bcells (l : List UInt8) : List Value := l.map fun b => .int .u8 (b.toNat : Int)
/-- The slice v owns the bytes l. -/
def Ow (B : Nat) (w : World) (v : Value) (l : List UInt8) : Prop := w.ownsRow B 5 1 v l.length (bcells l)
theorem Ow.nil (B : Nat) (w : World) : Ow B w (.slice none 0 0) [] := World.ownsRow_nil _ _ _ _
theorem bcells_snoc (l : List UInt8) (b : UInt8) : bcells (l ++ [b]) = bcells l ++ [.int .u8 (b.toNat : Int)] := by simp [bcells]
theorem Ow.other {B : Nat} {w w' : World} {v : Value} {l : List UInt8} (h : Ow B w v l) (hb : Below w.heap.size w w') : Ow B w' v l := by
  unfold Ow World.ownsRow at *
  refine ⟨h.1, ?_⟩
  rcases h.2 with h1 | ⟨g, cap, cur, h1, h2, h3, h4⟩
  · exact .inl h1
  · refine .inr ⟨g, cap, cur, h1, h2, ?_, h4⟩
    rw [hb.block g (Array.getElem?_eq_some_iff.1 h3).1]
    exact h3
theorem infoB : (Tryz.prog.info? 5).map (fun i => (i.zero, i.size, i.bytes)) = some (some (.int .u8 0), 1, 1) := by kernel_rfl
theorem one (w : World) (o : Obj) : Below w.heap.size w (w.alloc o) := (Below.refl _ _).alloc (Nat.le_refl _) o
theorem wpList_push {w : World} {ops : Array Oper} {rest : List Oper} {o : Oper} {a : Act} {Q : Exit → Act → World → Prop} (hgd : o.guard = none) (s x : Operand)
    (ho : o.op = .call { callee := .builtin .append, args := #[s, x], argTypes := #[128, 128] }) (B : Nat) (v : Value) (l : List UInt8) (b : UInt8) (ad : Addr) (d : Nat) (hs : a.eval s = v) (hx : a.eval x = .slice (some ad) 1 d)
    (hown : Ow B w v l) (hc : w.cell? ad = some (.int .u8 (b.toNat : Int))) (hm : l.length + 1 ≤ 140737488355328) (hB : B ≤ w.heap.size)
    (h : ∀ v' w', Ow B w' v' (l ++ [b]) → w.grownBy w' v.ownBlock → wpList Tryz.prog ops Q rest (a.put o.dst v') w') : wpList Tryz.prog ops Q (o :: rest) a w := by
  obtain ⟨i, hi, hz, hs5, hby⟩ := info_parts infoB
  refine wpList_append_own_at w hgd s x 128 ho B 5 i _ 1 1 Tryz.underlying128 hi hz hs5 hby rfl (by omega) v l.length (bcells l) hs hown ad 1 d [.int .u8 (b.toNat : Int)] hx rfl
    (by intro j u hj
        cases j with
        | zero => simp at hj; subst hj; rw [Addr.add_zero']; exact hc
        | succ j => simp at hj) (by simp [Value.oneCell']) (by simp only [maxLen]; omega) (by omega) hB ?_
  intro v' w' h1 h2 _ _
  refine h v' w' ?_ h2
  unfold Ow
  rw [bcells_snoc, List.length_append]
  exact h1
/-- An owned slice that isn't empty, as a string. -/
theorem Ow.str {B : Nat} {w : World} {v : Value} {l : List UInt8} (h : Ow B w v l) (h0 : l ≠ []) :
    (convert 128 9 v).run Tryz.prog w = .ok (.string (bs l)) w := by
  have h1 := h
  rcases h.2 with ⟨_, h2⟩ | ⟨g, cap, cur, hv, h2, h3, h4, h5, h6, h7⟩
  · exact absurd (List.eq_nil_of_length_eq_zero h2) h0
  · subst hv
    refine run_convert_bytes_back w 128 9 5 ⟨g, 0, none⟩ cap l Tryz.underlying128 Tryz.underlying5 Tryz.underlying9 fun j hj => ?_
    have := World.ownsRow.cellAt h1 j (by omega)
    rw [show (⟨g, 0, none⟩ : Addr).add j = ⟨g, j, none⟩ by simp [Addr.add]; exact Eq.symm, this]
    simp [bcells, List.getElem?_eq_getElem hj]
/-- A slice of one byte, just built, as a string. -/
theorem str1 (w : World) (z : Nat) (hz : z < 256) :
    (convert 128 9 (.slice (some ⟨w.heap.size, 0, none⟩) 1 1)).run Tryz.prog (w.alloc (Obj.cells #[.int .u8 (z : Int)] 5)) = .ok (.string (bs [UInt8.ofNat z])) (w.alloc (Obj.cells #[.int .u8 (z : Int)] 5)) := by
  have e : (UInt8.ofNat z).toNat = z := by rw [UInt8.toNat_ofNat']; exact Nat.mod_eq_of_lt hz
  refine run_convert_bytes_back _ 128 9 5 ⟨w.heap.size, 0, none⟩ 1 [UInt8.ofNat z] Tryz.underlying128 Tryz.underlying5 Tryz.underlying9 fun j hj => ?_
  match j, hj with
  | 0, _ =>
    show (w.alloc (Obj.cells #[.int .u8 (z : Int)] 5)).cell? ⟨w.heap.size, 0, none⟩ = some (.int .u8 ((UInt8.ofNat z).toNat : Int))
    rw [e]
    simp
theorem of_toNat {n : Nat} (h : n < 256) : (UInt8.ofNat n).toNat = n := by rw [UInt8.toNat_ofNat']; exact Nat.mod_eq_of_lt h
end Go.Proofs.YtnfdoflmdlomhaaGreatDoor
/-
  Contracts of the reference's byte classes, of names and of white space. No conditions but Go's own bounds of a string's length.
-/
namespace Go.Proofs.YtnfdoflmdlomhaaGreatDoor
open Go.RowKit
theorem ret_bool2 {a b : Bool} {w : World} (h : a = true ↔ b = true) : Is (.bool b) w (.returned (.bool a)) w := ⟨by rw [Bool.eq_iff_iff.2 h], rfl⟩
theorem beq_nat (c d : UInt8) : (c == d) = ((c.toNat : Int) == (d.toNat : Int)) := by
  rw [Bool.eq_iff_iff]
  simp only [beq_iff_eq]
  exact ⟨fun h => by rw [h], fun h => UInt8.toNat_inj.1 (by omega)⟩
theorem sk_at (rm : Bool) (l : List UInt8) (j : Nat) (h : j < l.length) : sk rm (l.drop j) = if (((rm && l[j] != 10) || l[j] == 35) || isS l[j]) then sk ((rm && l[j] != 10) || l[j] == 35) (l.drop (j + 1)) else l.drop j := by
  rw [List.drop_eq_getElem_cons h, sk]
end Go.Proofs.YtnfdoflmdlomhaaGreatDoor
/-
  The reference's names. No conditions but Go's own bounds of a string's length.
-/
namespace Go.Proofs.YtnfdoflmdlomhaaGreatDoor
open Go.RowKit
theorem not_isN_len {l : List UInt8} (h : 16 < l.length) : isN l = false := by
  unfold isN
  rw [show decide (l.length ≤ 16) = false by simp; omega]
  simp
theorem isN_cons (c : UInt8) (r : List UInt8) (h : r.length + 1 ≤ 16) : isN (c :: r) = (isL c && (c :: r).all isW) := by
  unfold isN
  rw [show decide (1 ≤ (c :: r).length) = true by simp, show decide ((c :: r).length ≤ 16) = true by simpa using h]
  simp
theorem tw_at (p : UInt8 → Bool) (l : List UInt8) (j : Nat) (h : j < l.length) : ((l.drop j).takeWhile p).length = if p (l[j]'h) then ((l.drop (j + 1)).takeWhile p).length + 1 else 0 := by
  rw [List.drop_eq_getElem_cons h, List.takeWhile_cons]
  split <;> simp_all
theorem tw_le (p : UInt8 → Bool) (l : List UInt8) (j : Nat) : ((l.drop j).takeWhile p).length ≤ l.length - j := by
  have := (List.takeWhile_sublist p (l := l.drop j)).length_le
  rwa [List.length_drop] at this
/-- What the reference says of a name that begins at a. -/
def nameR (l : List UInt8) (a : Nat) : Nat × Nat × Nat :=
  if 16 < ((l.drop a).takeWhile isW).length then (a + ((l.drop a).takeWhile isW).length, 3, a)
  else if l[a + ((l.drop a).takeWhile isW).length]? = some 45 then (a + ((l.drop a).takeWhile isW).length, 2, a + ((l.drop a).takeWhile isW).length)
  else (a + ((l.drop a).takeWhile isW).length, 0, 0)
def t3 (x : Nat × Nat × Nat) : Value := .tuple #[.int .i64 (x.1 : Int), .int .i64 (x.2.1 : Int), .int .i64 (x.2.2 : Int)]
end Go.Proofs.YtnfdoflmdlomhaaGreatDoor
/-
  The reference's numbers. No conditions but Go's own bounds of a string's length.
-/
namespace Go.Proofs.YtnfdoflmdlomhaaGreatDoor
open Go.RowKit
/-- What Number returns. -/
def numV : Except Nat Int → Value
  | .error e => .tuple #[.int .i64 0, .int .i64 (e : Int)]
  | .ok n => .tuple #[.int .i64 n, .int .i64 0]
theorem isD_in {c : UInt8} (h : isD c = true) : 48 ≤ c.toNat ∧ c.toNat ≤ 57 := by
  unfold isD at h
  simpa using h
theorem dval_append (a b : List UInt8) : dval a ≤ dval (a ++ b) := by
  have key : ∀ (b : List UInt8) (n : Nat), n ≤ b.foldl (fun n c => 10 * n + (c.toNat - 48)) n := by
    intro b
    induction b with
    | nil => intro n; exact Nat.le_refl _
    | cons c b ih =>
      intro n
      exact Nat.le_trans (by omega) (ih (10 * n + (c.toNat - 48)))
  unfold dval
  rw [List.foldl_append]
  exact key b _
theorem dval_take (l : List UInt8) (k : Nat) : dval (l.take k) ≤ dval l := by
  have := dval_append (l.take k) (l.drop k)
  rwa [List.take_append_drop] at this
theorem dval_pos {l : List UInt8} {c : UInt8} (h : ∀ c ∈ l, isD c = true) (hg : l[0]? = some c) (h48 : c ≠ 48) : 1 ≤ dval l := by
  cases l with
  | nil => cases hg
  | cons d r =>
    obtain rfl : d = c := by simpa using hg
    have h1 := dval_append [d] r
    have h2 := isD_in (h d (List.mem_cons_self ..))
    have h3 : dval [d] = d.toNat - 48 := by simp [dval]
    have h4 : d.toNat ≠ 48 := fun e => h48 (UInt8.toNat_inj.1 e)
    rw [List.singleton_append] at h1
    omega
end Go.Proofs.YtnfdoflmdlomhaaGreatDoor
/-
  The reference's strings. No conditions but Go's own bounds of a string's length.
-/
namespace Go.Proofs.YtnfdoflmdlomhaaGreatDoor
open Go.RowKit
/-- What quoted returns, for a string that begins at a. -/
def quoV (a : Nat) : Except Nat (List UInt8 × Nat) → Value
  | .error i => .tuple #[.int .i64 ((a + i : Nat) : Int), .string (bs []), .int .i64 2, .int .i64 ((a + i : Nat) : Int)]
  | .ok (t, k) => if 200 < t.length then .tuple #[.int .i64 ((a + k - 1 : Nat) : Int), .string (bs []), .int .i64 3, .int .i64 (a : Int)] else .tuple #[.int .i64 ((a + k : Nat) : Int), .string (bs t), .int .i64 0, .int .i64 0]
theorem results_tmp4 {fn : Func} {t u v x : Tmp} (h : fn.results = #[.tmp t, .tmp u, .tmp v, .tmp x]) (tmps : Array Value) (P : Program) (w : World) :
    (results fn tmps).run P w = .ok (.tuple #[tmps.getD t undef, tmps.getD u undef, tmps.getD v undef, tmps.getD x undef]) w := by
  simp [results, h]
theorem one_byte (l : List UInt8) (j : Nat) (h : j < l.length) : (bs l).extract j (j + 1) = bs [l[j]'h] := by
  rw [bs_slice, List.take_succ_eq_append_getElem h, List.drop_append_of_le_length (by rw [List.length_take]; omega), List.drop_of_length_le (by rw [List.length_take]; omega)]
  rfl
theorem qs_nil (i : Nat) (out : List UInt8) : qs [] i out = .error i := by rw [qs]
end Go.Proofs.YtnfdoflmdlomhaaGreatDoor
/-
  The reference's number at a place. No conditions but Go's own bounds of a string's length.
-/
namespace Go.Proofs.YtnfdoflmdlomhaaGreatDoor
open Go.RowKit
def numRV (l : List UInt8) (a e : Nat) : Except Nat Int → Nat × Int × Nat × Nat
  | .error x => (e, 0, if x = 1 then 4 else 2, a)
  | .ok n => if l[e]?.any (fun d => isW d || d == 45) then (e, 0, 2, e) else (e, n, 0, 0)
/-- What the reference says of a number that begins at a. -/
def numR (neg : Bool) (l : List UInt8) (a : Nat) : Nat × Int × Nat × Nat :=
  numRV l a (a + neg.toNat + ((l.drop (a + neg.toNat)).takeWhile isD).length) (numOf neg ((l.drop (a + neg.toNat)).takeWhile isD))
def t4 (x : Nat × Int × Nat × Nat) : Value := .tuple #[.int .i64 (x.1 : Int), .int .i64 x.2.1, .int .i64 (x.2.2.1 : Int), .int .i64 (x.2.2.2 : Int)]
theorem numOf_cases (neg : Bool) (ds : List UInt8) : numOf neg ds = .error 1 ∨ numOf neg ds = .error 2 ∨ ∃ n, numOf neg ds = .ok n := by
  unfold numOf
  by_cases h1 : ds.length = 0 ∨ (1 < ds.length ∧ ds.head? = some 48) ∨ (neg = true ∧ ds.head? = some 48)
  · rw [if_pos h1]; exact .inr (.inl rfl)
  · rw [if_neg h1]
    by_cases h2 : (if neg then 9223372036854775808 else 9223372036854775807) < dval ds
    · rw [if_pos h2]; exact .inl rfl
    · rw [if_neg h2]; exact .inr (.inr ⟨_, rfl⟩)
end Go.Proofs.YtnfdoflmdlomhaaGreatDoor
/-
  What the reference says of each class of tokens is what a scan says. No conditions.
-/
namespace Go.Proofs.YtnfdoflmdlomhaaGreatDoor
theorem drop_head (l : List UInt8) (j k : Nat) : ((l.drop j).drop k).head? = l[j + k]? := by
  rw [List.drop_drop, List.head?_drop]
theorem tw_prefix (p : UInt8 → Bool) (l : List UInt8) (j : Nat) : (l.take (j + ((l.drop j).takeWhile p).length)).drop j = (l.drop j).takeWhile p := by
  rw [List.drop_take, Nat.add_sub_cancel_left]
  exact (List.prefix_iff_eq_take.1 (List.takeWhile_prefix p)).symm
theorem name_tok {l : List UInt8} {j : Nat} {c : UInt8} {r : List UInt8} (h : l.drop j = c :: r) (hL : isL c = true) :
    (∃ e x wh, nameR l j = (e, x, wh) ∧ (x = 2 ∨ x = 3) ∧ j ≤ wh ∧ tok c r = .error (x, wh - j) ∧ j ≤ e ∧ e ≤ l.length) ∨
    (∃ k t, nameR l j = (j + k, 0, 0) ∧ 1 ≤ k ∧ j + k ≤ l.length ∧ tok c r = .ok (1, t, 0, k) ∧ (l.take (j + k)).drop j = t) := by
  have hk := tw_le isW l j
  have hlen : 0 < l.length - j := by rw [← List.length_drop, h]; simp
  have h1 : 1 ≤ ((l.drop j).takeWhile isW).length := by
    rw [h, List.takeWhile_cons, if_pos (by unfold isW; rw [hL]; rfl)]
    simp
  unfold tok
  rw [if_pos hL, ← h, drop_head]
  unfold nameR
  by_cases h16 : 16 < ((l.drop j).takeWhile isW).length
  · rw [if_pos h16, if_pos h16]
    exact .inl ⟨_, _, _, rfl, .inr rfl, Nat.le_refl _, by simp, by omega, by omega⟩
  · rw [if_neg h16, if_neg h16]
    by_cases h45 : l[j + ((l.drop j).takeWhile isW).length]? = some 45
    · rw [if_pos h45, if_pos h45]
      exact .inl ⟨_, _, _, rfl, .inl rfl, by omega, by simp, by omega, by omega⟩
    · rw [if_neg h45, if_neg h45]
      exact .inr ⟨_, _, rfl, h1, by omega, rfl, tw_prefix isW l j⟩
theorem num_tok {l : List UInt8} {j : Nat} {c : UInt8} {r : List UInt8} (h : l.drop j = c :: r) (hL : isL c = false) (hD : (isD c || c == 45) = true) :
    (∃ e x wh, numR (c == 45) l j = (e, 0, x, wh) ∧ (x = 2 ∨ x = 4) ∧ j ≤ wh ∧ tok c r = .error (x, wh - j)) ∨
    (∃ k n, numR (c == 45) l j = (j + k, n, 0, 0) ∧ 1 ≤ k ∧ j + k ≤ l.length ∧ tok c r = .ok (2, [], n, k)) := by
  have hlen : 0 < l.length - j := by rw [← List.length_drop, h]; simp
  have hr : l.drop (j + 1) = r := by
    have := congrArg (List.drop 1) h
    rwa [List.drop_drop] at this
  have hds : (if (c == 45) = true then r else c :: r) = l.drop (j + (c == 45).toNat) := by
    cases hc : c == 45
    · simp [h]
    · simp [hr]
  have hk := tw_le isD l (j + (c == 45).toNat)
  have h1 : 1 ≤ (c == 45).toNat + ((l.drop (j + (c == 45).toNat)).takeWhile isD).length := by
    cases hc : c == 45
    · rw [hc, Bool.or_false] at hD
      have : (l.drop (j + (false).toNat)) = c :: r := by simpa using h
      rw [this, List.takeWhile_cons, if_pos hD]
      simp
    · simp
  have hle : j + (c == 45).toNat ≤ l.length := by cases hc : c == 45 <;> simp <;> omega
  unfold tok
  rw [if_neg (by rw [hL]; decide), if_pos hD, hds]
  unfold numR
  generalize hd : (l.drop (j + (c == 45).toNat)).takeWhile isD = ds at *
  have hx := numOf_cases (c == 45) ds
  rcases hx with hx | hx | ⟨n, hx⟩
  · rw [hx]
    exact .inl ⟨_, 4, j, rfl, .inr rfl, Nat.le_refl _, by simp⟩
  · rw [hx]
    exact .inl ⟨_, 2, j, rfl, .inl rfl, Nat.le_refl _, by simp⟩
  · rw [hx]
    simp only
    rw [← h, drop_head]
    unfold numRV
    simp only
    rw [show j + (c == 45).toNat + ds.length = j + ((c == 45).toNat + ds.length) by omega]
    by_cases hq : (l[j + ((c == 45).toNat + ds.length)]?.any fun d => isW d || d == 45) = true
    · rw [if_pos hq, if_pos hq]
      exact .inl ⟨_, 2, _, rfl, .inl rfl, by omega, by simp⟩
    · rw [if_neg hq, if_neg hq]
      exact .inr ⟨_, n, rfl, h1, by omega, rfl⟩
theorem qs_ok (l : List UInt8) : ∀ (n : Nat), l.length ≤ n → ∀ (i : Nat) (out t : List UInt8) (k : Nat), qs l i out = .ok (t, k) → i < k ∧ k ≤ i + l.length := by
  intro n
  induction n generalizing l with
  | zero =>
    intro hl i out t k h
    obtain rfl : l = [] := List.eq_nil_of_length_eq_zero (by omega)
    rw [qs_nil] at h
    cases h
  | succ n ih =>
    intro hl i out t k h
    cases l with
    | nil => rw [qs_nil] at h; cases h
    | cons c r =>
      rw [List.length_cons] at hl
      rw [qs_cons] at h
      split at h
      · injection h with h; injection h with h1 h2; simp; omega
      split at h
      · cases h
      split at h
      · cases r with
        | nil => cases h
        | cons d r =>
          simp only at h
          split at h
          · have := ih r (by simp at hl; omega) _ _ _ _ h
            simp; omega
          · cases h
      · have := ih r (by omega) _ _ _ _ h
        simp; omega
theorem quo_tok {l : List UInt8} {j : Nat} {r : List UInt8} (h : l.drop j = 34 :: r) :
    (∃ e x wh, quoV j (qs (l.drop (j + 1)) 1 []) = .tuple #[.int .i64 (e : Nat), .string (bs []), .int .i64 (x : Nat), .int .i64 (wh : Nat)] ∧ (x = 2 ∨ x = 3) ∧ j ≤ wh ∧ tok 34 r = .error (x, wh - j)) ∨
    (∃ k t, quoV j (qs (l.drop (j + 1)) 1 []) = .tuple #[.int .i64 ((j + k : Nat) : Int), .string (bs t), .int .i64 0, .int .i64 0] ∧ 1 ≤ k ∧ j + k ≤ l.length ∧ tok 34 r = .ok (3, t, 0, k)) := by
  have hlen : l.length - j = r.length + 1 := by rw [← List.length_drop, h]; rfl
  have hr : l.drop (j + 1) = r := by
    have := congrArg (List.drop 1) h
    rwa [List.drop_drop] at this
  unfold tok
  rw [if_neg (by decide), if_neg (by decide), if_pos rfl, hr]
  cases hq : qs r 1 [] with
  | error i => exact .inl ⟨j + i, 2, j + i, rfl, .inl rfl, by omega, by simp⟩
  | ok x =>
    obtain ⟨t, k⟩ := x
    obtain ⟨h1, h2⟩ := qs_ok r r.length (Nat.le_refl _) _ _ _ _ hq
    unfold quoV
    simp only
    by_cases h200 : 200 < t.length
    · rw [if_pos h200, if_pos h200]
      exact .inl ⟨j + k - 1, 3, j, rfl, .inr rfl, Nat.le_refl _, by simp⟩
    · rw [if_neg h200, if_neg h200]
      exact .inr ⟨k, t, rfl, by omega, by omega, rfl⟩
theorem mark_tok {c : UInt8} (r : List UInt8) (hM : isM c = true) : tok c r = .ok (4, [c], 0, 1) := by
  obtain ⟨f1, f2, f3, f4, -⟩ := mark_facts c hM
  unfold tok
  rw [if_neg (by rw [f1]; decide), if_neg (by rw [f2, f3]; decide), if_neg f4, if_pos hM]
theorem no_tok {c : UInt8} (r : List UInt8) (hL : isL c = false) (hD : (isD c || c == 45) = false) (hq : c ≠ 34) (hM : isM c = false) : tok c r = .error (2, 0) := by
  unfold tok
  rw [if_neg (by rw [hL]; decide), if_neg (by rw [hD]; decide), if_neg hq, if_neg (by rw [hM]; decide)]
/-- A scan that has gone on to place j, with the tokens ts. -/
def At (l : List UInt8) (R : Except (Nat × Nat) (List Tk)) (j : Nat) (ts : List Tk) : Prop := (match sc (l.drop j) j with | .error x => .error x | .ok us => .ok (ts ++ us)) = R
theorem At.err {l : List UInt8} {R : Except (Nat × Nat) (List Tk)} {j : Nat} {ts : List Tk} {c : UInt8} {r : List UInt8} {x o : Nat} (h : At l R j ts) (hd : l.drop j = c :: r) (ht : tok c r = .error (x, o)) : R = .error (x, j + o) := by
  unfold At at h
  rw [hd, sc_cons, ht] at h
  exact h.symm
theorem At.done {l : List UInt8} {R : Except (Nat × Nat) (List Tk)} {ts : List Tk} (h : At l R l.length ts) : R = .ok (ts ++ [⟨0, [], 0, l.length⟩]) := by
  unfold At at h
  rw [List.drop_length, sc_nil] at h
  exact h.symm
theorem At.next {l : List UInt8} {R : Except (Nat × Nat) (List Tk)} {j : Nat} {ts : List Tk} {c : UInt8} {r t : List UInt8} {kd k : Nat} {n : Int} (h : At l R j ts) (hd : l.drop j = c :: r) (ht : tok c r = .ok (kd, t, n, k)) (hk : 1 ≤ k) (hkl : j + k ≤ l.length) :
    At l R (l.length - (sk false (l.drop (j + k))).length) (ts ++ [⟨kd, t, n, j⟩]) ∧ j < l.length - (sk false (l.drop (j + k))).length := by
  have hlen : l.length - j = r.length + 1 := by rw [← List.length_drop, hd]; rfl
  have hr : r.drop (k - 1) = l.drop (j + k) := by
    have := congrArg (List.drop k) hd
    rw [List.drop_drop] at this
    rw [this]
    obtain ⟨m, rfl⟩ : ∃ m, k = m + 1 := ⟨k - 1, by omega⟩
    simp
  have h1 := sk_length false (l.drop (j + k))
  have h2 := sk_drop false (l.drop (j + k))
  rw [List.length_drop] at h1 h2
  have h3 : l.drop (l.length - (sk false (l.drop (j + k))).length) = sk false (l.drop (j + k)) := by
    conv => rhs; rw [h2, List.drop_drop]
    congr 1
    omega
  refine ⟨?_, by omega⟩
  unfold At at h ⊢
  rw [hd, sc_cons, ht] at h
  simp only at h
  rw [hr, show j + (r.length + 1 - (sk false (l.drop (j + k))).length) = l.length - (sk false (l.drop (j + k))).length by omega] at h
  rw [h3]
  cases hs : sc (sk false (l.drop (j + k))) (l.length - (sk false (l.drop (j + k))).length) with
  | error x => rw [hs] at h; exact h
  | ok us =>
    rw [hs] at h
    simp only at h ⊢
    rw [← h]
    simp
theorem At.start (l : List UInt8) (hl : l.length ≤ 4000) : At l (scan l) (l.length - (sk false l).length) [] := by
  have h1 := sk_length false l
  have h2 := sk_drop false l
  unfold At scan
  rw [if_neg (by omega), ← h2]
  cases sc (sk false l) (l.length - (sk false l).length) <;> rfl
end Go.Proofs.YtnfdoflmdlomhaaGreatDoor

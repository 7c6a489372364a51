/-
  The reference's printing of a string's content, and what a token of a result is. No conditions but Go's own bounds.
-/
import Derived.Test.YthbhbpcjcnkkkaaGreatDoorM05
import Derived.Test.YthbhbpcjcnkkkaaGreatDoorM04
import Derived.BigQuiet
import Derived.Deep.DeepCutAuto
import Derived.Test.YthbhbpcjcnkkkaaGreatDoorM03
import Derived.Test.YthbhbpcjcnkkkaaGreatDoorShelf
import Derived.Lib.ParseIntB
namespace Go.Proofs.YthbhbpcjcnkkkaaGreatDoor
open Go.RowKit
theorem esc_append (a b : List UInt8) : esc (a ++ b) = esc a ++ esc b := by
  induction a with
  | nil => rfl
  | cons c r ih => simp only [List.cons_append, esc]; split <;> simp [ih]
theorem esc_length (a : List UInt8) : (esc a).length ≤ 2 * a.length := by
  induction a with
  | nil => simp [esc]
  | cons c r ih => simp only [esc]; split <;> simp <;> omega
end Go.Proofs.YthbhbpcjcnkkkaaGreatDoor
/-
  The reference's Valid. No conditions but Go's own bounds.
-/
namespace Go.Proofs.YthbhbpcjcnkkkaaGreatDoor
open Go.RowKit
/-- A token as it comes in: its kind and its place are any numbers. -/
structure Tv where
  kind : Int
  text : List UInt8
  num : Int
  at_ : Int
/-- The token that it is; a kind below 0 is no token's kind, as 0 is none that can be printed. -/
def Tv.tk (t : Tv) : Tk := ⟨t.kind.toNat, t.text, t.num, t.at_.toNat⟩
theorem str_beq (q l : List UInt8) : ((bs q).toList == (bs l).toList) = (q == l) := by rw [toList_bs, toList_bs]
theorem grown1 {w : World} (o : Obj) : Below w.heap.size w (w.alloc o) := (Below.refl _ w).alloc (Nat.le_refl _) o
/-- One mark. -/
def oneM (t : List UInt8) : Bool := match t with | [c] => isM c | _ => false
theorem okT1 (t : List UInt8) (n a : Int) : okT (Tv.tk ⟨1, t, n, a⟩) = (isN t && n == 0) := rfl
theorem okT2 (t : List UInt8) (n a : Int) : okT (Tv.tk ⟨2, t, n, a⟩) = (t == []) := rfl
theorem okT3 (t : List UInt8) (n a : Int) : okT (Tv.tk ⟨3, t, n, a⟩) = ((t.all fun c => decide (32 ≤ c.toNat) && decide (c.toNat ≤ 126)) && decide (t.length ≤ 200) && n == 0) := rfl
theorem okT4 (t : List UInt8) (n a : Int) : okT (Tv.tk ⟨4, t, n, a⟩) = (oneM t && n == 0) := rfl
theorem okT0 (k : Int) (t : List UInt8) (n a : Int) (h1 : k ≠ 1) (h2 : k ≠ 2) (h3 : k ≠ 3) (h4 : k ≠ 4) : okT (Tv.tk ⟨k, t, n, a⟩) = false := by
  unfold okT Tv.tk
  rw [if_neg (show ¬ k.toNat = 1 by omega), if_neg (show ¬ k.toNat = 2 by omega), if_neg (show ¬ k.toNat = 3 by omega), if_neg (show ¬ k.toNat = 4 by omega)]
end Go.Proofs.YthbhbpcjcnkkkaaGreatDoor
/-
  The reference's Print. No conditions but Go's own bounds; at most 60 tokens.
-/
namespace Go.Proofs.YthbhbpcjcnkkkaaGreatDoor
open Go.RowKit
def Tv.ok (t : Tv) : Prop := t.text.length ≤ 9223372036854775807 ∧ -9223372036854775808 ≤ t.num ∧ t.num ≤ 9223372036854775807
/-- The elements of the slice at A are the tokens q. -/
def Tvs (w : World) (A : Option Addr) (n : Nat) (q : Nat → Tv) : Prop := n = 0 ∨ ∃ a : Addr, A = some a ∧ a.block < w.heap.size ∧ ∀ i, i < n → (q i).ok ∧
  w.cell? ((a.add (i * 4)).add 0) = some (.int .i64 (q i).kind) ∧ w.cell? ((a.add (i * 4)).add 1) = some (.string (bs (q i).text)) ∧ w.cell? ((a.add (i * 4)).add 2) = some (.int .i64 (q i).num) ∧ w.cell? ((a.add (i * 4)).add 3) = some (.int .i64 (q i).at_)
theorem add_block (a : Addr) (i : Nat) : (a.add i).block = a.block := by unfold Addr.add; split <;> rfl
/-- The first i tokens. -/
def tks (q : Nat → Tv) (i : Nat) : List Tk := (List.range i).map fun j => (q j).tk
theorem tks_succ (q : Nat → Tv) (i : Nat) : tks q (i + 1) = tks q i ++ [(q i).tk] := by simp [tks, List.range_succ]
theorem prs_snoc (s : List UInt8) (l : List Tk) (t : Tk) : prs s (l ++ [t]) = if okT t then (if prs s l = [] then [] else prs s l ++ [32]) ++ pr t else prs s l := by
  induction l generalizing s with
  | nil => simp only [List.nil_append, prs]; rfl
  | cons u l ih =>
    rw [List.cons_append, prs, prs]
    by_cases h : okT u = true
    · rw [if_pos h, if_pos h, ih]
    · rw [if_neg h, if_neg h, ih]
theorem isN_len {l : List UInt8} (h : isN l = true) : l.length ≤ 16 := by
  unfold isN at h
  simp only [Bool.and_eq_true, decide_eq_true_eq] at h
  omega
theorem oneM_len {l : List UInt8} (h : oneM l = true) : l.length = 1 := by
  match l, h with
  | [c], _ => rfl
theorem dec_len (n : Int) (h1 : -9223372036854775808 ≤ n) (h2 : n ≤ 9223372036854775807) : (dec n).length ≤ 21 := by
  have := dg_len n.natAbs 19 (by omega)
  unfold dec
  split
  · simp; omega
  · omega
theorem quo_len (l : List UInt8) : (quo l).length ≤ 2 * l.length + 2 := by
  have := esc_length l
  simp [quo]
  omega
/-- What a valid token is. -/
theorem tv_cases (t : Tv) (h : okT t.tk = true) : (t.kind = 1 ∧ t.text.length ≤ 16 ∧ pr t.tk = t.text) ∨ (t.kind = 2 ∧ pr t.tk = dec t.num) ∨ (t.kind = 3 ∧ t.text.length ≤ 200 ∧ pr t.tk = quo t.text) ∨ (t.kind = 4 ∧ t.text.length ≤ 16 ∧ pr t.tk = t.text) := by
  obtain ⟨k, t, n, a⟩ := t
  by_cases h1 : k = 1
  · subst h1
    rw [okT1, Bool.and_eq_true] at h
    exact .inl ⟨rfl, isN_len h.1, rfl⟩
  by_cases h2 : k = 2
  · subst h2
    exact .inr (.inl ⟨rfl, rfl⟩)
  by_cases h3 : k = 3
  · subst h3
    rw [okT3] at h
    simp only [Bool.and_eq_true, decide_eq_true_eq] at h
    exact .inr (.inr (.inl ⟨rfl, h.1.2, rfl⟩))
  by_cases h4 : k = 4
  · subst h4
    rw [okT4, Bool.and_eq_true] at h
    exact .inr (.inr (.inr ⟨rfl, by have := oneM_len h.1; show t.length ≤ 16; omega, rfl⟩))
  rw [okT0 k t n a h1 h2 h3 h4] at h
  cases h
theorem pr_len (t : Tv) (ho : t.ok) (h : okT t.tk = true) : (pr t.tk).length ≤ 402 := by
  rcases tv_cases t h with ⟨_, h1, h2⟩ | ⟨_, h2⟩ | ⟨_, h1, h2⟩ | ⟨_, h1, h2⟩ <;> rw [h2]
  · omega
  · have := dec_len t.num ho.2.1 ho.2.2; omega
  · have := quo_len t.text; omega
  · omega
end Go.Proofs.YthbhbpcjcnkkkaaGreatDoor
/-
  Obligations of a region's operations, each slot's value told exactly, in memory that has only grown since W0. No conditions beyond those that each names.
-/
namespace Go.Proofs.YthbhbpcjcnkkkaaGreatDoor
open Go.RowKit
section
variable {ops : Array Oper} {Q : Exit → Act → World → Prop} {F : Nat → Fact} {base : List Nat} {N : Nat} {o : Oper} {W0 : World}
/-- The operation's guard is met. -/
def Gd (W0 : World) (ops : Array Oper) (F : Nat → Fact) (base : List Nat) (N : Nat) (o : Oper) : Prop :=
  o.guard = none ∨ ∃ (j d : Nat) (b : Bool), o.guard = some (j, b) ∧ (ops[j]?).bind Oper.dst = some d ∧ known ops base o d = true ∧ d < N ∧ F d = Fact.at_ W0 (.bool b)
theorem gd_wanted {a : Act} {w : World} (hN : a.tmps.size = N) (hf : ∀ t, known ops base o t = true → (F t).holds (a.tmps.getD t undef) w) (hg : Gd W0 ops F base N o) : Region.wanted o (yielded ops a.tmps) = true := by
  rcases hg with h | ⟨j, d, b, h, hd, hk, hlt, hF⟩
  · simp [Region.wanted, h]
  · have h1 := hf d hk
    rw [hF] at h1
    have h2 : a.tmps[d]? = some (.bool b) := by
      have : a.tmps.getD d undef = .bool b := h1.1
      rw [Array.getD_eq_getD_getElem?, Array.getElem?_eq_getElem (by omega)] at this
      rw [Array.getElem?_eq_getElem (by omega)]
      exact congrArg some this
    have h3 : ((ops[j]?).bind fun x => x.dst) = some d := hd
    simp [Region.wanted, h, yielded, h3, h2]
theorem at_val (hg : Gd W0 ops F base N o) (h : ∀ (a : Act) (w : World), (∀ t, known ops base o t = true → (F t).holds (a.tmps.getD t undef) w) →
    ∃ v w', (execOp a.eval o).run Tryz.prog w = .ok (.value v) w' ∧ Below w.heap.size w w' ∧ ∀ t, o.dst = some t → (F t).holds v w') : Ob ops Q F base N o := by
  intro a w K hN hb hp hK
  have hf := fun t (hk : known ops base o t = true) => known_fact hb hp hk
  rw [if_pos (gd_wanted hN hf hg)]
  obtain ⟨v, w', hr, hbw, hF⟩ := h a w hf
  unfold Oper.wp
  rw [hr]
  exact hK v w' hbw hF
theorem at_enter (hg : Gd W0 ops F base N o) (h : ∀ (a : Act) (w : World), (∀ t, known ops base o t = true → (F t).holds (a.tmps.getD t undef) w) →
    ∃ f args, (execOp a.eval o).run Tryz.prog w = .ok (.enter f args) w ∧ Calls Tryz.prog f args w fun e w' => ∃ v, e = .returned v ∧ Below w.heap.size w w' ∧ ∀ t, o.dst = some t → (F t).holds v w') : Ob ops Q F base N o := by
  intro a w K hN hb hp hK
  have hf := fun t (hk : known ops base o t = true) => known_fact hb hp hk
  rw [if_pos (gd_wanted hN hf hg)]
  obtain ⟨f, args, hr, hc⟩ := h a w hf
  unfold Oper.wp
  rw [hr]
  refine hc.mono ?_
  rintro e w' ⟨v, rfl, hbw, hF⟩
  exact hK v w' hbw hF
/-- An operation on one slot. -/
theorem at1 (t d : Nat) (u r : Value) (hd : o.dst = some d) (hg : Gd W0 ops F base N o) (hk : known ops base o t = true) (hv : F t = Fact.at_ W0 u) (hF : F d = Fact.at_ W0 r)
    (h : ∀ (a : Act) (w : World), Below W0.heap.size W0 w → a.eval (.tmp t) = u → (execOp a.eval o).run Tryz.prog w = .ok (.value r) w) : Ob ops Q F base N o :=
  at_val hg fun a w hf => by
    have h1 := hf t hk
    rw [hv] at h1
    exact ⟨r, w, h a w h1.2 h1.1, Below.refl _ _, fun s hs => by rw [hd] at hs; injection hs with hs; subst hs; rw [hF]; exact ⟨rfl, h1.2⟩⟩
/-- An operation on two slots. -/
theorem at2 (t s d : Nat) (u v r : Value) (hd : o.dst = some d) (hg : Gd W0 ops F base N o) (hk : known ops base o t = true) (hk2 : known ops base o s = true) (hv : F t = Fact.at_ W0 u) (hv2 : F s = Fact.at_ W0 v) (hF : F d = Fact.at_ W0 r)
    (h : ∀ (a : Act) (w : World), Below W0.heap.size W0 w → a.eval (.tmp t) = u → a.eval (.tmp s) = v → (execOp a.eval o).run Tryz.prog w = .ok (.value r) w) : Ob ops Q F base N o :=
  at_val hg fun a w hf => by
    have h1 := hf t hk
    rw [hv] at h1
    have h2 := hf s hk2
    rw [hv2] at h2
    exact ⟨r, w, h a w h1.2 h1.1 h2.1, Below.refl _ _, fun s hs => by rw [hd] at hs; injection hs with hs; subst hs; rw [hF]; exact ⟨rfl, h1.2⟩⟩
/-- A copy of a slot. -/
theorem atcopy (t d : Nat) (u : Value) (ho : o.op = .move (.tmp t) ∨ o.op = .assign (.tmp t)) (hd : o.dst = some d) (hg : Gd W0 ops F base N o) (hk : known ops base o t = true) (hv : F t = Fact.at_ W0 u) (hF : F d = Fact.at_ W0 u) : Ob ops Q F base N o :=
  at1 t d u u hd hg hk hv hF fun a w _ h => by
    have h' : a.eval (.tmp t) = u := h
    rcases ho with ho | ho <;> simp [execOp, ho, h']
/-- A choice whose flag is b. -/
theorem atpick (c t d : Nat) (b : Bool) (u : Value) (x y : Operand) (ho : o.op = .pick (.tmp c) x y) (hx : (if b then x else y) = .tmp t) (hd : o.dst = some d) (hg : Gd W0 ops F base N o) (hkc : known ops base o c = true) (hk : known ops base o t = true) (hc : F c = Fact.at_ W0 (.bool b)) (hv : F t = Fact.at_ W0 u) (hF : F d = Fact.at_ W0 u) : Ob ops Q F base N o :=
  at2 c t d (.bool b) u u hd hg hkc hk hc hv hF fun a w _ h1 h2 => by
    cases b
    · have hy : y = .tmp t := hx
      subst hy
      simp [execOp, ho, h1, h2, asBool]
    · have hy : x = .tmp t := hx
      subst hy
      simp [execOp, ho, h1, h2, asBool]
theorem atpickk (c d : Nat) (b : Bool) (u : Value) (x y : Operand) (ho : o.op = .pick (.tmp c) x y) (hx : (if b then x else y) = .const u) (hd : o.dst = some d) (hg : Gd W0 ops F base N o) (hkc : known ops base o c = true) (hc : F c = Fact.at_ W0 (.bool b)) (hF : F d = Fact.at_ W0 u) : Ob ops Q F base N o :=
  at1 c d (.bool b) u hd hg hkc hc hF fun a w _ h1 => by
    have hu : a.eval (.const u) = u := rfl
    cases b
    · have hy : y = .const u := hx
      subst hy
      simp [execOp, ho, h1, hu, asBool]
    · have hy : x = .const u := hx
      subst hy
      simp [execOp, ho, h1, hu, asBool]
/-- An operation whose guard is not met, or was not run. -/
theorem atskip (t0 j d t : Nat) (b : Bool) (v0 : Value) (hgd : o.guard = some (j, b)) (hdj : (ops[j]?).bind Oper.dst = some d) (hk : known ops base o d = true) (hlt : d < N) (hFd : F d = Fact.at_ W0 (.bool (!b)) ∨ F d = Fact.at_ W0 undef) (hk0 : known ops base o t0 = true) (hv0 : F t0 = Fact.at_ W0 v0) (ht : o.dst = some t) (hF : F t = Fact.at_ W0 undef) : Ob ops Q F base N o := by
  intro a w K hN hb hp hK
  have hbw : Below W0.heap.size W0 w := by
    have h1 := known_fact hb hp hk0
    rw [hv0] at h1
    exact h1.2
  have h1 := known_fact hb hp hk
  have h3 : ((ops[j]?).bind fun x => x.dst) = some d := hdj
  have h4 : a.tmps[d]? = some (.bool (!b)) ∨ a.tmps[d]? = some undef := by
    have hd : a.tmps[d]? = some (a.tmps.getD d undef) := by rw [Array.getD_eq_getD_getElem?, Array.getElem?_eq_getElem (by omega)]; rfl
    rcases hFd with h | h
    · rw [h] at h1; left; rw [hd, h1.1]
    · rw [h] at h1; right; rw [hd, h1.1]
  rw [if_neg (by rcases h4 with h | h <;> (cases b <;> simp [Region.wanted, hgd, yielded, h3, h, undef]))]
  exact hK undef w (Below.refl _ _) fun s hs => by rw [ht] at hs; injection hs with hs; subst hs; rw [hF]; exact ⟨rfl, hbw⟩
theorem Ib.at_ {u : Value} {w : World} {e : Ending} {w' : World} (hb : Below W0.heap.size W0 w) (h : Ib u w e w') : ∃ v, e = .returned v ∧ Below w.heap.size w w' ∧ (Fact.at_ W0 u).holds v w' := ⟨u, h.1, h.2, rfl, upG hb h.2⟩
theorem Is.ib {u : Value} {w : World} {e : Ending} {w' : World} (h : Is u w e w') : Ib u w e w' := ⟨h.1, h.2 ▸ Below.refl _ _⟩
/-- Calls. -/
theorem atc0 (f : FuncId) (t0 d : Nat) (v0 r : Value) (tys : Array TypeId) (ho : o.op = .call { callee := .value (.func f), args := #[], argTypes := tys }) (hd : o.dst = some d) (hg : Gd W0 ops F base N o) (hk0 : known ops base o t0 = true) (hv0 : F t0 = Fact.at_ W0 v0) (hfn : fnOk f = true) (hF : F d = Fact.at_ W0 r)
    (hc : ∀ w, Below W0.heap.size W0 w → Calls Tryz.prog f #[] w (Ib r w)) : Ob ops Q F base N o :=
  at_enter hg fun a w hf => by
    have h1 := hf t0 hk0
    rw [hv0] at h1
    refine ⟨f, #[], by simpa [execOp, ho, resolve, Act.eval] using run_invoke hfn _ w, (hc w h1.2).mono fun e w' h => ?_⟩
    obtain ⟨v, h2, h3, h4⟩ := Ib.at_ h1.2 h
    exact ⟨v, h2, h3, fun s hs => by rw [hd] at hs; injection hs with hs; subst hs; rw [hF]; exact h4⟩
theorem atc1 (f : FuncId) (t d : Nat) (u r : Value) (tys : Array TypeId) (ho : o.op = .call { callee := .value (.func f), args := #[.tmp t], argTypes := tys }) (hd : o.dst = some d) (hg : Gd W0 ops F base N o) (hk : known ops base o t = true) (hv : F t = Fact.at_ W0 u) (hfn : fnOk f = true) (hF : F d = Fact.at_ W0 r)
    (hc : ∀ w, Below W0.heap.size W0 w → Calls Tryz.prog f #[u] w (Ib r w)) : Ob ops Q F base N o :=
  at_enter hg fun a w hf => by
    have h1 := hf t hk
    rw [hv] at h1
    have h1' : a.tmps.getD t undef = u := h1.1
    refine ⟨f, #[u], by rw [← h1']; simpa [execOp, ho, resolve, Act.eval] using run_invoke hfn _ w, (hc w h1.2).mono fun e w' h => ?_⟩
    obtain ⟨v, h2, h3, h4⟩ := Ib.at_ h1.2 h
    exact ⟨v, h2, h3, fun s hs => by rw [hd] at hs; injection hs with hs; subst hs; rw [hF]; exact h4⟩
theorem atc2 (f : FuncId) (t s d : Nat) (u v r : Value) (tys : Array TypeId) (ho : o.op = .call { callee := .value (.func f), args := #[.tmp t, .tmp s], argTypes := tys }) (hd : o.dst = some d) (hg : Gd W0 ops F base N o) (hk : known ops base o t = true) (hk2 : known ops base o s = true) (hv : F t = Fact.at_ W0 u) (hv2 : F s = Fact.at_ W0 v) (hfn : fnOk f = true) (hF : F d = Fact.at_ W0 r)
    (hc : ∀ w, Below W0.heap.size W0 w → Calls Tryz.prog f #[u, v] w (Ib r w)) : Ob ops Q F base N o :=
  at_enter hg fun a w hf => by
    have h1 := hf t hk
    rw [hv] at h1
    have h2 := hf s hk2
    rw [hv2] at h2
    have h1' : a.tmps.getD t undef = u := h1.1
    have h2' : a.tmps.getD s undef = v := h2.1
    refine ⟨f, #[u, v], by rw [← h1', ← h2']; simpa [execOp, ho, resolve, Act.eval] using run_invoke hfn _ w, (hc w h1.2).mono fun e w' h => ?_⟩
    obtain ⟨v, h2, h3, h4⟩ := Ib.at_ h1.2 h
    exact ⟨v, h2, h3, fun s hs => by rw [hd] at hs; injection hs with hs; subst hs; rw [hF]; exact h4⟩
theorem atc2k (f : FuncId) (t d : Nat) (u v r : Value) (tys : Array TypeId) (ho : o.op = .call { callee := .value (.func f), args := #[.tmp t, .const v], argTypes := tys }) (hd : o.dst = some d) (hg : Gd W0 ops F base N o) (hk : known ops base o t = true) (hv : F t = Fact.at_ W0 u) (hfn : fnOk f = true) (hF : F d = Fact.at_ W0 r)
    (hc : ∀ w, Below W0.heap.size W0 w → Calls Tryz.prog f #[u, v] w (Ib r w)) : Ob ops Q F base N o :=
  at_enter hg fun a w hf => by
    have h1 := hf t hk
    rw [hv] at h1
    have h1' : a.tmps.getD t undef = u := h1.1
    refine ⟨f, #[u, v], by rw [← h1']; simpa [execOp, ho, resolve, Act.eval] using run_invoke hfn _ w, (hc w h1.2).mono fun e w' h => ?_⟩
    obtain ⟨v, h2, h3, h4⟩ := Ib.at_ h1.2 h
    exact ⟨v, h2, h3, fun s hs => by rw [hd] at hs; injection hs with hs; subst hs; rw [hF]; exact h4⟩
theorem atc3 (f : FuncId) (t s x d : Nat) (u v z r : Value) (tys : Array TypeId) (ho : o.op = .call { callee := .value (.func f), args := #[.tmp t, .tmp s, .tmp x], argTypes := tys }) (hd : o.dst = some d) (hg : Gd W0 ops F base N o) (hk : known ops base o t = true) (hk2 : known ops base o s = true) (hk3 : known ops base o x = true) (hv : F t = Fact.at_ W0 u) (hv2 : F s = Fact.at_ W0 v) (hv3 : F x = Fact.at_ W0 z) (hfn : fnOk f = true) (hF : F d = Fact.at_ W0 r)
    (hc : ∀ w, Below W0.heap.size W0 w → Calls Tryz.prog f #[u, v, z] w (Ib r w)) : Ob ops Q F base N o :=
  at_enter hg fun a w hf => by
    have h1 := hf t hk
    rw [hv] at h1
    have h2 := hf s hk2
    rw [hv2] at h2
    have h3 := hf x hk3
    rw [hv3] at h3
    have h1' : a.tmps.getD t undef = u := h1.1
    have h2' : a.tmps.getD s undef = v := h2.1
    have h3' : a.tmps.getD x undef = z := h3.1
    refine ⟨f, #[u, v, z], by rw [← h1', ← h2', ← h3']; simpa [execOp, ho, resolve, Act.eval] using run_invoke hfn _ w, (hc w h1.2).mono fun e w' h => ?_⟩
    obtain ⟨v, h2, h3, h4⟩ := Ib.at_ h1.2 h
    exact ⟨v, h2, h3, fun s hs => by rw [hd] at hs; injection hs with hs; subst hs; rw [hF]; exact h4⟩
end
end Go.Proofs.YthbhbpcjcnkkkaaGreatDoor
/-
  The reference's scan of a text that is too long; lists of tokens in memory; Same. No conditions but Go's own bounds.
-/
namespace Go.Proofs.YthbhbpcjcnkkkaaGreatDoor
open Go.RowKit
/-- The elements of the slice at A are the tokens l. -/
def Tr (w : World) (A : Option Addr) (l : List Tk) : Prop := l.length = 0 ∨ ∃ a : Addr, A = some a ∧ a.block < w.heap.size ∧ ∀ i (h : i < l.length),
  w.cell? ((a.add (i * 4)).add 0) = some (.int .i64 ((l[i]'h).kind : Int)) ∧ w.cell? ((a.add (i * 4)).add 1) = some (.string (bs (l[i]'h).text)) ∧ w.cell? ((a.add (i * 4)).add 2) = some (.int .i64 (l[i]'h).num) ∧ w.cell? ((a.add (i * 4)).add 3) = some (.int .i64 ((l[i]'h).at_ : Int))
theorem Tr.next {w w' : World} {A : Option Addr} {l : List Tk} (h : Tr w A l) (hb : Below w.heap.size w w') : Tr w' A l := by
  rcases h with h | ⟨a, h1, h2, h3⟩
  · exact .inl h
  · refine .inr ⟨a, h1, by have := hb.size; omega, fun i hi => ?_⟩
    obtain ⟨c0, c1, c2, c3⟩ := h3 i hi
    have ad : ∀ j, ((a.add (i * 4)).add j).block < w.heap.size := fun j => by rw [add_block, add_block]; exact h2
    exact ⟨(hb.cell (ad 0)).trans c0, (hb.cell (ad 1)).trans c1, (hb.cell (ad 2)).trans c2, (hb.cell (ad 3)).trans c3⟩
theorem tcells_at (l : List Tk) (i j : Nat) (h : i < l.length) (hj : j < 4) : (tcells l)[i * 4 + j]? = (tc (l[i]'h))[j]? := by
  induction l generalizing i with
  | nil => simp at h
  | cons t l ih =>
    have e : tcells (t :: l) = tc t ++ tcells l := by simp [tcells]
    have h4 : (tc t).length = 4 := rfl
    rw [e]
    cases i with
    | zero => rw [List.getElem?_append_left (by omega)]; simp
    | succ i =>
      rw [List.getElem?_append_right (by omega), h4, show (i + 1) * 4 + j - 4 = i * 4 + j by omega]
      exact ih i (by simpa using h)
theorem plain_add (g o k : Nat) : (⟨g, o, none⟩ : Addr).add k = ⟨g, o + k, none⟩ := by
  by_cases h : k = 0
  · subst h; rfl
  · simp [Addr.add, h]
theorem Ot.tr {B : Nat} {w : World} {v : Value} {l : List Tk} (h : Ot B w v l) : ∃ A c, v = .slice A l.length c ∧ l.length ≤ 9223372036854775807 ∧ Tr w A l := by
  obtain ⟨h0, h⟩ := h
  rcases h with ⟨rfl, hn⟩ | ⟨g, cap, cur, rfl, hB, hg, h1, h2, h3, h4⟩
  · exact ⟨none, 0, by rw [hn], by omega, .inl hn⟩
  · refine ⟨_, _, rfl, by simp only [maxLen] at h2; omega, .inr ⟨_, rfl, (Array.getElem?_eq_some_iff.1 hg).1, fun i hi => ?_⟩⟩
    have key : ∀ j, j < 4 → w.cell? (((⟨g, 0, none⟩ : Addr).add (i * 4)).add j) = (tc (l[i]'hi))[j]? := fun j hj => by
      rw [← tcells_at l i j hi hj, ← h4, List.getElem?_take_of_lt (by omega)]
      rw [show ((⟨g, 0, none⟩ : Addr).add (i * 4)).add j = ⟨g, i * 4 + j, none⟩ by rw [plain_add, plain_add, Nat.zero_add]]
      simp [World.cell?, hg]
    exact ⟨key 0 (by decide), key 1 (by decide), key 2 (by decide), key 3 (by decide)⟩
end Go.Proofs.YthbhbpcjcnkkkaaGreatDoor
/-
  The reference's scanner: NewScanner, Peek, Next, Mark, Word. No conditions but Go's own bounds.
-/
namespace Go.Proofs.YthbhbpcjcnkkkaaGreatDoor
open Go.RowKit
/-- What NewScanner leaves. -/
def NewP (R : Except (Nat × Nat) (List Tk)) (w : World) (e : Ending) (w' : World) : Prop := Below w.heap.size w w' ∧ match R with
  | .error (x, p) => e = .returned (.tuple #[.agg #[.slice none 0 0, .int .i64 0], .int .i64 (x : Int), .int .i64 (p : Int)])
  | .ok ts => ∃ v, e = .returned (.tuple #[.agg #[v, .int .i64 0], .int .i64 0, .int .i64 0]) ∧ Ot w.heap.size w' v ts
theorem NewP.err {R : Except (Nat × Nat) (List Tk)} {w w' : World} {x p : Nat} (h : R = .error (x, p)) (hb : Below w.heap.size w w') : NewP R w (.returned (.tuple #[.agg #[.slice none 0 0, .int .i64 0], .int .i64 (x : Int), .int .i64 (p : Int)])) w' := by
  subst h
  exact ⟨hb, rfl⟩
theorem NewP.ok {R : Except (Nat × Nat) (List Tk)} {w w' : World} {ts : List Tk} {v : Value} (h : R = .ok ts) (hb : Below w.heap.size w w') (ho : Ot w.heap.size w' v ts) : NewP R w (.returned (.tuple #[.agg #[v, .int .i64 0], .int .i64 0, .int .i64 0])) w' := by
  subst h
  exact ⟨hb, v, rfl, ho⟩
/-- A scanner at block g: its tokens, and the place of the next one. -/
structure Sn (w : World) (g : Nat) (A : Option Addr) (c : Nat) (l : List Tk) (j : Nat) : Prop where
  lt : g < w.heap.size
  c0 : w.cell? ⟨g, 0, none⟩ = some (.slice A l.length c)
  c1 : w.cell? ⟨g, 1, none⟩ = some (.int .i64 (j : Int))
  f1 : w.frozen? ⟨g, 1, none⟩ = false
  ne : ∀ a, A = some a → a.block ≠ g
  tr : Tr w A l
theorem Sn.next {w w' : World} {g : Nat} {A : Option Addr} {c : Nat} {l : List Tk} {j : Nat} (h : Sn w g A c l j) (hb : Below w.heap.size w w') : Sn w' g A c l j :=
  ⟨Nat.lt_of_lt_of_le h.lt hb.size, (hb.cell h.lt).trans h.c0, (hb.cell h.lt).trans h.c1, (hb.frozen h.lt).trans h.f1, h.ne, h.tr.next hb⟩
/-- A token as a value. -/
def Tk.val (t : Tk) : Value := .agg #[.int .i64 (t.kind : Int), .string (bs t.text), .int .i64 t.num, .int .i64 (t.at_ : Int)]
/-- A variable of four cells at block b. -/
structure V4 (w : World) (b : Nat) (x y z u : Value) : Prop where
  lt : b < w.heap.size
  c0 : w.cell? ⟨b, 0, none⟩ = some x
  c1 : w.cell? ⟨b, 1, none⟩ = some y
  c2 : w.cell? ⟨b, 2, none⟩ = some z
  c3 : w.cell? ⟨b, 3, none⟩ = some u
  f0 : w.frozen? ⟨b, 0, none⟩ = false
  f1 : w.frozen? ⟨b, 1, none⟩ = false
  f2 : w.frozen? ⟨b, 2, none⟩ = false
  f3 : w.frozen? ⟨b, 3, none⟩ = false
theorem V4.next {w w' : World} {b : Nat} {x y z u : Value} (h : V4 w b x y z u) (hb : Below w.heap.size w w') : V4 w' b x y z u :=
  ⟨Nat.lt_of_lt_of_le h.lt hb.size, (hb.cell h.lt).trans h.c0, (hb.cell h.lt).trans h.c1, (hb.cell h.lt).trans h.c2, (hb.cell h.lt).trans h.c3, (hb.frozen h.lt).trans h.f0, (hb.frozen h.lt).trans h.f1, (hb.frozen h.lt).trans h.f2, (hb.frozen h.lt).trans h.f3⟩
theorem V4.new (w : World) (x y z u : Value) (t : TypeId) : V4 (w.alloc (Obj.cells #[x, y, z, u] t)) w.heap.size x y z u :=
  ⟨by simp, by simp, by simp, by simp, by simp, by simp, by simp, by simp, by simp⟩
end Go.Proofs.YthbhbpcjcnkkkaaGreatDoor
/-
  The reference's scanner: NewScanner, Next, Mark, Word. No conditions but Go's own bounds.
-/
namespace Go.Proofs.YthbhbpcjcnkkkaaGreatDoor
open Go.RowKit
/-- A variable of two cells at block b. -/
structure V2 (w : World) (b : Nat) (x y : Value) : Prop where
  lt : b < w.heap.size
  c0 : w.cell? ⟨b, 0, none⟩ = some x
  c1 : w.cell? ⟨b, 1, none⟩ = some y
  f0 : w.frozen? ⟨b, 0, none⟩ = false
  f1 : w.frozen? ⟨b, 1, none⟩ = false
theorem V2.next {w w' : World} {b : Nat} {x y : Value} (h : V2 w b x y) (hb : Below w.heap.size w w') : V2 w' b x y :=
  ⟨Nat.lt_of_lt_of_le h.lt hb.size, (hb.cell h.lt).trans h.c0, (hb.cell h.lt).trans h.c1, (hb.frozen h.lt).trans h.f0, (hb.frozen h.lt).trans h.f1⟩
theorem V2.new (w : World) (x y : Value) (t : TypeId) : V2 (w.alloc (Obj.cells #[x, y] t)) w.heap.size x y :=
  ⟨by simp, by simp, by simp, by simp, by simp⟩
theorem Ot.low {B B' : Nat} {w : World} {v : Value} {l : List Tk} (h : Ot B w v l) (hB : B' ≤ B) : Ot B' w v l := by
  refine ⟨h.1, ?_⟩
  rcases h.2 with h1 | ⟨g, cap, cur, h1, h2, h3, h4⟩
  · exact .inl h1
  · exact .inr ⟨g, cap, cur, h1, Nat.le_trans hB h2, h3, h4⟩
theorem Ot.set {B : Nat} {w : World} {v : Value} {l : List Tk} (h : Ot B w v l) (b o : Nat) (x : Value) (hb : b < B) : Ot B (w.setCell ⟨b, o, none⟩ x) v l := by
  refine ⟨h.1, ?_⟩
  rcases h.2 with h1 | ⟨g, cap, cur, h1, h2, h3, h4⟩
  · exact .inl h1
  · exact .inr ⟨g, cap, cur, h1, h2, (Below.heap_setCell _ _ _ _ (fun e => by have : g = b := e; omega)).trans h3, h4⟩
end Go.Proofs.YthbhbpcjcnkkkaaGreatDoor
/-
  Contract of the developers' kindOf. No conditions.
-/
namespace Go.Proofs.YthbhbpcjcnkkkaaGreatDoor
open Go.RowKit
set_option maxRecDepth 100000 in
set_option maxHeartbeats 2000000 in
theorem kindOf_any (n : Nat) (hn : n < 256) (w : World) : Calls Tryz.prog 125 #[.int .i32 (n : Int)] w (Is (.int .i64 (kd n : Int)) w) := by
  go_enter Tryz.func125, Tryz.ntmps125
  go_wp2_with fail
  all_goals
    go_ret
    refine ret_is ?_
    simp only [beq_iff_eq, beq_eq_false_iff_ne, ne_eq] at *
    unfold kd
    repeat' split
    all_goals omega
end Go.Proofs.YthbhbpcjcnkkkaaGreatDoor
/-
  Contracts of the developers' kinds of characters: kindAt, slices.Contains over kinds, past. No conditions but Go's own bounds of a string's length.
-/
namespace Go.Proofs.YthbhbpcjcnkkkaaGreatDoor
open Go.RowKit
set_option maxRecDepth 100000 in
set_option maxHeartbeats 2000000 in
theorem kindAt_any (l : List UInt8) (a : Nat) (w : World) :
    Calls Tryz.prog 107 #[.string (bs l), .int .i64 (a : Int)] w (Is (.int .i64 (kat l a : Int)) w) := by
  have hsz : (bs l).size = l.length := rfl
  by_cases h : a < l.length
  · have h2 : a < (bs l).size := h
    have cK := fun W => kindOf_any (l[a]'h).toNat (UInt8.toNat_lt _) W
    rw [kat_lt h]
    have hb : ((bs l)[a]'h2).toNat = (l[a]'h).toNat := rfl
    generalize kd (l[a]'h).toNat = k at *
    have hn := UInt8.toNat_lt (l[a]'h)
    generalize (l[a]'h).toNat = n at *
    have hw : wrap32 (n : Int) = (n : Int) := by unfold wrap32; omega
    go_enter Tryz.func107, Tryz.ntmps107
    go_wp2_with fail
    refine (cK _).mono ?_
    rintro e w' ⟨rfl, rfl⟩
    go_wp2_with fail
    go_ret
    exact ret_is rfl
  · rw [kat_end (by omega)]
    have d1 : l.length ≤ a := by omega
    clear h
    go_enter Tryz.func107, Tryz.ntmps107
    go_wp2_with fail
    go_ret
    exact ret_is rfl
/-- The cells of a list of kinds. -/
def Ks (w : World) (g : Nat) (ks : List Nat) : Prop := ∀ j (h : j < ks.length), w.cell? ⟨g, j, none⟩ = some (.int .i64 ((ks[j]'h : Nat) : Int))
set_option maxRecDepth 100000 in
set_option maxHeartbeats 2000000 in
theorem index_any (g c k : Nat) (ks : List Nat) (w : World) (hn : ks.length ≤ 10) (hK : Ks w g ks) :
    Calls Tryz.prog 150 #[.slice (some ⟨g, 0, none⟩) ks.length c, .int .i64 (k : Int)] w (fun e w' => ∃ (r : Int) (n : Nat), e = .returned (.int .i64 r) ∧ w' = w.drewN n ∧ decide (0 ≤ r) = ks.contains k) := by
  have HK := Lib.hid hK
  clear hK
  obtain ⟨n, hn2⟩ : ∃ n, ks.length = n := ⟨_, rfl⟩
  rw [hn2] at hn ⊢
  go_enter Tryz.func150, Tryz.ntmps150
  go_wp2_with fail
  go_loopw [8] (fun v wr => ∃ (i m : Nat), i ≤ n ∧ v = .int .i64 (i : Int) ∧ wr = w.drewN m ∧ Hid ((ks.take i).contains k = false)) (fun v _ => n - (intOf v).toNat)
  case atStart => exact ⟨0, 0, by omega, rfl, rfl, Lib.hid rfl⟩
  case round =>
    obtain ⟨i, m, hi, rfl, rfl, hI⟩ := hrel
    by_cases hin : i < n
    · have c0 := HK.out i (by omega)
      have ht : ks.take (i + 1) = ks.take i ++ [ks[i]'(by omega)] := by rw [List.take_succ_eq_append_getElem (by omega)]
      obtain ⟨x, hx⟩ : ∃ x, ks[i]'(by omega) = x := ⟨_, rfl⟩
      rw [hx] at c0 ht
      replace c0 : (w.drewN m).cell? ⟨g, i, none⟩ = some (.int .i64 (x : Int)) := c0
      have ee := List.contains_eq_mem k (ks.take (i + 1))
      have hks : k = x → ks.contains k = true := fun e => by
        rw [List.contains_iff_mem, e, ← hx]
        exact List.getElem_mem _
      have hno : k ≠ x → (ks.take (i + 1)).contains k = false := fun e => by
        rw [ht, List.contains_eq_mem]
        have := hI.out
        rw [List.contains_eq_mem] at this
        simp only [decide_eq_false_iff_not, List.mem_append, List.mem_singleton] at this ⊢
        exact fun h => h.elim this e
      obtain ⟨f, hf⟩ : ∃ f, i + 1 = f := ⟨_, rfl⟩
      have l11 : (i : Int) + 1 = (f : Int) := by omega
      clear hI ht hx HK hn2 ee
      by_cases e : k = x
      · have E := Lib.hid (hks e)
        subst e
        clear hks hno
        go_wp2_with fail
        go_ret
        exact ⟨(i : Int), m, rfl, rfl, by rw [E.out]; simp⟩
      · rw [hf] at hno
        have E := Lib.hid (hno e)
        have d0 : ((k : Int) == (x : Int)) = false := by simp; omega
        clear hks hno
        go_wp2_with fail
        go_roundw
        case rel => exact ⟨f, m, by omega, rfl, rfl, E⟩
        case measure => simp [intOf]; omega
    · obtain rfl : i = n := by omega
      have E := Lib.hid (show ks.contains k = false by
        have := hI.out
        rwa [← hn2, List.take_length] at this)
      clear hI HK hn2
      go_wp2_with fail
      go_ret
      exact ⟨-1, m, rfl, rfl, by rw [E.out]; rfl⟩
set_option maxRecDepth 100000 in
theorem contains_any (g c k : Nat) (ks : List Nat) (w : World) (hn : ks.length ≤ 10) (hK : Ks w g ks) :
    Calls Tryz.prog 139 #[.slice (some ⟨g, 0, none⟩) ks.length c, .int .i64 (k : Int)] w (Iq (.bool (ks.contains k)) w) := by
  have cI := fun m => index_any g c k ks (w.drewN m) hn hK
  generalize ks.contains k = b at *
  clear hK hn
  go_enter Tryz.func139, Tryz.ntmps139
  go_wp2_with fail
  refine (cI 0).mono ?_
  rintro e w' ⟨r, n, rfl, rfl, hb⟩
  cases b
  all_goals
    go_wp2_with fail
    go_ret
    exact ⟨n, rfl, rfl⟩
theorem drewN_drewN (w : World) (a b : Nat) : (w.drewN a).drewN b = w.drewN (a + b) := by simp [World.drewN, Nat.add_assoc]
set_option maxRecDepth 100000 in
set_option maxHeartbeats 2000000 in
theorem past_any (g c : Nat) (ks : List Nat) (l : List UInt8) (a : Nat) (w : World) (hl : l.length ≤ 9223372036854775000) (ha : a ≤ l.length) (hn : ks.length ≤ 10) (hK : Ks w g ks) (h0 : ks.contains 0 = false) :
    Calls Tryz.prog 126 #[.string (bs l), .int .i64 (a : Int), .slice (some ⟨g, 0, none⟩) ks.length c] w (Iq (.int .i64 ((a + ((l.drop a).takeWhile (inK ks)).length : Nat) : Int)) w) := by
  have HK := Lib.hid hK
  obtain ⟨R, hR⟩ : ∃ R, a + ((l.drop a).takeWhile (inK ks)).length = R := ⟨_, rfl⟩
  rw [hR]
  have HR := Lib.hid hR
  clear hK hR
  obtain ⟨n, hn2⟩ : ∃ n, ks.length = n := ⟨_, rfl⟩
  have hn2 := Lib.hid hn2
  rw [hn2.out]
  go_enter Tryz.func126, Tryz.ntmps126
  go_wp2_with fail
  go_loopw [1] (fun v wr => ∃ (j m : Nat), j ≤ l.length ∧ v = .int .i64 (j : Int) ∧ wr = w.drewN m ∧ Hid (j + ((l.drop j).takeWhile (inK ks)).length = R)) (fun v _ => l.length - (intOf v).toNat)
  case atStart => exact ⟨a, 0, ha, rfl, rfl, HR⟩
  case round =>
    obtain ⟨j, m, hj, rfl, rfl, hI⟩ := hrel
    have c1 := fun W => kindAt_any l j W
    have c2 := fun q => contains_any g c (kat l j) ks (w.drewN q) hn HK.out
    have hx : Hid ((ks.contains (kat l j) = true ∧ j < l.length ∧ j + 1 + ((l.drop (j + 1)).takeWhile (inK ks)).length = R) ∨ (ks.contains (kat l j) = false ∧ j = R)) := by
      refine Lib.hid ?_
      have h := hI.out
      by_cases hlt : j < l.length
      · have t := tw_at (inK ks) l j hlt
        unfold inK at t
        rw [← kat_lt hlt] at t
        cases e : ks.contains (kat l j)
        · rw [e] at t
          exact .inr ⟨rfl, by rw [← h]; unfold inK; rw [if_neg (by simp)] at t; rw [t]; rfl⟩
        · rw [e, if_pos rfl] at t
          refine .inl ⟨rfl, hlt, ?_⟩
          rw [← h]
          unfold inK
          rw [t]
          omega
      · rw [kat_end (by omega), h0]
        refine .inr ⟨rfl, ?_⟩
        rw [← h, List.drop_eq_nil_of_le (by omega)]
        rfl
    rw [hn2.out] at c2
    generalize kat l j = k at *
    generalize ks.contains k = b at *
    have hb1 : Hid (b = true → j < l.length ∧ j + 1 + ((l.drop (j + 1)).takeWhile (inK ks)).length = R) := Lib.hid (fun e => by
      rcases hx.out with h | h
      · exact h.2
      · rw [e] at h; cases h.1)
    have hb2 : Hid (b = false → j = R) := Lib.hid (fun e => by
      rcases hx.out with h | h
      · rw [e] at h; cases h.1
      · exact h.2)
    clear hx hI HR
    go_wp2_with fail
    refine (c1 _).mono ?_
    rintro e w' ⟨rfl, rfl⟩
    go_wp2_with fail
    refine (c2 _).mono ?_
    rintro e w' ⟨q, rfl, rfl⟩
    rw [drewN_drewN]
    cases b
    · obtain rfl := hb2.out rfl
      go_wp2_with fail
      go_ret
      exact ⟨_, rfl, rfl⟩
    · have E := Lib.hid (hb1.out rfl).2
      have hj2 : j < l.length := (hb1.out rfl).1
      obtain ⟨f, hf⟩ : ∃ f, j + 1 = f := ⟨_, rfl⟩
      have l11 : (j : Int) + 1 = (f : Int) := by omega
      rw [hf] at E
      clear hb1 hb2
      go_wp2_with fail
      go_roundw
      case rel => exact ⟨f, m + q, by omega, rfl, rfl, E⟩
      case measure => simp [intOf]; omega
end Go.Proofs.YthbhbpcjcnkkkaaGreatDoor
/-
  Contracts of the developers' endOfLine, skip and joined. No conditions but Go's own bounds of a string's length.
-/
namespace Go.Proofs.YthbhbpcjcnkkkaaGreatDoor
open Go.RowKit
theorem Ks.of {w : World} {ks : List Nat} {t : TypeId} : Ks (w.alloc (Obj.cells (ks.map fun (k : Nat) => Value.int .i64 (k : Int)).toArray t)) w.heap.size ks := by
  intro j h
  rw [World.cell?]
  simp only [heap_alloc_new]
  simp [h]
theorem indexByte_eq (l : List UInt8) : (Lib.indexByte l 10 = -1 ∧ (l.takeWhile (fun c => c != 10)).length = l.length) ∨ (Lib.indexByte l 10 = ((l.takeWhile (fun c => c != 10)).length : Int) ∧ (l.takeWhile (fun c => c != 10)).length < l.length) := by
  induction l with
  | nil => exact .inl ⟨rfl, rfl⟩
  | cons c r ih =>
    unfold Lib.indexByte
    by_cases h : c = 10
    · subst h
      exact .inr ⟨rfl, by simp⟩
    · have h1 : (c == 10) = false := by simpa using h
      have h2 : (c != 10) = true := by simpa using h
      rw [List.takeWhile_cons_of_pos (p := fun c : UInt8 => c != 10) h2, if_neg (by simp [h1])]
      rcases ih with ⟨a, b⟩ | ⟨a, b⟩
      · rw [a]; exact .inl ⟨rfl, by simp [b]⟩
      · refine .inr ⟨?_, by simpa using b⟩
        rw [if_neg (by rw [a]; simp), a]
        simp
set_option maxRecDepth 100000 in
theorem joined_any (l : List UInt8) (a : Nat) (w : World) : Calls Tryz.prog 127 #[.string (bs l), .int .i64 (a : Int)] w (Is (.bool (jn l a)) w) := by
  have cK := fun W => kindAt_any l a W
  unfold jn
  generalize kat l a = k at *
  go_enter Tryz.func127, Tryz.ntmps127
  go_wp2_with fail
  refine (cK _).mono ?_
  rintro e w' ⟨rfl, rfl⟩
  go_wp2_with fail
  all_goals
    go_ret
    refine ret_bool2 ?_
    simp at *
    try omega
end Go.Proofs.YthbhbpcjcnkkkaaGreatDoor
/-
  Contracts of the developers' cutName. No conditions but Go's own bounds of a string's length.
-/
namespace Go.Proofs.YthbhbpcjcnkkkaaGreatDoor
open Go.RowKit
/-- What stands at a place, as a token. -/
def tokAt (l : List UInt8) (j : Nat) : Except (Nat × Nat) (Nat × List UInt8 × Int × Nat) := match l.drop j with | [] => .error (2, 0) | c :: r => tok c r
/-- What cut returns at place j. -/
def cutV (j : Nat) : Except (Nat × Nat) (Nat × List UInt8 × Int × Nat) → Value
  | .error (e, o) => .tuple #[.agg #[.int .i64 0, .string ⟨#[]⟩, .int .i64 0, .int .i64 0], .int .i64 (e : Int), .int .i64 ((j + o : Nat) : Int)]
  | .ok (kd, t, n, k) => .tuple #[.agg #[.int .i64 (kd : Int), .string (bs t), .int .i64 n, .int .i64 (j : Int)], .int .i64 0, .int .i64 ((j + k : Nat) : Int)]
theorem tokAt_cons {l : List UInt8} {j : Nat} (h : j < l.length) : tokAt l j = tok (l[j]'h) (l.drop (j + 1)) := by
  unfold tokAt
  rw [List.drop_eq_getElem_cons h]
/-- A name's token by what follows it. -/
theorem tokAt_name {l : List UInt8} {j m : Nat} (h : j < l.length) (hL : isL (l[j]'h) = true) (hm : j + ((l.drop j).takeWhile isW).length = m) :
    m ≤ l.length ∧ j < m ∧ ((16 < m - j ∧ tokAt l j = .error (3, 0)) ∨ (m - j ≤ 16 ∧ jn l m = true ∧ tokAt l j = .error (2, m - j)) ∨ (m - j ≤ 16 ∧ jn l m = false ∧ tokAt l j = .ok (1, (l.take m).drop j, 0, m - j))) := by
  have hd := List.drop_eq_getElem_cons h
  have hlen : ((l.drop j).takeWhile isW).length ≤ l.length - j := tw_le isW l j
  have hw : isW (l[j]'h) = true := by unfold isW; rw [hL]; rfl
  have hpos : 1 ≤ ((l.drop j).takeWhile isW).length := by
    rw [tw_at isW l j h, if_pos hw]; omega
  have e : m - j = ((l.drop j).takeWhile isW).length := by omega
  have hjn := jn_eq l m
  have hst := tw_stop isW l j
  have hsub : (l.take m).drop j = (l.drop j).takeWhile isW := by rw [← hm]; exact tw_prefix isW l j
  have hdh := drop_head l j ((l.drop j).takeWhile isW).length
  rw [hm] at hst hdh
  refine ⟨by omega, by omega, ?_⟩
  rw [tokAt_cons h]
  unfold tok
  rw [if_pos hL, ← hd]
  by_cases h16 : 16 < ((l.drop j).takeWhile isW).length
  · exact .inl ⟨by omega, by rw [if_pos h16]⟩
  · rw [if_neg h16, hdh]
    have hj : jn l m = decide (l[m]? = some 45) := by
      rw [hjn]
      by_cases hm2 : m < l.length
      · rw [List.getElem?_eq_getElem hm2]
        rw [Option.any_some, hst hm2, Bool.false_or, Bool.eq_iff_iff]
        simp
      · rw [List.getElem?_eq_none (by omega)]; rfl
    by_cases h45 : l[m]? = some 45
    · refine .inr (.inl ⟨by omega, by rw [hj]; simp [h45], ?_⟩)
      rw [if_pos h45, e]
    · refine .inr (.inr ⟨by omega, by rw [hj]; simp [h45], ?_⟩)
      rw [if_neg h45, e, hsub]
/-- What cut leaves. -/
def CutP (j : Nat) (R : Except (Nat × Nat) (Nat × List UInt8 × Int × Nat)) (w : World) (e : Ending) (w' : World) : Prop := e = .returned (cutV j R) ∧ Below w.heap.size w w'
set_option maxRecDepth 100000 in
set_option maxHeartbeats 2000000 in
theorem cutName_any (l : List UInt8) (j : Nat) (w : World) (hl : l.length ≤ 9223372036854775000) (h : j < l.length) (hL : isL (l[j]'h) = true) :
    Calls Tryz.prog 108 #[.string (bs l), .int .i64 (j : Int)] w (CutP j (tokAt l j) w) := by
  have hsz : (bs l).size = l.length := rfl
  obtain ⟨m, hm⟩ : ∃ m, j + ((l.drop j).takeWhile isW).length = m := ⟨_, rfl⟩
  obtain ⟨h1, h2, h3⟩ := tokAt_name h hL hm
  have ext : (bs l).extract j m = bs ((l.take m).drop j) := bs_slice l j m
  have V0 := V4.new w (.int .i64 0) (.string ⟨#[]⟩) (.int .i64 0) (.int .i64 0) 112
  have hg1 := grown1 (w := w) (Obj.cells #[.int .i64 0, .string ⟨#[]⟩, .int .i64 0, .int .i64 0] 112)
  have hs1 : (w.alloc (Obj.cells #[.int .i64 0, .string ⟨#[]⟩, .int .i64 0, .int .i64 0] 112)).heap.size = w.heap.size + 1 := by simp
  have hK := Ks.of (w := w.alloc (Obj.cells #[.int .i64 0, .string ⟨#[]⟩, .int .i64 0, .int .i64 0] 112)) (ks := [2, 3, 4]) (t := 131)
  have hg2 := grown1 (w := w.alloc (Obj.cells #[.int .i64 0, .string ⟨#[]⟩, .int .i64 0, .int .i64 0] 112)) (Obj.cells #[.int .i64 2, .int .i64 3, .int .i64 4] 131)
  rw [hs1] at hK
  have V0 := V0.next hg2
  have hg := Below.next hg1 hg2
  have cP := past_any (w.heap.size + 1) 3 [2, 3, 4] l j ((w.alloc (Obj.cells #[.int .i64 0, .string ⟨#[]⟩, .int .i64 0, .int .i64 0] 112)).alloc (Obj.cells #[.int .i64 2, .int .i64 3, .int .i64 4] 131)) hl (by omega) (by decide) hK rfl
  rw [inK_word, hm] at cP
  have cJ := fun W => joined_any l m W
  obtain ⟨d, hd⟩ : ∃ d, m - j = d := ⟨_, rfl⟩
  have l11 : (m : Int) - (j : Int) = (d : Int) := by omega
  have hd2 : d ≤ l.length := by omega
  have hjd : j + d = m := by omega
  rw [hd] at h3
  have X : ∃ b, jn l m = b := ⟨_, rfl⟩
  obtain ⟨b, hb⟩ := X
  rw [hb] at h3 cJ
  generalize (l.take m).drop j = T at *
  generalize tokAt l j = R at *
  clear hb hm hL hg1 hg2 hs1
  go_enter Tryz.func108, Tryz.ntmps108
  go_wp2_with fail
  refine cP.mono ?_
  rintro e w' ⟨q, rfl, rfl⟩
  have V1 := V0.next (below_drewN (Below.refl _ _) q)
  have hg := below_drewN hg q
  clear V0 hK
  generalize ((w.alloc (Obj.cells #[.int .i64 0, .string ⟨#[]⟩, .int .i64 0, .int .i64 0] 112)).alloc (Obj.cells #[.int .i64 2, .int .i64 3, .int .i64 4] 131)).drewN q = w2 at *
  obtain ⟨v0, v1, v2, v3, v4, v5, v6, v7, v8⟩ := V1
  rcases h3 with ⟨h3, rfl⟩ | ⟨h3, rfl, rfl⟩ | ⟨h3, rfl, rfl⟩
  · have d1 : decide ((16 : Int) < (d : Int)) = true := by simp; omega
    go_wp2_with fail
    refine bodyPost_ret (v := .tuple #[.agg #[.int .i64 0, .string ⟨#[]⟩, .int .i64 0, .int .i64 0], .int .i64 3, .int .i64 (j : Int)]) (by simp [results, Tryz.results108, go_sem, v1, v2, v3, v4]) rfl ⟨rfl, ?_⟩
    exact (((hg.setCell (by simp) _).setCell (by simp) _).setCell (by simp) _).setCell (by simp) _
  · have d1 : decide ((16 : Int) < (d : Int)) = false := by simp; omega
    go_wp2_with fail
    refine (cJ _).mono ?_
    rintro e w' ⟨rfl, rfl⟩
    go_wp2_with fail
    refine bodyPost_ret (v := .tuple #[.agg #[.int .i64 0, .string ⟨#[]⟩, .int .i64 0, .int .i64 0], .int .i64 2, .int .i64 (m : Int)]) (by simp [results, Tryz.results108, go_sem, v1, v2, v3, v4]) rfl ⟨by rw [← hjd]; rfl, ?_⟩
    exact (((hg.setCell (by simp) _).setCell (by simp) _).setCell (by simp) _).setCell (by simp) _
  · have d1 : decide ((16 : Int) < (d : Int)) = false := by simp; omega
    go_wp2_with fail
    refine (cJ _).mono ?_
    rintro e w' ⟨rfl, rfl⟩
    go_wp2_with fail
    refine bodyPost_ret (v := .tuple #[.agg #[.int .i64 1, .string (bs T), .int .i64 0, .int .i64 (j : Int)], .int .i64 0, .int .i64 (m : Int)]) (by simp [results, Tryz.results108, go_sem, v1, v2, v3, v4]) rfl ⟨by rw [← hjd]; rfl, ?_⟩
    exact (((hg.setCell (by simp) _).setCell (by simp) _).setCell (by simp) _).setCell (by simp) _
end Go.Proofs.YthbhbpcjcnkkkaaGreatDoor
/-
  Numbers: what ParseInt and isDecimal say of digits with an optional minus sign. No conditions beyond those that each names.
-/
namespace Go.Proofs.YthbhbpcjcnkkkaaGreatDoor
open Go.RowKit
def dstep (n : Nat) (c : UInt8) : Nat := 10 * n + (c.toNat - 48)
theorem dstep_ge (ds : List UInt8) (a : Nat) : a ≤ ds.foldl dstep a := by
  induction ds generalizing a with
  | nil => exact Nat.le_refl _
  | cons c r ih =>
    rw [List.foldl_cons]
    have := ih (dstep a c)
    unfold dstep at this ⊢
    omega
theorem dval_step (ds : List UInt8) : dval ds = ds.foldl dstep 0 := rfl
theorem pum (ds : List UInt8) (hd : ∀ c ∈ ds, isD c = true) : ∀ a, a ≤ 18446744073709551615 → Lib.parseUintM 18446744073709551615 a ds = if 18446744073709551615 < ds.foldl dstep a then .range else .ok (ds.foldl dstep a) := by
  induction ds with
  | nil =>
    intro a ha
    rw [Lib.parseUintM, List.foldl_nil, if_neg (by omega)]
  | cons c r ih =>
    intro a ha
    have hc := isD_in (hd c (by simp))
    have hge := dstep_ge r (dstep a c)
    have hds : dstep a c = 10 * a + (c.toNat - 48) := rfl
    rw [Lib.parseUintM, if_pos hc, List.foldl_cons]
    by_cases h1 : 1844674407370955162 ≤ a
    · rw [if_pos h1, if_pos (by omega)]
    · rw [if_neg h1]
      by_cases h2 : 18446744073709551615 < a * 10 + (c.toNat - 48)
      · rw [if_pos h2, if_pos (by omega)]
      · rw [if_neg h2, show a * 10 + (c.toNat - 48) = dstep a c by omega]
        exact ih (fun c hc => hd c (by simp [hc])) _ (by omega)
theorem pub (ds : List UInt8) (hd : ∀ c ∈ ds, isD c = true) (h0 : ds ≠ []) : Lib.parseUintB 64 ds = if 18446744073709551615 < dval ds then .range else .ok (dval ds) := by
  unfold Lib.parseUintB
  rw [if_neg h0]
  exact pum ds hd 0 (by decide)
theorem pib_pos (ds : List UInt8) (hd : ∀ c ∈ ds, isD c = true) (h0 : ds ≠ []) : Lib.parseIntB 64 ds = if 9223372036854775807 < dval ds then .range else .ok (dval ds : Int) := by
  have h := pub ds hd h0
  cases ds with
  | nil => exact absurd rfl h0
  | cons c r =>
    have hc := isD_in (hd c (by simp))
    unfold Lib.parseIntB
    simp only
    rw [if_neg (by omega), h]
    generalize dval (c :: r) = v
    by_cases h1 : 18446744073709551615 < v
    · rw [if_pos h1, if_pos (by omega)]
    · rw [if_neg h1]
      simp only
      by_cases h2 : 9223372036854775807 < v
      · rw [if_pos h2, if_pos ⟨by omega, by omega⟩]
      · rw [if_neg h2, if_neg (by omega), if_neg (by omega), if_neg (by omega)]
theorem pib_neg (ds : List UInt8) (hd : ∀ c ∈ ds, isD c = true) (h0 : ds ≠ []) : Lib.parseIntB 64 (45 :: ds) = if 9223372036854775808 < dval ds then .range else .ok (-(dval ds : Int)) := by
  have h := pub ds hd h0
  unfold Lib.parseIntB
  simp only
  rw [if_pos (.inr rfl), h]
  generalize dval ds = v
  have e : (45 : UInt8).toNat = 45 := rfl
  by_cases h1 : 18446744073709551615 < v
  · rw [if_pos h1, if_pos (by omega)]
  · rw [if_neg h1]
    simp only
    rw [if_neg (by omega)]
    by_cases h2 : 9223372036854775808 < v
    · rw [if_pos h2, if_pos ⟨e, by omega⟩]
    · rw [if_neg h2, if_neg (by omega), if_pos e]
/-- The text of a number. -/
def ntx (neg : Bool) (ds : List UInt8) : List UInt8 := if neg then 45 :: ds else ds
/-- Is a text a number in the only form that is accepted? -/
def nz (x : List UInt8) : Bool := match x with | [] => false | c :: _ => c != 48
def dcm (x : List UInt8) : Bool := x == [48] || nz (Lib.trimPrefix x [45])
theorem trim_neg (ds : List UInt8) : Lib.trimPrefix (45 :: ds) [45] = ds := by
  unfold Lib.trimPrefix Lib.hasPrefix
  simp
theorem trim_pos (ds : List UInt8) (hd : ∀ c ∈ ds, isD c = true) : Lib.trimPrefix ds [45] = ds := by
  unfold Lib.trimPrefix Lib.hasPrefix
  cases ds with
  | nil => rfl
  | cons c r =>
    have hc := isD_in (hd c (by simp))
    rw [if_neg]
    simp
    intro h
    subst h
    revert hc
    decide
theorem dcm_neg (ds : List UInt8) : dcm (45 :: ds) = nz ds := by
  unfold dcm
  rw [trim_neg]
  have : ((45 :: ds : List UInt8) == [48]) = false := by simp
  rw [this, Bool.false_or]
theorem dcm_pos (ds : List UInt8) (hd : ∀ c ∈ ds, isD c = true) : dcm ds = (ds == [48] || nz ds) := by
  unfold dcm
  rw [trim_pos ds hd]
theorem num_text (neg : Bool) (ds : List UInt8) (hd : ∀ c ∈ ds, isD c = true) :
    (dcm (ntx neg ds) = false ∧ numOf neg ds = .error 2) ∨ (dcm (ntx neg ds) = true ∧ Lib.parseIntB 64 (ntx neg ds) = .range ∧ numOf neg ds = .error 1) ∨
    ∃ n : Int, dcm (ntx neg ds) = true ∧ Lib.parseIntB 64 (ntx neg ds) = .ok n ∧ numOf neg ds = .ok n ∧ -9223372036854775808 ≤ n ∧ n ≤ 9223372036854775807 := by
  unfold numOf ntx
  cases ds with
  | nil =>
    left
    cases neg
    · exact ⟨rfl, rfl⟩
    · exact ⟨rfl, rfl⟩
  | cons c r =>
    cases neg
    · have hp := pib_pos (c :: r) hd (by simp)
      simp only [Bool.false_eq_true, if_false]
      rw [hp, dcm_pos _ hd]
      by_cases h48 : c = 48
      · subst h48
        cases r with
        | nil =>
          right; right
          exact ⟨0, rfl, rfl, rfl, by decide, by decide⟩
        | cons d r =>
          left
          exact ⟨by simp [nz], by rw [if_pos]; simp⟩
      · have e1 : nz (c :: r) = true := by simpa [nz] using h48
        generalize dval (c :: r) = v
        simp only [e1, Bool.or_true, true_and]
        rw [if_neg (by simp [h48])]
        by_cases h2 : 9223372036854775807 < v
        · right; left
          rw [if_pos h2, if_pos h2]
          exact ⟨rfl, rfl⟩
        · right; right
          rw [if_neg h2, if_neg h2]
          exact ⟨_, rfl, rfl, by omega, by omega⟩
    · have hp := pib_neg (c :: r) hd (by simp)
      simp only [if_true]
      rw [hp, dcm_neg]
      generalize dval (c :: r) = v
      by_cases h48 : c = 48
      · subst h48
        left
        exact ⟨rfl, by rw [if_pos]; simp⟩
      · have e1 : nz (c :: r) = true := by simpa [nz] using h48
        simp only [e1, true_and]
        rw [if_neg (by simp [h48])]
        by_cases h2 : 9223372036854775808 < v
        · right; left
          rw [if_pos h2, if_pos h2]
          exact ⟨rfl, rfl⟩
        · right; right
          rw [if_neg h2, if_neg h2]
          exact ⟨_, rfl, rfl, by omega, by omega⟩
end Go.Proofs.YthbhbpcjcnkkkaaGreatDoor

/-
  Obligations of a region's operations where each slot's value is told, and the world meets a predicate that growth keeps. No conditions beyond those that each names.
-/
import Derived.Test.YtndidbanbklonaaG5
import Derived.Test.YtndidbanbklonaaLa
namespace Go.Proofs.Ytndidbanbklonaa
open Go.RowKit
/-- Growth keeps S. -/
def Keeps (S : World → Prop) : Prop := ∀ w w' : World, S w → Below w.heap.size w w' → S w'
def Fact.atS (S : World → Prop) (hS : Keeps S) (u : Value) : Fact := ⟨fun v w => v = u ∧ S w, fun _ w w' ⟨h, hs⟩ hb => ⟨h, hS w w' hs hb⟩⟩
section
variable {ops : Array Oper} {Q : Exit → Act → World → Prop} {F : Nat → Fact} {base : List Nat} {N : Nat} {o : Oper} {S : World → Prop} {hS : Keeps S}
theorem ats_val (hg : o.guard = none) (h : ∀ (a : Act) (w : World), (∀ t, known ops base o t = true → (F t).holds (a.tmps.getD t undef) w) →
    ∃ v w', (execOp a.eval o).run Try.prog w = .ok (.value v) w' ∧ Below w.heap.size w w' ∧ ∀ t, o.dst = some t → (F t).holds v w') : Ob ops Q F base N o := by
  intro a w K _ hb hp hK
  have hf := fun t (hk : known ops base o t = true) => known_fact hb hp hk
  rw [if_pos (by simp [Region.wanted, hg])]
  obtain ⟨v, w', hr, hbw, hF⟩ := h a w hf
  unfold Oper.wp
  rw [hr]
  exact hK v w' hbw hF
theorem ats_enterR {R : World → World → Prop} {w0 : World} (hg : o.guard = none) (h : ∀ (a : Act) (w : World), (∀ t, known ops base o t = true → (F t).holds (a.tmps.getD t undef) w) → Below w0.heap.size w0 w →
    ∃ f args, (execOp a.eval o).run Try.prog w = .ok (.enter f args) w ∧ Calls Try.prog f args w fun e w' => ∃ v, e = .returned v ∧ R w w' ∧ ∀ t, o.dst = some t → (F t).holds v w') : ObR R w0 ops Q F base N o := by
  intro a w K _ hb hp hlow hK
  have hf := fun t (hk : known ops base o t = true) => known_fact hb hp hk
  rw [if_pos (by simp [Region.wanted, hg])]
  obtain ⟨f, args, hr, hc⟩ := h a w hf hlow
  unfold Oper.wp
  rw [hr]
  refine hc.mono ?_
  rintro e w' ⟨v, rfl, hbw, hF⟩
  exact hK v w' hbw hF
theorem ats1 (t d : Nat) (u r : Value) (hd : o.dst = some d) (hg : o.guard = none) (hk : known ops base o t = true) (hv : F t = Fact.atS S hS u) (hF : F d = Fact.atS S hS r)
    (h : ∀ (a : Act) (w : World), S w → a.eval (.tmp t) = u → (execOp a.eval o).run Try.prog w = .ok (.value r) w) : Ob ops Q F base N o :=
  ats_val hg fun a w hf => by
    have h1 := hf t hk
    rw [hv] at h1
    exact ⟨r, w, h a w h1.2 h1.1, Below.refl _ _, fun s hs => by rw [hd] at hs; injection hs with hs; subst hs; rw [hF]; exact ⟨rfl, h1.2⟩⟩
theorem ats2 (t s d : Nat) (u v r : Value) (hd : o.dst = some d) (hg : o.guard = none) (hk : known ops base o t = true) (hk2 : known ops base o s = true) (hv : F t = Fact.atS S hS u) (hv2 : F s = Fact.atS S hS v) (hF : F d = Fact.atS S hS r)
    (h : ∀ (a : Act) (w : World), S w → a.eval (.tmp t) = u → a.eval (.tmp s) = v → (execOp a.eval o).run Try.prog w = .ok (.value r) w) : Ob ops Q F base N o :=
  ats_val hg fun a w hf => by
    have h1 := hf t hk
    rw [hv] at h1
    have h2 := hf s hk2
    rw [hv2] at h2
    exact ⟨r, w, h a w h1.2 h1.1 h2.1, Below.refl _ _, fun s hs => by rw [hd] at hs; injection hs with hs; subst hs; rw [hF]; exact ⟨rfl, h1.2⟩⟩
theorem atscopy (t d : Nat) (u : Value) (ho : o.op = .move (.tmp t) ∨ o.op = .assign (.tmp t)) (hd : o.dst = some d) (hg : o.guard = none) (hk : known ops base o t = true) (hv : F t = Fact.atS S hS u) (hF : F d = Fact.atS S hS u) : Ob ops Q F base N o :=
  ats1 t d u u hd hg hk hv hF fun a w _ h => by
    have h' : a.eval (.tmp t) = u := h
    rcases ho with ho | ho <;> simp [execOp, ho, h']
end
/-- What all but one of the listed facts keep, all others keep. -/
theorem FF_keep {R : World → World → Prop} {dk : Nat} {ks : List (Nat × Fact)} (h : ∀ q ∈ ks, q.1 ≠ dk → ∀ v w w', q.2.holds v w → R w w' → q.2.holds v w') (t : Nat) (ht : t ≠ dk) (v : Value) (w w' : World) : (FF ks t).holds v w → R w w' → (FF ks t).holds v w' := by
  unfold FF
  cases e : ks.lookup t with
  | none => exact fun _ _ => trivial
  | some F =>
    have : (t, F) ∈ ks := by
      clear h
      induction ks with
      | nil => cases e
      | cons q ks ih =>
        obtain ⟨s, G⟩ := q
        rw [List.lookup_cons] at e
        cases hs : t == s with
        | true => rw [hs] at e; injection e with e; subst e; rw [show s = t from (by simpa using hs : t = s).symm]; exact List.mem_cons_self ..
        | false => rw [hs] at e; exact List.mem_cons_of_mem _ (ih e)
    exact h _ this ht v w w'
theorem atS_keep {R : World → World → Prop} {S : World → Prop} {hS : Keeps S} {u : Value} (h : ∀ w w', S w → R w w' → S w') : ∀ v w w', (Fact.atS S hS u).holds v w → R w w' → (Fact.atS S hS u).holds v w' := fun _ w w' ⟨h1, h2⟩ hr => ⟨h1, h w w' h2 hr⟩
end Go.Proofs.Ytndidbanbklonaa
